/- Part 5 of what the law needs: own work, put together. -/
import Derived.Test.YtildamklmoekaaaGreatDoorZp3
set_option linter.unusedVariables false
set_option linter.unusedSimpArgs false
set_option maxRecDepth 10000
set_option maxHeartbeats 4000000
namespace Go.Proofs.YtildamklmoekaaaGreatDoor
section
open Go.RowKit
attribute [local simp] bB AV.clean dB fX dS gB fR re re1 back back1 AV.plain AV.plain1 cT aK ren ren1 fadeS fadeV List.idxOf? List.findIdx? List.findIdx?.go nH dn dn1 dnN
structure aX where
 Weld : Bool
 Carve : Bool
 Paint : Bool
 deriving Inhabited
def aU (x : aX) : List AV:=[.bool x.Weld,.bool x.Carve,.bool x.Paint]
attribute [local simp] aU
def aE (x : aX) : AV:=.agg (aU x)
attribute [local simp] aE
theorem aEM (x : aX) : bB (aU x) = true:=by simp
theorem aEO (x : aX) : (aE x).clean = true:=aEM x
theorem dC (l : List aX) : bB (l.map aE) = true:=cR aEO l
attribute [local simp] dC
theorem oX (x : aX) (n : Nat) (σ : List Nat) : (aU x).mapM (re n σ) = some (aU x):=by simp
attribute [local simp] oX
structure bH where
 Float : Int
 Skill : Int
 Days : Int
 deriving Inhabited
def aW (x : bH) : List AV:=[i6 x.Float,i6 x.Skill,i6 x.Days]
attribute [local simp] aW
def aI (x : bH) : AV:=.agg (aW x)
attribute [local simp] aI
theorem aHE (x : bH) : bB (aW x) = true:=by simp
theorem aHF (x : bH) : (aI x).clean = true:=aHE x
theorem fE (l : List bH) : bB (l.map aI) = true:=cR aHF l
attribute [local simp] fE
theorem zF (x : bH) (n : Nat) (σ : List Nat) : (aW x).mapM (re n σ) = some (aW x):=by simp
attribute [local simp] zF
structure aH where
 Workers : (List aX)
 Jobs : (List bH)
 deriving Inhabited
def aB (x : aH) : List AV:=[.sl (x.Workers.map aE) none,.sl (x.Jobs.map aI) none]
attribute [local simp] aB
def aC (x : aH) : AV:=.agg (aB x)
attribute [local simp] aC
theorem aGG (x : aH) : bB (aB x) = true:=by simp
theorem aGJ (x : aH) : (aC x).clean = true:=aGG x
theorem dN (l : List aH) : bB (l.map aC) = true:=cR aGJ l
attribute [local simp] dN
theorem vE (x : aH) (n : Nat) (σ : List Nat) : (aB x).mapM (re n σ) = some (aB x):=by simp
attribute [local simp] vE
theorem zG (x y : aR) (h : cT x = cT y) : x = y:=by
 have h:=AV.agg.inj h
 simp only [aK,List.cons.injEq,AV.int.injEq,AV.bool.injEq,AV.str.injEq,AV.sl.injEq,true_and,and_true] at h
 have h0:=h
 obtain ⟨x0⟩:=x; obtain ⟨y0⟩:=y; simp_all
theorem zL (N : Nat) (d_1 : aR) (low_2 : Int) (high_3 : Int) (d_1z : aR) (low_2z : Int) (high_3z : Int) (r s : Int × aR) (hr : eA N d_1 low_2 high_3 = some r) (hs : eA N d_1z low_2z high_3z = some s) : iH ⟨27,[.ptr 0 0,i6 low_2,i6 high_3],[(aK d_1)],cY r,[(aK r.2)]⟩ ⟨27,[.ptr 0 0,i6 low_2z,i6 high_3z],[(aK d_1z)],cY s,[(aK s.2)]⟩:=by
 intro _ h1 h2
 have h1 : ([.ptr 0 0,i6 low_2,i6 high_3] : List AV) = [.ptr 0 0,i6 low_2z,i6 high_3z]:=h1
 have h2 : ([(aK d_1)] : List (List AV)) = [(aK d_1z)]:=h2
 obtain rfl : d_1 = d_1z:=zG _ _ (congrArg AV.agg (List.cons.inj h2).1)
 obtain rfl : low_2 = low_2z:=(yI _) _ _ (List.cons.inj (List.cons.inj h1).2).1
 obtain rfl : high_3 = high_3z:=(yI _) _ _ (List.cons.inj (List.cons.inj (List.cons.inj h1).2).2).1
 rw [hr] at hs; cases hs; exact ⟨rfl,rfl⟩
theorem mW (N : Nat) (d_1 : aR) (n_2 : Int) (d_1z : aR) (n_2z : Int) (r s : Bool × aR) (hr : dM N d_1 n_2 = some r) (hs : dM N d_1z n_2z = some s) : iH ⟨28,[.ptr 0 0,i6 n_2],[(aK d_1)],bV r,[(aK r.2)]⟩ ⟨28,[.ptr 0 0,i6 n_2z],[(aK d_1z)],bV s,[(aK s.2)]⟩:=by
 intro _ h1 h2
 have h1 : ([.ptr 0 0,i6 n_2] : List AV) = [.ptr 0 0,i6 n_2z]:=h1
 have h2 : ([(aK d_1)] : List (List AV)) = [(aK d_1z)]:=h2
 obtain rfl : d_1 = d_1z:=zG _ _ (congrArg AV.agg (List.cons.inj h2).1)
 obtain rfl : n_2 = n_2z:=(yI _) _ _ (List.cons.inj (List.cons.inj h1).2).1
 rw [hr] at hs; cases hs; exact ⟨rfl,rfl⟩
def lL (N : Nat) (d_1 : aR) (workers_2 : Int) (jobs_3 : Int) (days_4 : Int) : Option (aH × aR):=((eA N d_1 1 workers_2).bind fun r_5 => (letJ (fun (b_6 : Int) (b_7 : List aX) => ((cK N (⟨b_6⟩ : aR) (IntKind.i64.wrap (jobs_3 + 1))).bind fun r_23 => (letJ (fun (b_24 : Int) (b_25 : List bH) => some ((⟨b_7,b_25⟩ : aH),(⟨b_24⟩ : aR))) (fun k_26 => (loop3 (fun rec_32 (i_29 : Int) (b_30 : Int) (b_31 : List bH) => (bif (decide (i_29 > 0)) then ((cK N (⟨b_30⟩ : aR) 3).bind fun r_36 => ((eA N r_36.2 1 3).bind fun r_37 => ((eA N r_37.2 1 days_4).bind fun r_38 => ((iO b_31 ([(⟨r_36.1,r_37.1,r_38.1⟩ : bH)] : List bH)).bind fun l_40 => (rec_32 (IntKind.i64.wrap (i_29 - 1)) r_38.2.beat_ l_40))))) else (k_26 b_30 b_31))) N r_23.1 r_23.2.beat_ []))))) (fun k_8 => (loop3 (fun rec_14 (i_11 : Int) (b_12 : Int) (b_13 : List aX) => (bif (decide (i_11 > 0)) then ((dM N (⟨b_12⟩ : aR) 3).bind fun r_18 => ((dM N r_18.2 3).bind fun r_19 => ((dM N r_19.2 3).bind fun r_20 => ((iO b_13 ([(⟨(!r_18.1),(!r_19.1),(!r_20.1)⟩ : aX)] : List aX)).bind fun l_22 => (rec_14 (IntKind.i64.wrap (i_11 - 1)) r_20.2.beat_ l_22))))) else (k_8 b_12 b_13))) N r_5.1 r_5.2.beat_ []))))
def nQ (r : aH × aR) : AV:=(aC r.1)
attribute [local simp] nQ
theorem aCE (r : aH × aR) (n n2 m : Nat) : back n n2 m (nQ r) = some (nQ r):=by simp
theorem aCk (N : Nat) (d_1 : aR) (workers_2 : Int) (jobs_3 : Int) (days_4 : Int) (r : aH × aR) (h : lL N d_1 workers_2 jobs_3 days_4 = some r) : Does Tryz.prog 6 [.ptr 0 0,i6 workers_2,i6 jobs_3,i6 days_4] [(aK d_1)] fun v c => v = nQ r ∧ c = [(aK r.2)]:=by
 unfold lL at h
 refine Does.ofL comp6 _ _ rfl rfl ?_
 refine Ex.seq (rg 1 [0,1,2,3,8] (mkS 56 [(0,.ptr 0 0),(1,i6 workers_2),(2,i6 jobs_3),(3,i6 days_4),(8,.ptr 1 0)]) ⟨[(aK d_1),[.nils,.nils]],[]⟩ ?_)
 refine Ex.seq (rg 1 [0,1,2,3,8,9] (mkS 56 [(0,.ptr 0 0),(1,i6 workers_2),(2,i6 jobs_3),(3,i6 days_4),(8,.ptr 1 0),(9,.ptr 2 0)]) ⟨[(aK d_1),[.nils,.nils],[.nils,.nils]],[]⟩ ?_)
 refine Ex.seq (Ex.seq ?_)
 obtain ⟨r_5,hr_5,h⟩:=bE h
 refine Ex.reg (rn 2 [0,2,3,8,9,12,13] (mkS 56 [(0,.ptr 0 0),(2,i6 jobs_3),(3,i6 days_4),(8,.ptr 1 0),(9,.ptr 2 0),(12,.ptr 0 0),(13,i6 workers_2)]) ⟨[(aK d_1),[.nils,.nils],[.nils,.nils]],[]⟩ ?_)
 refine ExO.callL [0] [.ptr 0 0,i6 1,i6 workers_2] rfl rfl (by simp; try rfl) rfl (by simp) (oE N d_1 1 workers_2 r_5 hr_5) (oF _ _ _ _) (by simp) ?_
 refine rn 1 [0,2,3,8,9,10] (mkS 56 [(0,.ptr 0 0),(2,i6 jobs_3),(3,i6 days_4),(8,.ptr 1 0),(9,.ptr 2 0),(10,i6 r_5.1)]) ⟨[(aK r_5.2),[.nils,.nils],[.nils,.nils]],[]⟩ ?_
 refine ExO.nil ?_
 obtain ⟨K_9,hK_10,h⟩:=letE h
 refine Ex.blockJ (fun a S => ∃ (b_6 : Int),∃ (b_7 : List aX),K_9 b_6 b_7 = some r ∧ a = mkS 56 [(0,.ptr 0 0),(2,i6 jobs_3),(3,i6 days_4),(8,.ptr 1 0),(9,.ptr 2 0)] ∧ S = ⟨[[.int .u64 b_6],[.nils,.nils],[.sl (b_7.map aE) (some 0),.nils]],[(b_7.length,3)]⟩) ?_ ?_
 ·refine Ex.forget (nilB 2 0 3 [.nils,.nils] rfl rfl) ?_
  refine Ex.castA (a2:=mkS 56 [(0,.ptr 0 0),(2,i6 jobs_3),(3,i6 days_4),(8,.ptr 1 0),(9,.ptr 2 0),(10,i6 r_5.1)]) (S2:=⟨[(aK r_5.2),[.nils,.nils],[.sl (([] : List aX).map aE) (some 0),.nils]],[(0,3)]⟩) (by kernel_rfl) (by kernel_rfl) ?_
  obtain ⟨B_15,hB_16,h⟩:=vN h
  refine Ex.loopF (fun k a S => ∃ (i_11 : Int),∃ (b_12 : Int),∃ (b_13 : List aX),loop3 B_15 k i_11 b_12 b_13 = some r ∧ a = mkS 56 [(0,.ptr 0 0),(2,i6 jobs_3),(3,i6 days_4),(8,.ptr 1 0),(9,.ptr 2 0),(10,i6 i_11)] ∧ S = ⟨[[.int .u64 b_12],[.nils,.nils],[.sl (b_13.map aE) (some 0),.nils]],[(b_13.length,3)]⟩) N ⟨_,_,aM.refl _ _ _,r_5.1,r_5.2.beat_,[],h,rfl,rfl⟩ ?_
  rintro k a S ⟨i_11,b_12,b_13,h,rfl,rfl⟩
  cases k with
  | zero => exact (vL h).elim
  | succ k =>
   replace h:=vM h hB_16
   refine Ex.seq (Ex.seq ?_)
   refine rg 2 [0,2,3,8,9,10,16] (mkS 56 [(0,.ptr 0 0),(2,i6 jobs_3),(3,i6 days_4),(8,.ptr 1 0),(9,.ptr 2 0),(10,i6 i_11),(16,.bool (decide (i_11 > 0)))]) ⟨[[.int .u64 b_12],[.nils,.nils],[.sl (b_13.map aE) (some 0),.nils]],[(b_13.length,3)]⟩ ?_
   rcases aY h with ⟨hc_17,h⟩ | ⟨hc_17,h⟩
   ·refine Ex.condT _ rfl hc_17 ?_
    refine Ex.skip ?_
    refine Ex.seq ?_
    refine Ex.blockK ?_
    obtain ⟨r_18,hr_18,h⟩:=bE h
    obtain ⟨r_19,hr_19,h⟩:=bE h
    obtain ⟨r_20,hr_20,h⟩:=bE h
    have hT_21 : fH Tryz.prog [⟨28,[.ptr 0 0,i6 3],[[.int .u64 b_12]],(bV r_18),[(aK r_18.2)]⟩,⟨28,[.ptr 0 0,i6 3],[(aK r_18.2)],(bV r_19),[(aK r_19.2)]⟩,⟨28,[.ptr 0 0,i6 3],[(aK r_19.2)],(bV r_20),[(aK r_20.2)]⟩] ∧ eF [⟨28,[.ptr 0 0,i6 3],[[.int .u64 b_12]],(bV r_18),[(aK r_18.2)]⟩,⟨28,[.ptr 0 0,i6 3],[(aK r_18.2)],(bV r_19),[(aK r_19.2)]⟩,⟨28,[.ptr 0 0,i6 3],[(aK r_19.2)],(bV r_20),[(aK r_20.2)]⟩]:=⟨⟨(mZ N (⟨b_12⟩ : aR) 3 r_18 hr_18),rfl,(mZ N r_18.2 3 r_19 hr_19),rfl,(mZ N r_19.2 3 r_20 hr_20),rfl,trivial⟩,⟨⟨mW N (⟨b_12⟩ : aR) 3 r_18.2 3 r_18 r_19 hr_18 hr_19,mW N (⟨b_12⟩ : aR) 3 r_19.2 3 r_18 r_20 hr_18 hr_20,trivial⟩,⟨mW N r_18.2 3 r_19.2 3 r_19 r_20 hr_19 hr_20,trivial⟩,trivial,trivial⟩⟩
    refine Ex.drawE (a1:=mkS 56 [(0,.ptr 0 0),(2,i6 jobs_3),(3,i6 days_4),(8,.ptr 1 0),(9,.ptr 2 0),(10,i6 i_11),(16,.bool (decide (i_11 > 0))),(19,.ptr 2 0),(20,.sl (b_13.map aE) (some 0)),(21,.ptr 0 0),(22,.bool r_18.1),(23,.bool (!r_18.1)),(24,.ptr 0 0),(25,.bool r_19.1),(26,.bool (!r_19.1)),(27,.ptr 0 0),(28,.bool r_20.1),(29,.bool (!r_20.1)),(30,.agg [.bool (!r_18.1),.bool (!r_19.1),.bool (!r_20.1)]),(31,.sl (([(⟨(!r_18.1),(!r_19.1),(!r_20.1)⟩ : aX)] : List aX).map aE) (some 1))]) (dI hT_21.1) [] [(1,3)] [⟨[(aK r_18.2),[.nils,.nils],[.sl (b_13.map aE) (some 0),.nils]],[(b_13.length,3),(1,3)]⟩,⟨[(aK r_19.2),[.nils,.nils],[.sl (b_13.map aE) (some 0),.nils]],[(b_13.length,3),(1,3)]⟩,⟨[(aK r_20.2),[.nils,.nils],[.sl (b_13.map aE) (some 0),.nils]],[(b_13.length,3),(1,3)]⟩] ?_ ?_
    ·refine drS [1, 2] 3 [] [] (mkS 56 [(0, .ptr 0 0), (2, i6 jobs_3), (3, i6 days_4), (8, .ptr 1 0), (9, .ptr 2 0), (10, i6 i_11), (16, .bool (decide (i_11 > 0))), (19, .ptr 2 0), (20, .sl (b_13.map aE) (some 0)), (21, .ptr 0 0)]) (by simp) (by kernel_rfl) trivial (by kernel_rfl) ?_
     refine drB hT_21.2 0 _ [0] [.ptr 0 0,i6 3] (bV r_18) _ _ rfl rfl rfl rfl rfl rfl rfl rfl (by simp; try rfl) rfl (by simp) (nE _ _ _ _) (by simp) rfl ?_
     refine drS [1,2] 2 [] [] (mkS 56 [(0,.ptr 0 0),(2,i6 jobs_3),(3,i6 days_4),(8,.ptr 1 0),(9,.ptr 2 0),(10,i6 i_11),(16,.bool (decide (i_11 > 0))),(19,.ptr 2 0),(20,.sl (b_13.map aE) (some 0)),(21,.ptr 0 0),(22,.bool r_18.1),(23,.bool (!r_18.1)),(24,.ptr 0 0)]) (by simp) (by kernel_rfl) trivial (by kernel_rfl) ?_
     refine drB hT_21.2 1 _ [0] [.ptr 0 0,i6 3] (bV r_19) _ _ rfl rfl rfl rfl rfl rfl rfl rfl (by simp; try rfl) rfl (by simp) (nE _ _ _ _) (by simp) rfl ?_
     refine drS [1,2] 2 [] [] (mkS 56 [(0,.ptr 0 0),(2,i6 jobs_3),(3,i6 days_4),(8,.ptr 1 0),(9,.ptr 2 0),(10,i6 i_11),(16,.bool (decide (i_11 > 0))),(19,.ptr 2 0),(20,.sl (b_13.map aE) (some 0)),(21,.ptr 0 0),(22,.bool r_18.1),(23,.bool (!r_18.1)),(24,.ptr 0 0),(25,.bool r_19.1),(26,.bool (!r_19.1)),(27,.ptr 0 0)]) (by simp) (by kernel_rfl) trivial (by kernel_rfl) ?_
     refine drB hT_21.2 2 _ [0] [.ptr 0 0,i6 3] (bV r_20) _ _ rfl rfl rfl rfl rfl rfl rfl rfl (by simp; try rfl) rfl (by simp) (nE _ _ _ _) (by simp) rfl ?_
     refine drS [1,2] 2 [] [] (mkS 56 [(0,.ptr 0 0),(2,i6 jobs_3),(3,i6 days_4),(8,.ptr 1 0),(9,.ptr 2 0),(10,i6 i_11),(16,.bool (decide (i_11 > 0))),(19,.ptr 2 0),(20,.sl (b_13.map aE) (some 0)),(21,.ptr 0 0),(22,.bool r_18.1),(23,.bool (!r_18.1)),(24,.ptr 0 0),(25,.bool r_19.1),(26,.bool (!r_19.1)),(27,.ptr 0 0),(28,.bool r_20.1),(29,.bool (!r_20.1)),(30,.agg [.bool (!r_18.1),.bool (!r_19.1),.bool (!r_20.1)])]) (by simp) (by kernel_rfl) trivial (by kernel_rfl) ?_
     refine drR 1 3 (([(⟨(!r_18.1),(!r_19.1),(!r_20.1)⟩ : aX)] : List aX).map aE) rfl rfl (fun _ => by kernel_rfl) (by simp) rfl rfl ?_
     exact DrO.nil rfl
    ·dsimp only [List.getLastD_cons,List.getLastD_nil]
     obtain ⟨l_22,hl_22,h⟩:=bE h
     refine runH 3 [(0,.app (l_22.map aE) l_22.length)] [0,2,3,8,9,10] [LApp b_13.length (b_13.map aE) (([(⟨(!r_18.1),(!r_19.1),(!r_20.1)⟩ : aX)] : List aX).map aE) 3 (l_22.map aE) l_22.length] (mkS 56 [(0,.ptr 0 0),(2,i6 jobs_3),(3,i6 days_4),(8,.ptr 1 0),(9,.ptr 2 0),(10,i6 i_11)]) (⟨[(aK r_20.2),[.nils,.nils],[.sl (l_22.map aE) (some 0),.nils]],[(l_22.length,3),(1,3)]⟩) (by kernel_rfl) ⟨LApp.of hl_22 (fun _ => rfl),trivial⟩ ?_
     refine ExO.nil ?_
     refine rg 3 [0,2,3,8,9,10] (mkS 56 [(0,.ptr 0 0),(2,i6 jobs_3),(3,i6 days_4),(8,.ptr 1 0),(9,.ptr 2 0),(10,i6 (IntKind.i64.wrap (i_11 - 1)))]) ⟨[(aK r_20.2),[.nils,.nils],[.sl (l_22.map aE) (some 0),.nils]],[(l_22.length,3),(1,3)]⟩ ?_
     dsimp only
     exact ⟨_,_,bM (m:=56) 3 [0] [(0,.ptr 0 0),(2,i6 jobs_3),(3,i6 days_4),(8,.ptr 1 0),(9,.ptr 2 0),(10,i6 (IntKind.i64.wrap (i_11 - 1)))] [(aK r_20.2),[.nils,.nils],[.sl (l_22.map aE) (some 0),.nils]] [(l_22.length,3)] (by simp [bD]) (by simp) ⟨rfl,rfl,rfl,rfl,rfl,rfl,trivial⟩ (by simp) rfl (by decide),k,Nat.lt_succ_self k,(IntKind.i64.wrap (i_11 - 1)),r_20.2.beat_,l_22,h,rfl,rfl⟩
   ·refine Ex.condF _ rfl hc_17 ?_
    refine Ex.exit ?_
    (try simp only [reduceCtorEq,AEx.ex.injEq,Nat.reduceEqDiff,if_true,if_false])
    exact ⟨_,_,bQ [0,2,3,8,9],b_12,b_13,h,rfl,rfl⟩
 ·rintro a S ⟨b_6,b_7,h,rfl,rfl⟩
  subst hK_10
  refine Ex.seq (Ex.seq ?_)
  obtain ⟨r_23,hr_23,h⟩:=bE h
  refine Ex.reg (rn 3 [0,3,8,9,34,36] (mkS 56 [(0,.ptr 0 0),(3,i6 days_4),(8,.ptr 1 0),(9,.ptr 2 0),(34,.ptr 0 0),(36,i6 (IntKind.i64.wrap (jobs_3 + 1)))]) ⟨[[.int .u64 b_6],[.nils,.nils],[.sl (b_7.map aE) (some 0),.nils]],[(b_7.length,3)]⟩ ?_)
  refine ExO.callL [0] [.ptr 0 0,i6 (IntKind.i64.wrap (jobs_3 + 1))] rfl rfl (by simp; try rfl) rfl (by simp) (fC N (⟨b_6⟩ : aR) (IntKind.i64.wrap (jobs_3 + 1)) r_23 hr_23) (fD _ _ _ _) (by simp) ?_
  refine rn 1 [0,3,8,9,11] (mkS 56 [(0,.ptr 0 0),(3,i6 days_4),(8,.ptr 1 0),(9,.ptr 2 0),(11,i6 r_23.1)]) ⟨[(aK r_23.2),[.nils,.nils],[.sl (b_7.map aE) (some 0),.nils]],[(b_7.length,3)]⟩ ?_
  refine ExO.nil ?_
  obtain ⟨K_27,hK_28,h⟩:=letE h
  refine Ex.blockJ (fun a S => ∃ (b_24 : Int),∃ (b_25 : List bH),K_27 b_24 b_25 = some r ∧ a = mkS 56 [(8,.ptr 1 0),(9,.ptr 2 0)] ∧ S = ⟨[[.int .u64 b_24],[.nils,.nils],[.sl (b_7.map aE) (some 0),.sl (b_25.map aI) (some 1)]],[(b_7.length,3),(b_25.length,3)]⟩) ?_ ?_
  ·refine Ex.forget (nilB 2 1 3 [.sl (b_7.map aE) (some 0),.nils] rfl rfl) ?_
   refine Ex.castA (a2:=mkS 56 [(0,.ptr 0 0),(3,i6 days_4),(8,.ptr 1 0),(9,.ptr 2 0),(11,i6 r_23.1)]) (S2:=⟨[(aK r_23.2),[.nils,.nils],[.sl (b_7.map aE) (some 0),.sl (([] : List bH).map aI) (some 1)]],[(b_7.length,3),(0,3)]⟩) (by kernel_rfl) (by kernel_rfl) ?_
   obtain ⟨B_33,hB_34,h⟩:=vN h
   refine Ex.loopF (fun k a S => ∃ (i_29 : Int),∃ (b_30 : Int),∃ (b_31 : List bH),loop3 B_33 k i_29 b_30 b_31 = some r ∧ a = mkS 56 [(0,.ptr 0 0),(3,i6 days_4),(8,.ptr 1 0),(9,.ptr 2 0),(11,i6 i_29)] ∧ S = ⟨[[.int .u64 b_30],[.nils,.nils],[.sl (b_7.map aE) (some 0),.sl (b_31.map aI) (some 1)]],[(b_7.length,3),(b_31.length,3)]⟩) N ⟨_,_,aM.refl _ _ _,r_23.1,r_23.2.beat_,[],h,rfl,rfl⟩ ?_
   rintro k a S ⟨i_29,b_30,b_31,h,rfl,rfl⟩
   cases k with
   | zero => exact (vL h).elim
   | succ k =>
    replace h:=vM h hB_34
    refine Ex.seq (Ex.seq ?_)
    refine rg 2 [0,3,8,9,11,39] (mkS 56 [(0,.ptr 0 0),(3,i6 days_4),(8,.ptr 1 0),(9,.ptr 2 0),(11,i6 i_29),(39,.bool (decide (i_29 > 0)))]) ⟨[[.int .u64 b_30],[.nils,.nils],[.sl (b_7.map aE) (some 0),.sl (b_31.map aI) (some 1)]],[(b_7.length,3),(b_31.length,3)]⟩ ?_
    rcases aY h with ⟨hc_35,h⟩ | ⟨hc_35,h⟩
    ·refine Ex.condT _ rfl hc_35 ?_
     refine Ex.skip ?_
     refine Ex.seq ?_
     refine Ex.blockK ?_
     obtain ⟨r_36,hr_36,h⟩:=bE h
     obtain ⟨r_37,hr_37,h⟩:=bE h
     obtain ⟨r_38,hr_38,h⟩:=bE h
     have hT_39 : fH Tryz.prog [⟨29,[.ptr 0 0,i6 3],[[.int .u64 b_30]],(fA r_36),[(aK r_36.2)]⟩,⟨27,[.ptr 0 0,i6 1,i6 3],[(aK r_36.2)],(cY r_37),[(aK r_37.2)]⟩,⟨27,[.ptr 0 0,i6 1,i6 days_4],[(aK r_37.2)],(cY r_38),[(aK r_38.2)]⟩] ∧ eF [⟨29,[.ptr 0 0,i6 3],[[.int .u64 b_30]],(fA r_36),[(aK r_36.2)]⟩,⟨27,[.ptr 0 0,i6 1,i6 3],[(aK r_36.2)],(cY r_37),[(aK r_37.2)]⟩,⟨27,[.ptr 0 0,i6 1,i6 days_4],[(aK r_37.2)],(cY r_38),[(aK r_38.2)]⟩]:=⟨⟨(fC N (⟨b_30⟩ : aR) 3 r_36 hr_36),rfl,(oE N r_36.2 1 3 r_37 hr_37),rfl,(oE N r_37.2 1 days_4 r_38 hr_38),rfl,trivial⟩,⟨⟨iH.ne rfl,iH.ne rfl,trivial⟩,⟨zL N r_36.2 1 3 r_37.2 1 days_4 r_37 r_38 hr_37 hr_38,trivial⟩,trivial,trivial⟩⟩
     refine Ex.drawE (a1:=mkS 56 [(0,.ptr 0 0),(3,i6 days_4),(8,.ptr 1 0),(9,.ptr 2 0),(11,i6 i_29),(39,.bool (decide (i_29 > 0))),(42,.ptr 2 1),(43,.sl (b_31.map aI) (some 1)),(44,.ptr 0 0),(45,i6 r_36.1),(46,.ptr 0 0),(47,i6 r_37.1),(48,.ptr 0 0),(49,i6 days_4),(50,i6 r_38.1),(51,.agg [i6 r_36.1,i6 r_37.1,i6 r_38.1]),(52,.sl (([(⟨r_36.1,r_37.1,r_38.1⟩ : bH)] : List bH).map aI) (some 2))]) (dI hT_39.1) [] [(1,3)] [⟨[(aK r_36.2),[.nils,.nils],[.sl (b_7.map aE) (some 0),.sl (b_31.map aI) (some 1)]],[(b_7.length,3),(b_31.length,3),(1,3)]⟩,⟨[(aK r_37.2),[.nils,.nils],[.sl (b_7.map aE) (some 0),.sl (b_31.map aI) (some 1)]],[(b_7.length,3),(b_31.length,3),(1,3)]⟩,⟨[(aK r_38.2),[.nils,.nils],[.sl (b_7.map aE) (some 0),.sl (b_31.map aI) (some 1)]],[(b_7.length,3),(b_31.length,3),(1,3)]⟩] ?_ ?_
     ·refine drS [1, 2] 3 [] [] (mkS 56 [(0, .ptr 0 0), (3, i6 days_4), (8, .ptr 1 0), (9, .ptr 2 0), (11, i6 i_29), (39, .bool (decide (i_29 > 0))), (42, .ptr 2 1), (43, .sl (b_31.map aI) (some 1)), (44, .ptr 0 0)]) (by simp) (by kernel_rfl) trivial (by kernel_rfl) ?_
      refine drB hT_39.2 0 _ [0] [.ptr 0 0,i6 3] (fA r_36) _ _ rfl rfl rfl rfl rfl rfl rfl rfl (by simp; try rfl) rfl (by simp) (fD _ _ _ _) (by simp) rfl ?_
      refine drS [1,2] 1 [] [] (mkS 56 [(0,.ptr 0 0),(3,i6 days_4),(8,.ptr 1 0),(9,.ptr 2 0),(11,i6 i_29),(39,.bool (decide (i_29 > 0))),(42,.ptr 2 1),(43,.sl (b_31.map aI) (some 1)),(44,.ptr 0 0),(45,i6 r_36.1),(46,.ptr 0 0)]) (by simp) (by kernel_rfl) trivial (by kernel_rfl) ?_
      refine drB hT_39.2 1 _ [0] [.ptr 0 0,i6 1,i6 3] (cY r_37) _ _ rfl rfl rfl rfl rfl rfl rfl rfl (by simp; try rfl) rfl (by simp) (oF _ _ _ _) (by simp) rfl ?_
      refine drS [1,2] 2 [] [] (mkS 56 [(0,.ptr 0 0),(3,i6 days_4),(8,.ptr 1 0),(9,.ptr 2 0),(11,i6 i_29),(39,.bool (decide (i_29 > 0))),(42,.ptr 2 1),(43,.sl (b_31.map aI) (some 1)),(44,.ptr 0 0),(45,i6 r_36.1),(46,.ptr 0 0),(47,i6 r_37.1),(48,.ptr 0 0),(49,i6 days_4)]) (by simp) (by kernel_rfl) trivial (by kernel_rfl) ?_
      refine drB hT_39.2 2 _ [0] [.ptr 0 0,i6 1,i6 days_4] (cY r_38) _ _ rfl rfl rfl rfl rfl rfl rfl rfl (by simp; try rfl) rfl (by simp) (oF _ _ _ _) (by simp) rfl ?_
      refine drS [1,2] 1 [] [] (mkS 56 [(0,.ptr 0 0),(3,i6 days_4),(8,.ptr 1 0),(9,.ptr 2 0),(11,i6 i_29),(39,.bool (decide (i_29 > 0))),(42,.ptr 2 1),(43,.sl (b_31.map aI) (some 1)),(44,.ptr 0 0),(45,i6 r_36.1),(46,.ptr 0 0),(47,i6 r_37.1),(48,.ptr 0 0),(49,i6 days_4),(50,i6 r_38.1),(51,.agg [i6 r_36.1,i6 r_37.1,i6 r_38.1])]) (by simp) (by kernel_rfl) trivial (by kernel_rfl) ?_
      refine drR 2 3 (([(⟨r_36.1,r_37.1,r_38.1⟩ : bH)] : List bH).map aI) rfl rfl (fun _ => by kernel_rfl) (by simp) rfl rfl ?_
      exact DrO.nil rfl
     ·dsimp only [List.getLastD_cons,List.getLastD_nil]
      obtain ⟨l_40,hl_40,h⟩:=bE h
      refine runH 3 [(0,.app (l_40.map aI) l_40.length)] [0,3,8,9,11] [LApp b_31.length (b_31.map aI) (([(⟨r_36.1,r_37.1,r_38.1⟩ : bH)] : List bH).map aI) 3 (l_40.map aI) l_40.length] (mkS 56 [(0,.ptr 0 0),(3,i6 days_4),(8,.ptr 1 0),(9,.ptr 2 0),(11,i6 i_29)]) (⟨[(aK r_38.2),[.nils,.nils],[.sl (b_7.map aE) (some 0),.sl (l_40.map aI) (some 1)]],[(b_7.length,3),(l_40.length,3),(1,3)]⟩) (by kernel_rfl) ⟨LApp.of hl_40 (fun _ => rfl),trivial⟩ ?_
      refine ExO.nil ?_
      refine rg 3 [0,3,8,9,11] (mkS 56 [(0,.ptr 0 0),(3,i6 days_4),(8,.ptr 1 0),(9,.ptr 2 0),(11,i6 (IntKind.i64.wrap (i_29 - 1)))]) ⟨[(aK r_38.2),[.nils,.nils],[.sl (b_7.map aE) (some 0),.sl (l_40.map aI) (some 1)]],[(b_7.length,3),(l_40.length,3),(1,3)]⟩ ?_
      dsimp only
      exact ⟨_,_,bM (m:=56) 3 [0,1] [(0,.ptr 0 0),(3,i6 days_4),(8,.ptr 1 0),(9,.ptr 2 0),(11,i6 (IntKind.i64.wrap (i_29 - 1)))] [(aK r_38.2),[.nils,.nils],[.sl (b_7.map aE) (some 0),.sl (l_40.map aI) (some 1)]] [(b_7.length,3),(l_40.length,3)] (by simp [bD]) (by simp) ⟨rfl,rfl,rfl,rfl,rfl,trivial⟩ (by simp) rfl (by decide),k,Nat.lt_succ_self k,(IntKind.i64.wrap (i_29 - 1)),r_38.2.beat_,l_40,h,rfl,rfl⟩
    ·refine Ex.condF _ rfl hc_35 ?_
     refine Ex.exit ?_
     (try simp only [reduceCtorEq,AEx.ex.injEq,Nat.reduceEqDiff,if_true,if_false])
     exact ⟨_,_,bQ [8,9],b_30,b_31,h,rfl,rfl⟩
  ·rintro a S ⟨b_24,b_25,h,rfl,rfl⟩
   subst hK_28
   refine Ex.seq (rg 2 [8] (mkS 56 [(8,.ptr 1 0)]) ⟨[[.int .u64 b_24],[.sl (b_7.map aE) (some 0),.sl (b_25.map aI) (some 1)],[.sl (b_7.map aE) (some 0),.sl (b_25.map aI) (some 1)]],[(b_7.length,3),(b_25.length,3)]⟩ ?_)
   refine Ex.ret ?_
   obtain rfl:=sJ h
   exact rt (.agg [.sl (b_7.map aE) (some 0),.sl (b_25.map aI) (some 1)])
def qR (N : Nat) (a_1 : (List Int)) (b_2 : (List Int)) : Option (Bool):=(bif (((a_1.length : Nat) : Int) != ((b_2.length : Nat) : Int)) then some false else (letJ (fun (_ : Unit) => some true) (fun k_4 => (loop1 (fun rec_8 (i_7 : Int) => (bif (decide (i_7 < ((a_1.length : Nat) : Int))) then ((getI a_1 i_7).bind fun x_12 => ((getI b_2 i_7).bind fun x_13 => (bif (x_12 != x_13) then some false else (rec_8 (IntKind.i64.wrap (i_7 + 1)))))) else (k_4 ()))) N 0))))
def nS (r : Bool) : AV:=.bool r
attribute [local simp] nS
theorem aCP (a_1 : (List Int)) (b_2 : (List Int)) : [.sl (a_1.map (AV.int .i64)) none,.sl (b_2.map (AV.int .i64)) none].mapM (ren []) = some [.sl (a_1.map (AV.int .i64)) none,.sl (b_2.map (AV.int .i64)) none]:=by simp
theorem aCG (r : Bool) (n n2 m : Nat) : back n n2 m (nS r) = some (nS r):=by simp
theorem aCm (N : Nat) (a_1 : (List Int)) (b_2 : (List Int)) (r : Bool) (h : qR N a_1 b_2 = some r) : Does Tryz.prog 24 [.sl (a_1.map (AV.int .i64)) none,.sl (b_2.map (AV.int .i64)) none] [] fun v c => v = nS r ∧ c = []:=by
 unfold qR at h
 refine Does.ofL comp24 _ _ rfl rfl ?_
 refine Ex.seq (rg 1 [0,1] (mkS 26 [(0,.sl (a_1.map (AV.int .i64)) none),(1,.sl (b_2.map (AV.int .i64)) none)]) ⟨[],[]⟩ ?_)
 refine Ex.seq (Ex.seq ?_)
 refine regH 5 [(1,.eq (i6 ((a_1.length : Nat) : Int))),(3,.eq (i6 ((b_2.length : Nat) : Int)))] [0,1,10] [AV.int .i64 (((a_1.map (AV.int .i64)).length : Nat) : Int) = AV.int .i64 ((a_1.length : Nat) : Int),AV.int .i64 (((b_2.map (AV.int .i64)).length : Nat) : Int) = AV.int .i64 ((b_2.length : Nat) : Int)] (mkS 26 [(0,.sl (a_1.map (AV.int .i64)) none),(1,.sl (b_2.map (AV.int .i64)) none),(10,.bool (((a_1.length : Nat) : Int) != ((b_2.length : Nat) : Int)))]) (⟨[],[]⟩) (by kernel_rfl) ⟨lenM _ _,lenM _ _,trivial⟩ rfl ?_
 rcases aY h with ⟨hc_3,h⟩ | ⟨hc_3,h⟩
 ·refine Ex.condT _ rfl hc_3 ?_
  refine Ex.seq (rg 1 [4] (mkS 26 [(4,.bool false)]) ⟨[],[]⟩ ?_)
  refine Ex.ret ?_
  obtain rfl:=sJ h
  exact rt (.bool false)
 ·refine Ex.condF _ rfl hc_3 ?_
  refine Ex.skip ?_
  refine Ex.seq (Ex.seq ?_)
  refine rg 1 [0,1,5] (mkS 26 [(0,.sl (a_1.map (AV.int .i64)) none),(1,.sl (b_2.map (AV.int .i64)) none),(5,i6 0)]) ⟨[],[]⟩ ?_
  obtain ⟨K_5,hK_6,h⟩:=letE h
  refine Ex.blockJ (fun a S => K_5 () = some r ∧ a = mkS 26 [] ∧ S = ⟨[],[]⟩) ?_ ?_
  ·obtain ⟨B_9,hB_10,h⟩:=iU h
   refine Ex.loopF (fun k a S => ∃ (i_7 : Int),loop1 B_9 k i_7 = some r ∧ a = mkS 26 [(0,.sl (a_1.map (AV.int .i64)) none),(1,.sl (b_2.map (AV.int .i64)) none),(5,i6 i_7)] ∧ S = ⟨[],[]⟩) N ⟨_,_,aM.refl _ _ _,0,h,rfl,rfl⟩ ?_
   rintro k a S ⟨i_7,h,rfl,rfl⟩
   cases k with
   | zero => exact (iS h).elim
   | succ k =>
    replace h:=iT h hB_10
    refine Ex.seq (Ex.seq ?_)
    refine regH 4 [(2,.eq (i6 ((a_1.length : Nat) : Int)))] [0,1,5,14] [AV.int .i64 (((a_1.map (AV.int .i64)).length : Nat) : Int) = AV.int .i64 ((a_1.length : Nat) : Int)] (mkS 26 [(0,.sl (a_1.map (AV.int .i64)) none),(1,.sl (b_2.map (AV.int .i64)) none),(5,i6 i_7),(14,.bool (decide (i_7 < ((a_1.length : Nat) : Int))))]) (⟨[],[]⟩) (by kernel_rfl) ⟨lenM _ _,trivial⟩ rfl ?_
    rcases aY h with ⟨hc_11,h⟩ | ⟨hc_11,h⟩
    ·refine Ex.condT _ rfl hc_11 ?_
     refine Ex.skip ?_
     refine Ex.seq ?_
     refine Ex.blockK ?_
     refine Ex.seq ?_
     obtain ⟨x_12,hx_12,h⟩:=bE h
     obtain ⟨x_13,hx_13,h⟩:=bE h
     refine Ex.drawE (a1:=mkS 26 [(0,.sl (a_1.map (AV.int .i64)) none),(1,.sl (b_2.map (AV.int .i64)) none),(5,i6 i_7),(14,.bool (decide (i_7 < ((a_1.length : Nat) : Int)))),(17,.sl (a_1.map (AV.int .i64)) none),(18,i6 i_7),(19,.rop [i6 x_12]),(20,i6 x_12),(21,.sl (b_2.map (AV.int .i64)) none),(22,i6 i_7),(23,.rop [i6 x_13]),(24,i6 x_13)]) (cP _) [] [] [] ?_ ?_
     ·refine drS [] 8 [(2, .rop [i6 x_12]), (6, .rop [i6 x_13])] [LGet (a_1.map (AV.int .i64)) i_7 1 [i6 x_12], LGet (b_2.map (AV.int .i64)) i_7 1 [i6 x_13]] (mkS 26 [(0, .sl (a_1.map (AV.int .i64)) none), (1, .sl (b_2.map (AV.int .i64)) none), (5, i6 i_7), (14, .bool (decide (i_7 < ((a_1.length : Nat) : Int)))), (17, .sl (a_1.map (AV.int .i64)) none), (18, i6 i_7), (19, .rop [i6 x_12]), (20, i6 x_12), (21, .sl (b_2.map (AV.int .i64)) none), (22, i6 i_7), (23, .rop [i6 x_13]), (24, i6 x_13)]) (by simp) (by kernel_rfl) ⟨LGet.of hx_12 rfl, LGet.of hx_13 rfl, trivial⟩ (by kernel_rfl) ?_
      exact DrO.nil rfl
     ·dsimp only [List.getLastD_cons,List.getLastD_nil]
      refine rn 1 [0,1,5,25] (mkS 26 [(0,.sl (a_1.map (AV.int .i64)) none),(1,.sl (b_2.map (AV.int .i64)) none),(5,i6 i_7),(25,.bool (x_12 != x_13))]) ⟨[],[]⟩ ?_
      refine ExO.nil ?_
      rcases aY h with ⟨hc_14,h⟩ | ⟨hc_14,h⟩
      ·refine Ex.condT _ rfl hc_14 ?_
       refine Ex.seq (rg 1 [4] (mkS 26 [(4,.bool false)]) ⟨[],[]⟩ ?_)
       refine Ex.ret ?_
       obtain rfl:=sJ h
       exact rt (.bool false)
      ·refine Ex.condF _ rfl hc_14 ?_
       refine Ex.skip ?_
       refine rg 3 [0,1,5] (mkS 26 [(0,.sl (a_1.map (AV.int .i64)) none),(1,.sl (b_2.map (AV.int .i64)) none),(5,i6 (IntKind.i64.wrap (i_7 + 1)))]) ⟨[],[]⟩ ?_
       dsimp only
       exact ⟨_,_,aM.refl _ _ _,k,Nat.lt_succ_self k,(IntKind.i64.wrap (i_7 + 1)),h,rfl,rfl⟩
    ·refine Ex.condF _ rfl hc_11 ?_
     refine Ex.exit ?_
     (try simp only [reduceCtorEq,AEx.ex.injEq,Nat.reduceEqDiff,if_true,if_false])
     exact ⟨_,_,bQ [],h,rfl,rfl⟩
  ·rintro a S ⟨h,rfl,rfl⟩
   subst hK_6
   refine Ex.seq (rg 1 [4] (mkS 26 [(4,.bool true)]) ⟨[],[]⟩ ?_)
   refine Ex.ret ?_
   obtain rfl:=sJ h
   exact rt (.bool true)
structure aG where
 Worker : Int
 Day : Int
 deriving Inhabited
def aN (x : aG) : List AV:=[i6 x.Worker,i6 x.Day]
attribute [local simp] aN
def aA (x : aG) : AV:=.agg (aN x)
attribute [local simp] aA
theorem aFI (x : aG) : bB (aN x) = true:=by simp
theorem aFK (x : aG) : (aA x).clean = true:=aFI x
theorem cF (l : List aG) : bB (l.map aA) = true:=cR aFK l
attribute [local simp] cF
theorem rN (x : aG) (n : Nat) (σ : List Nat) : (aN x).mapM (re n σ) = some (aN x):=by simp
attribute [local simp] rN
def gW (N : Nat) (a_1 : (List aG)) (b_2 : (List aG)) : Option (Bool):=(letJ (fun (same_3 : Bool) => some same_3) (fun k_4 => (loop2 (fun rec_9 (same_7 : Bool) (i_8 : Int) => (letJ (fun (y_12 : Bool) => (bif y_12 then ((getI a_1 i_8).bind fun x_18 => ((getI b_2 i_8).bind fun x_19 => (rec_9 ((x_18.Worker == x_19.Worker) && ((x_18.Day == x_19.Day) && true)) (IntKind.i64.wrap (i_8 + 1))))) else (k_4 same_7))) (fun k_13 => (bif same_7 then (k_13 (decide (i_8 < ((a_1.length : Nat) : Int)))) else (k_13 false))))) N (((a_1.length : Nat) : Int) == ((b_2.length : Nat) : Int)) 0)))
def lD (r : Bool) : AV:=.bool r
attribute [local simp] lD
theorem tC (a_1 : (List aG)) (b_2 : (List aG)) : [.sl (a_1.map aA) none,.sl (b_2.map aA) none].mapM (ren []) = some [.sl (a_1.map aA) none,.sl (b_2.map aA) none]:=by simp
theorem sZ (r : Bool) (n n2 m : Nat) : back n n2 m (lD r) = some (lD r):=by simp
theorem sV (N : Nat) (a_1 : (List aG)) (b_2 : (List aG)) (r : Bool) (h : gW N a_1 b_2 = some r) : Does Tryz.prog 17 [.sl (a_1.map aA) none,.sl (b_2.map aA) none] [] fun v c => v = lD r ∧ c = []:=by
 unfold gW at h
 refine Does.ofL comp17 _ _ rfl rfl ?_
 refine Ex.seq (rg 1 [0,1] (mkS 31 [(0,.sl (a_1.map aA) none),(1,.sl (b_2.map aA) none)]) ⟨[],[]⟩ ?_)
 refine Ex.seq ?_
 refine regH 6 [(1,.eq (i6 ((a_1.length : Nat) : Int))),(3,.eq (i6 ((b_2.length : Nat) : Int)))] [0,1,5] [AV.int .i64 (((a_1.map aA).length : Nat) : Int) = AV.int .i64 ((a_1.length : Nat) : Int),AV.int .i64 (((b_2.map aA).length : Nat) : Int) = AV.int .i64 ((b_2.length : Nat) : Int)] (mkS 31 [(0,.sl (a_1.map aA) none),(1,.sl (b_2.map aA) none),(5,.bool (((a_1.length : Nat) : Int) == ((b_2.length : Nat) : Int)))]) (⟨[],[]⟩) (by kernel_rfl) ⟨lenM _ _,lenM _ _,trivial⟩ rfl ?_
 refine Ex.seq (Ex.seq ?_)
 refine rg 1 [0,1,5,6] (mkS 31 [(0,.sl (a_1.map aA) none),(1,.sl (b_2.map aA) none),(5,.bool (((a_1.length : Nat) : Int) == ((b_2.length : Nat) : Int))),(6,i6 0)]) ⟨[],[]⟩ ?_
 obtain ⟨K_5,hK_6,h⟩:=letE h
 refine Ex.blockJ (fun a S => ∃ (same_3 : Bool),K_5 same_3 = some r ∧ a = mkS 31 [(5,.bool same_3)] ∧ S = ⟨[],[]⟩) ?_ ?_
 ·obtain ⟨B_10,hB_11,h⟩:=gP h
  refine Ex.loopF (fun k a S => ∃ (same_7 : Bool),∃ (i_8 : Int),loop2 B_10 k same_7 i_8 = some r ∧ a = mkS 31 [(0,.sl (a_1.map aA) none),(1,.sl (b_2.map aA) none),(5,.bool same_7),(6,i6 i_8)] ∧ S = ⟨[],[]⟩) N ⟨_,_,aM.refl _ _ _,(((a_1.length : Nat) : Int) == ((b_2.length : Nat) : Int)),0,h,rfl,rfl⟩ ?_
  rintro k a S ⟨same_7,i_8,h,rfl,rfl⟩
  cases k with
  | zero => exact (gN h).elim
  | succ k =>
   replace h:=gO h hB_11
   refine Ex.seq ?_
   obtain ⟨K_14,hK_15,h⟩:=letE h
   refine Ex.seqJ (fun a S => ∃ (y_12 : Bool),K_14 y_12 = some r ∧ a = mkS 31 [(0,.sl (a_1.map aA) none),(1,.sl (b_2.map aA) none),(5,.bool same_7),(6,i6 i_8),(18,.bool y_12)] ∧ S = ⟨[],[]⟩) ?_ ?_
   ·rcases aY h with ⟨hc_16,h⟩ | ⟨hc_16,h⟩
    ·refine regH 7 [(1, .eq (.bool true)), (4, .eq (i6 ((a_1.length : Nat) : Int)))] [0, 1, 5, 6, 18] [AV.bool same_7 = AV.bool true, AV.int .i64 (((a_1.map aA).length : Nat) : Int) = AV.int .i64 ((a_1.length : Nat) : Int)] (mkS 31 [(0, .sl (a_1.map aA) none), (1, .sl (b_2.map aA) none), (5, .bool same_7), (6, i6 i_8), (18, .bool (decide (i_8 < ((a_1.length : Nat) : Int))))]) (⟨[], []⟩) (by kernel_rfl) ⟨congrArg AV.bool hc_16, lenM _ _, trivial⟩ rfl ?_
     (try simp only [reduceCtorEq,AEx.ex.injEq,Nat.reduceEqDiff,if_true,if_false])
     exact ⟨_,_,aM.refl _ _ _,(decide (i_8 < ((a_1.length : Nat) : Int))),h,rfl,rfl⟩
    ·refine regH 7 [(1, .eq (.bool false))] [0, 1, 5, 6, 18] [AV.bool same_7 = AV.bool false] (mkS 31 [(0, .sl (a_1.map aA) none), (1, .sl (b_2.map aA) none), (5, .bool same_7), (6, i6 i_8), (18, .bool false)]) (⟨[], []⟩) (by kernel_rfl) ⟨congrArg AV.bool hc_16, trivial⟩ rfl ?_
     (try simp only [reduceCtorEq,AEx.ex.injEq,Nat.reduceEqDiff,if_true,if_false])
     exact ⟨_,_,aM.refl _ _ _,false,h,rfl,rfl⟩
   ·rintro a S ⟨y_12,h,rfl,rfl⟩
    subst hK_15
    rcases aY h with ⟨hc_17,h⟩ | ⟨hc_17,h⟩
    ·refine Ex.condT _ rfl hc_17 ?_
     refine Ex.skip ?_
     refine Ex.seq ?_
     refine Ex.blockK ?_
     obtain ⟨x_18,hx_18,h⟩:=bE h
     obtain ⟨x_19,hx_19,h⟩:=bE h
     refine Ex.drawE (a1:=mkS 31 [(0,.sl (a_1.map aA) none),(1,.sl (b_2.map aA) none),(5,.bool same_7),(6,i6 i_8),(18,.bool y_12),(21,.sl (a_1.map aA) none),(22,i6 i_8),(23,.rop (aN x_18)),(24,(aA x_18)),(25,.sl (b_2.map aA) none),(26,i6 i_8),(27,.rop (aN x_19)),(28,(aA x_19))]) (cP _) [] [] [] ?_ ?_
     ·refine drS [] 8 [(2, .rop (aN x_18)), (6, .rop (aN x_19))] [LGet (a_1.map aA) i_8 2 (aN x_18), LGet (b_2.map aA) i_8 2 (aN x_19)] (mkS 31 [(0, .sl (a_1.map aA) none), (1, .sl (b_2.map aA) none), (5, .bool same_7), (6, i6 i_8), (18, .bool y_12), (21, .sl (a_1.map aA) none), (22, i6 i_8), (23, .rop (aN x_18)), (24, (aA x_18)), (25, .sl (b_2.map aA) none), (26, i6 i_8), (27, .rop (aN x_19)), (28, (aA x_19))]) (by simp) (by kernel_rfl) ⟨LGet.of hx_18 rfl, LGet.of hx_19 rfl, trivial⟩ (by kernel_rfl) ?_
      exact DrO.nil rfl
     ·dsimp only [List.getLastD_cons,List.getLastD_nil]
      refine rn 2 [0,1,5,6] (mkS 31 [(0,.sl (a_1.map aA) none),(1,.sl (b_2.map aA) none),(5,.bool ((x_18.Worker == x_19.Worker) && ((x_18.Day == x_19.Day) && true))),(6,i6 i_8)]) ⟨[],[]⟩ ?_
      refine ExO.nil ?_
      refine rg 3 [0,1,5,6] (mkS 31 [(0,.sl (a_1.map aA) none),(1,.sl (b_2.map aA) none),(5,.bool ((x_18.Worker == x_19.Worker) && ((x_18.Day == x_19.Day) && true))),(6,i6 (IntKind.i64.wrap (i_8 + 1)))]) ⟨[],[]⟩ ?_
      dsimp only
      exact ⟨_,_,aM.refl _ _ _,k,Nat.lt_succ_self k,((x_18.Worker == x_19.Worker) && ((x_18.Day == x_19.Day) && true)),(IntKind.i64.wrap (i_8 + 1)),h,rfl,rfl⟩
    ·refine Ex.condF _ rfl hc_17 ?_
     refine Ex.exit ?_
     (try simp only [reduceCtorEq,AEx.ex.injEq,Nat.reduceEqDiff,if_true,if_false])
     exact ⟨_,_,bQ [5],same_7,h,rfl,rfl⟩
 ·rintro a S ⟨same_3,h,rfl,rfl⟩
  subst hK_6
  refine Ex.seq (rg 2 [4] (mkS 31 [(4,.bool same_3)]) ⟨[],[]⟩ ?_)
  refine Ex.ret ?_
  obtain rfl:=sJ h
  exact rt (.bool same_3)
def dZ (N : Nat) (n_1 : Int) (least_2 : Int) (most_3 : Int) : Option (Bool):=(bif (decide (n_1 ≥ least_2)) then some (decide (n_1 ≤ most_3)) else some false)
def kX (r : Bool) : AV:=.bool r
attribute [local simp] kX
theorem jB (n_1 : Int) (least_2 : Int) (most_3 : Int) : [i6 n_1,i6 least_2,i6 most_3].mapM (ren []) = some [i6 n_1,i6 least_2,i6 most_3]:=by simp
theorem jA (r : Bool) (n n2 m : Nat) : back n n2 m (kX r) = some (kX r):=by simp
theorem iZ (N : Nat) (n_1 : Int) (least_2 : Int) (most_3 : Int) (r : Bool) (h : dZ N n_1 least_2 most_3 = some r) : Does Tryz.prog 57 [i6 n_1,i6 least_2,i6 most_3] [] fun v c => v = kX r ∧ c = []:=by
 unfold dZ at h
 refine Does.ofL comp57 _ _ rfl rfl ?_
 refine Ex.seq (rg 1 [0,1,2] (mkS 15 [(0,i6 n_1),(1,i6 least_2),(2,i6 most_3)]) ⟨[],[]⟩ ?_)
 refine Ex.seq ?_
 rcases aY h with ⟨hc_4,h⟩ | ⟨hc_4,h⟩
 ·refine regH 9 [(3, .eq (.bool true))] [6] [AV.bool (decide (n_1 ≥ least_2)) = AV.bool true] (mkS 15 [(6, .bool (decide (n_1 ≤ most_3)))]) (⟨[], []⟩) (by kernel_rfl) ⟨congrArg AV.bool hc_4, trivial⟩ rfl ?_
  refine Ex.ret ?_
  obtain rfl:=sJ h
  exact rt (.bool (decide (n_1 ≤ most_3)))
 ·refine regH 9 [(3, .eq (.bool false))] [6] [AV.bool (decide (n_1 ≥ least_2)) = AV.bool false] (mkS 15 [(6, .bool false)]) (⟨[], []⟩) (by kernel_rfl) ⟨congrArg AV.bool hc_4, trivial⟩ rfl ?_
  refine Ex.ret ?_
  obtain rfl:=sJ h
  exact rt (.bool false)
def fJ (N : Nat) (j_1 : bH) : Option (Int):=((dZ N j_1.Float 0 6).bind fun r_2 => (bif (!r_2) then some 2 else ((dZ N j_1.Skill 1 3).bind fun r_4 => (bif (!r_4) then some 3 else ((dZ N j_1.Days 1 30).bind fun r_6 => (bif (!r_6) then some 2 else some 0))))))
def jD (r : Int) : AV:=i6 r
attribute [local simp] jD
theorem xI (j_1 : bH) : [(aI j_1)].mapM (ren []) = some [(aI j_1)]:=by simp
theorem xF (r : Int) (n n2 m : Nat) : back n n2 m (jD r) = some (jD r):=by simp
theorem xA (N : Nat) (j_1 : bH) (r : Int) (h : fJ N j_1 = some r) : Does Tryz.prog 39 [(aI j_1)] [] fun v c => v = jD r ∧ c = []:=by
 unfold fJ at h
 refine Does.ofL comp39 _ _ rfl rfl ?_
 refine Ex.seq (rg 2 [1] (mkS 18 [(1,.ptr 0 0)]) ⟨[(aW j_1)],[]⟩ ?_)
 refine Ex.seq ?_
 refine Ex.blockK ?_
 refine Ex.seq ?_
 obtain ⟨r_2,hr_2,h⟩:=bE h
 refine Ex.reg (rn 2 [1,5] (mkS 18 [(1,.ptr 0 0),(5,i6 j_1.Float)]) ⟨[(aW j_1)],[]⟩ ?_)
 refine ExO.callL [] [i6 j_1.Float,i6 0,i6 6] rfl rfl (jB j_1.Float 0 6) rfl rfl (iZ N j_1.Float 0 6 r_2 hr_2) (jA _ _ _ _) rfl ?_
 refine rn 2 [1,3] (mkS 18 [(1,.ptr 0 0),(3,.bool (!r_2))]) ⟨[(aW j_1)],[]⟩ ?_
 refine ExO.nil ?_
 rcases aY h with ⟨hc_3,h⟩ | ⟨hc_3,h⟩
 ·refine Ex.condT _ rfl hc_3 ?_
  refine Ex.seq (rg 1 [2] (mkS 18 [(2,i6 2)]) ⟨[(aW j_1)],[]⟩ ?_)
  refine Ex.ret ?_
  obtain rfl:=sJ h
  exact rt (i6 2)
 ·refine Ex.condF _ rfl hc_3 ?_
  refine Ex.seq ?_
  obtain ⟨r_4,hr_4,h⟩:=bE h
  refine Ex.reg (rn 2 [1,10] (mkS 18 [(1,.ptr 0 0),(10,i6 j_1.Skill)]) ⟨[(aW j_1)],[]⟩ ?_)
  refine ExO.callL [] [i6 j_1.Skill,i6 1,i6 3] rfl rfl (jB j_1.Skill 1 3) rfl rfl (iZ N j_1.Skill 1 3 r_4 hr_4) (jA _ _ _ _) rfl ?_
  refine rn 2 [1,8] (mkS 18 [(1,.ptr 0 0),(8,.bool (!r_4))]) ⟨[(aW j_1)],[]⟩ ?_
  refine ExO.nil ?_
  rcases aY h with ⟨hc_5,h⟩ | ⟨hc_5,h⟩
  ·refine Ex.condT _ rfl hc_5 ?_
   refine Ex.seq (rg 1 [2] (mkS 18 [(2,i6 3)]) ⟨[(aW j_1)],[]⟩ ?_)
   refine Ex.ret ?_
   obtain rfl:=sJ h
   exact rt (i6 3)
  ·refine Ex.condF _ rfl hc_5 ?_
   refine Ex.seq ?_
   obtain ⟨r_6,hr_6,h⟩:=bE h
   refine Ex.reg (rn 2 [15] (mkS 18 [(15,i6 j_1.Days)]) ⟨[(aW j_1)],[]⟩ ?_)
   refine ExO.callL [] [i6 j_1.Days,i6 1,i6 30] rfl rfl (jB j_1.Days 1 30) rfl rfl (iZ N j_1.Days 1 30 r_6 hr_6) (jA _ _ _ _) rfl ?_
   refine rn 2 [13] (mkS 18 [(13,.bool (!r_6))]) ⟨[(aW j_1)],[]⟩ ?_
   refine ExO.nil ?_
   rcases aY h with ⟨hc_7,h⟩ | ⟨hc_7,h⟩
   ·refine Ex.condT _ rfl hc_7 ?_
    refine Ex.seq (rg 1 [2] (mkS 18 [(2,i6 2)]) ⟨[(aW j_1)],[]⟩ ?_)
    refine Ex.ret ?_
    obtain rfl:=sJ h
    exact rt (i6 2)
   ·refine Ex.condF _ rfl hc_7 ?_
    refine Ex.skip ?_
    refine Ex.seq (rg 1 [2] (mkS 18 [(2,i6 0)]) ⟨[(aW j_1)],[]⟩ ?_)
    refine Ex.ret ?_
    obtain rfl:=sJ h
    exact rt (i6 0)
def eN (N : Nat) (s_1 : aH) : Option (Int):=(bif (((s_1.Workers.length : Nat) : Int) == 0) then some 4 else (letJ (fun (y_3 : Bool) => (bif y_3 then some 5 else (letJ (fun (_ : Unit) => some 0) (fun k_9 => (loop1 (fun rec_13 (y_12 : Int) => (bif (decide (y_12 < ((s_1.Jobs.length : Nat) : Int))) then ((getI s_1.Jobs y_12).bind fun x_17 => ((fJ N x_17).bind fun r_18 => (bif (r_18 != 0) then some r_18 else (rec_13 (IntKind.i64.wrap (y_12 + 1)))))) else (k_9 ()))) N 0))))) (fun k_4 => (bif (decide (((s_1.Workers.length : Nat) : Int) > 4)) then (k_4 true) else (k_4 (decide (((s_1.Jobs.length : Nat) : Int) > 7)))))))
def bA (r : Int) : AV:=i6 r
attribute [local simp] bA
theorem vB (s_1 : aH) : [(aC s_1)].mapM (ren []) = some [(aC s_1)]:=by simp
theorem eS (r : Int) (n n2 m : Nat) : back n n2 m (bA r) = some (bA r):=by simp
theorem eR (N : Nat) (s_1 : aH) (r : Int) (h : eN N s_1 = some r) : Does Tryz.prog 14 [(aC s_1)] [] fun v c => v = bA r ∧ c = []:=by
 unfold eN at h
 refine Does.ofL comp14 _ _ rfl rfl ?_
 refine Ex.seq (rg 2 [1] (mkS 35 [(1,.ptr 0 0)]) ⟨[(aB s_1)],[]⟩ ?_)
 refine Ex.seq ?_
 refine Ex.blockK ?_
 refine Ex.seq ?_
 refine regH 5 [(2,.eq (i6 ((s_1.Workers.length : Nat) : Int)))] [1,6] [AV.int .i64 (((s_1.Workers.map aE).length : Nat) : Int) = AV.int .i64 ((s_1.Workers.length : Nat) : Int)] (mkS 35 [(1,.ptr 0 0),(6,.bool (((s_1.Workers.length : Nat) : Int) == 0))]) (⟨[(aB s_1)],[]⟩) (by kernel_rfl) ⟨lenM _ _,trivial⟩ rfl ?_
 rcases aY h with ⟨hc_2,h⟩ | ⟨hc_2,h⟩
 ·refine Ex.condT _ rfl hc_2 ?_
  refine Ex.seq (rg 1 [2] (mkS 35 [(2,i6 4)]) ⟨[(aB s_1)],[]⟩ ?_)
  refine Ex.ret ?_
  obtain rfl:=sJ h
  exact rt (i6 4)
 ·refine Ex.condF _ rfl hc_2 ?_
  obtain ⟨K_5,hK_6,h⟩:=letE h
  refine Ex.seqJ (fun a S => ∃ (y_3 : Bool),K_5 y_3 = some r ∧ a = mkS 35 [(1,.ptr 0 0),(11,.bool y_3)] ∧ S = ⟨[(aB s_1)],[]⟩) ?_ ?_
  ·rcases aY h with ⟨hc_7,h⟩ | ⟨hc_7,h⟩
   ·refine regH 11 [(2, .eq (i6 ((s_1.Workers.length : Nat) : Int))), (4, .eq (.bool true))] [1, 11] [AV.int .i64 (((s_1.Workers.map aE).length : Nat) : Int) = AV.int .i64 ((s_1.Workers.length : Nat) : Int), AV.bool (decide (((s_1.Workers.length : Nat) : Int) > 4)) = AV.bool true] (mkS 35 [(1, .ptr 0 0), (11, .bool true)]) (⟨[(aB s_1)], []⟩) (by kernel_rfl) ⟨lenM _ _, congrArg AV.bool hc_7, trivial⟩ rfl ?_
    (try simp only [reduceCtorEq,AEx.ex.injEq,Nat.reduceEqDiff,if_true,if_false])
    exact ⟨_,_,aM.refl _ _ _,true,h,rfl,rfl⟩
   ·refine regH 11 [(2, .eq (i6 ((s_1.Workers.length : Nat) : Int))), (4, .eq (.bool false)), (7, .eq (i6 ((s_1.Jobs.length : Nat) : Int)))] [1, 11] [AV.int .i64 (((s_1.Workers.map aE).length : Nat) : Int) = AV.int .i64 ((s_1.Workers.length : Nat) : Int), AV.bool (decide (((s_1.Workers.length : Nat) : Int) > 4)) = AV.bool false, AV.int .i64 (((s_1.Jobs.map aI).length : Nat) : Int) = AV.int .i64 ((s_1.Jobs.length : Nat) : Int)] (mkS 35 [(1, .ptr 0 0), (11, .bool (decide (((s_1.Jobs.length : Nat) : Int) > 7)))]) (⟨[(aB s_1)], []⟩) (by kernel_rfl) ⟨lenM _ _, congrArg AV.bool hc_7, lenM _ _, trivial⟩ rfl ?_
    (try simp only [reduceCtorEq,AEx.ex.injEq,Nat.reduceEqDiff,if_true,if_false])
    exact ⟨_,_,aM.refl _ _ _,(decide (((s_1.Jobs.length : Nat) : Int) > 7)),h,rfl,rfl⟩
  ·rintro a S ⟨y_3,h,rfl,rfl⟩
   subst hK_6
   rcases aY h with ⟨hc_8,h⟩ | ⟨hc_8,h⟩
   ·refine Ex.condT _ rfl hc_8 ?_
    refine Ex.seq (rg 1 [2] (mkS 35 [(2,i6 5)]) ⟨[(aB s_1)],[]⟩ ?_)
    refine Ex.ret ?_
    obtain rfl:=sJ h
    exact rt (i6 5)
   ·refine Ex.condF _ rfl hc_8 ?_
    refine Ex.skip ?_
    refine Ex.seq (Ex.seq ?_)
    refine regH 4 [(2,.eq (i6 ((s_1.Jobs.length : Nat) : Int)))] [23,24,25] [AV.int .i64 (((s_1.Jobs.map aI).length : Nat) : Int) = AV.int .i64 ((s_1.Jobs.length : Nat) : Int)] (mkS 35 [(23,.sl (s_1.Jobs.map aI) none),(24,i6 ((s_1.Jobs.length : Nat) : Int)),(25,i6 0)]) (⟨[(aB s_1)],[]⟩) (by kernel_rfl) ⟨lenM _ _,trivial⟩ rfl ?_
    obtain ⟨K_10,hK_11,h⟩:=letE h
    refine Ex.blockJ (fun a S => K_10 () = some r ∧ a = mkS 35 [] ∧ S = ⟨[],[]⟩) ?_ ?_
    ·obtain ⟨B_14,hB_15,h⟩:=iU h
     refine Ex.loopF (fun k a S => ∃ (y_12 : Int),loop1 B_14 k y_12 = some r ∧ a = mkS 35 [(23,.sl (s_1.Jobs.map aI) none),(24,i6 ((s_1.Jobs.length : Nat) : Int)),(25,i6 y_12)] ∧ S = ⟨[],[]⟩) N ⟨_,_,bM (m:=35) 0 [] [(23,.sl (s_1.Jobs.map aI) none),(24,i6 ((s_1.Jobs.length : Nat) : Int)),(25,i6 0)] [] [] (by simp [bD]) (by simp) ⟨(reN (fE _)),rfl,rfl,trivial⟩ (by simp) rfl (by decide),0,h,rfl,rfl⟩ ?_
     rintro k a S ⟨y_12,h,rfl,rfl⟩
     cases k with
     | zero => exact (iS h).elim
     | succ k =>
      replace h:=iT h hB_15
      refine Ex.seq (rg 1 [23,24,25,26] (mkS 35 [(23,.sl (s_1.Jobs.map aI) none),(24,i6 ((s_1.Jobs.length : Nat) : Int)),(25,i6 y_12),(26,.bool (decide (y_12 < ((s_1.Jobs.length : Nat) : Int))))]) ⟨[],[]⟩ ?_)
      refine Ex.seq ?_
      rcases aY h with ⟨hc_16,h⟩ | ⟨hc_16,h⟩
      ·refine Ex.condT _ rfl hc_16 ?_
       refine Ex.skip ?_
       refine Ex.seq ?_
       refine Ex.blockK ?_
       refine Ex.seq ?_
       obtain ⟨x_17,hx_17,h⟩:=bE h
       refine regH 4 [(0,.rop (aW x_17))] [4,23,24,25] [LGet (s_1.Jobs.map aI) y_12 3 (aW x_17)] (mkS 35 [(4,.ptr 0 0),(23,.sl (s_1.Jobs.map aI) none),(24,i6 ((s_1.Jobs.length : Nat) : Int)),(25,i6 y_12)]) (⟨[(aW x_17)],[]⟩) (by kernel_rfl) ⟨LGet.of hx_17 rfl,trivial⟩ rfl ?_
       refine Ex.seq ?_
       obtain ⟨r_18,hr_18,h⟩:=bE h
       refine Ex.reg (rn 1 [23,24,25,29] (mkS 35 [(23,.sl (s_1.Jobs.map aI) none),(24,i6 ((s_1.Jobs.length : Nat) : Int)),(25,i6 y_12),(29,(aI x_17))]) ⟨[(aW x_17)],[]⟩ ?_)
       refine ExO.callL [] [(aI x_17)] rfl rfl (xI x_17) rfl rfl (xA N x_17 r_18 hr_18) (xF _ _ _ _) rfl ?_
       refine rn 1 [5,23,24,25] (mkS 35 [(5,i6 r_18),(23,.sl (s_1.Jobs.map aI) none),(24,i6 ((s_1.Jobs.length : Nat) : Int)),(25,i6 y_12)]) ⟨[(aW x_17)],[]⟩ ?_
       refine ExO.nil ?_
       refine Ex.seq (rg 2 [5,23,24,25,32] (mkS 35 [(5,i6 r_18),(23,.sl (s_1.Jobs.map aI) none),(24,i6 ((s_1.Jobs.length : Nat) : Int)),(25,i6 y_12),(32,.bool (r_18 != 0))]) ⟨[(aW x_17)],[]⟩ ?_)
       rcases aY h with ⟨hc_19,h⟩ | ⟨hc_19,h⟩
       ·refine Ex.condT _ rfl hc_19 ?_
        refine Ex.seq (rg 2 [2] (mkS 35 [(2,i6 r_18)]) ⟨[(aW x_17)],[]⟩ ?_)
        refine Ex.ret ?_
        obtain rfl:=sJ h
        exact rt (i6 r_18)
       ·refine Ex.condF _ rfl hc_19 ?_
        refine Ex.skip ?_
        refine rg 2 [23,24,25] (mkS 35 [(23,.sl (s_1.Jobs.map aI) none),(24,i6 ((s_1.Jobs.length : Nat) : Int)),(25,i6 (IntKind.i64.wrap (y_12 + 1)))]) ⟨[(aW x_17)],[]⟩ ?_
        dsimp only
        exact ⟨_,_,bM (m:=35) 0 [] [(23,.sl (s_1.Jobs.map aI) none),(24,i6 ((s_1.Jobs.length : Nat) : Int)),(25,i6 (IntKind.i64.wrap (y_12 + 1)))] [] [] (by simp [bD]) (by simp) ⟨(reN (fE _)),rfl,rfl,trivial⟩ (by simp) rfl (by decide),k,Nat.lt_succ_self k,(IntKind.i64.wrap (y_12 + 1)),h,rfl,rfl⟩
      ·refine Ex.condF _ rfl hc_16 ?_
       refine Ex.exit ?_
       (try simp only [reduceCtorEq,AEx.ex.injEq,Nat.reduceEqDiff,if_true,if_false])
       exact ⟨_,_,bQ [],h,rfl,rfl⟩
    ·rintro a S ⟨h,rfl,rfl⟩
     subst hK_11
     refine Ex.seq (rg 1 [2] (mkS 35 [(2,i6 0)]) ⟨[],[]⟩ ?_)
     refine Ex.ret ?_
     obtain rfl:=sJ h
     exact rt (i6 0)
structure bR where
 Weld : Bool
 Carve : Bool
 Paint : Bool
 deriving Inhabited
def bP (x : bR) : List AV:=[.bool x.Weld,.bool x.Carve,.bool x.Paint]
attribute [local simp] bP
def bO (x : bR) : AV:=.agg (bP x)
attribute [local simp] bO
theorem aBF (x : bR) : bB (bP x) = true:=by simp
theorem aBG (x : bR) : (bO x).clean = true:=aBF x
theorem cJ (l : List bR) : bB (l.map bO) = true:=cR aBG l
attribute [local simp] cJ
theorem kO (x : bR) (n : Nat) (σ : List Nat) : (bP x).mapM (re n σ) = some (bP x):=by simp
attribute [local simp] kO
def jY (N : Nat) (h_1 : bR) : Option (Bool):=some h_1.Weld
def gZ (r : Bool) : AV:=.bool r
attribute [local simp] gZ
theorem uZ (h_1 : bR) : [(bO h_1)].mapM (ren []) = some [(bO h_1)]:=by simp
theorem uS (r : Bool) (n n2 m : Nat) : back n n2 m (gZ r) = some (gZ r):=by simp
theorem uL (N : Nat) (h_1 : bR) (r : Bool) (h : jY N h_1 = some r) : Does Tryz.prog 106 [(bO h_1)] [] fun v c => v = gZ r ∧ c = []:=by
 unfold jY at h
 refine Does.ofL comp106 _ _ rfl rfl ?_
 refine Ex.seq (rg 2 [1] (mkS 5 [(1,.ptr 0 0)]) ⟨[(bP h_1)],[]⟩ ?_)
 refine Ex.seq (rg 3 [2] (mkS 5 [(2,.bool h_1.Weld)]) ⟨[(bP h_1)],[]⟩ ?_)
 refine Ex.ret ?_
 obtain rfl:=sJ h
 exact rt (.bool h_1.Weld)
def jK (N : Nat) (h_1 : bR) : Option (Bool):=some h_1.Carve
def gH (r : Bool) : AV:=.bool r
attribute [local simp] gH
theorem tW (h_1 : bR) : [(bO h_1)].mapM (ren []) = some [(bO h_1)]:=by simp
theorem tU (r : Bool) (n n2 m : Nat) : back n n2 m (gH r) = some (gH r):=by simp
theorem tN (N : Nat) (h_1 : bR) (r : Bool) (h : jK N h_1 = some r) : Does Tryz.prog 107 [(bO h_1)] [] fun v c => v = gH r ∧ c = []:=by
 unfold jK at h
 refine Does.ofL comp107 _ _ rfl rfl ?_
 refine Ex.seq (rg 2 [1] (mkS 5 [(1,.ptr 0 0)]) ⟨[(bP h_1)],[]⟩ ?_)
 refine Ex.seq (rg 3 [2] (mkS 5 [(2,.bool h_1.Carve)]) ⟨[(bP h_1)],[]⟩ ?_)
 refine Ex.ret ?_
 obtain rfl:=sJ h
 exact rt (.bool h_1.Carve)
def jJ (N : Nat) (h_1 : bR) : Option (Bool):=some h_1.Paint
def gG (r : Bool) : AV:=.bool r
attribute [local simp] gG
theorem tV (h_1 : bR) : [(bO h_1)].mapM (ren []) = some [(bO h_1)]:=by simp
theorem tT (r : Bool) (n n2 m : Nat) : back n n2 m (gG r) = some (gG r):=by simp
theorem tM (N : Nat) (h_1 : bR) (r : Bool) (h : jJ N h_1 = some r) : Does Tryz.prog 108 [(bO h_1)] [] fun v c => v = gG r ∧ c = []:=by
 unfold jJ at h
 refine Does.ofL comp108 _ _ rfl rfl ?_
 refine Ex.seq (rg 2 [1] (mkS 5 [(1,.ptr 0 0)]) ⟨[(bP h_1)],[]⟩ ?_)
 refine Ex.seq (rg 3 [2] (mkS 5 [(2,.bool h_1.Paint)]) ⟨[(bP h_1)],[]⟩ ?_)
 refine Ex.ret ?_
 obtain rfl:=sJ h
 exact rt (.bool h_1.Paint)
def lS (N : Nat) (w_1 : aX) : Option (Int):=(letJ (fun (has_2 : Int) => some has_2) (fun k_3 => (loop2 (fun rec_8 (has_6 : Int) (skill_7 : Int) => (bif (decide (skill_7 ≤ 3)) then (letJ (fun (has_12 : Int) => (rec_8 has_12 (IntKind.i64.wrap (skill_7 + 1)))) (fun k_13 => (bif (skill_7 == 1) then ((jY N (⟨w_1.Weld,w_1.Carve,w_1.Paint⟩ : bR)).bind fun r_21 => (bif r_21 then ((idxI skill_7 4).bind fun u_23 => ((([0,1,2,4] : List Int)[Int.toNat skill_7]?).bind fun x_24 => ((some (IntKind.u8.wrap (((BitVec.ofInt (IntKind.bits .u8) has_6 ||| BitVec.ofInt (IntKind.bits .u8) x_24).toNat : Nat) : Int))).bind fun n_25 => (k_13 n_25)))) else (k_13 has_6))) else (bif (skill_7 == 2) then ((jK N (⟨w_1.Weld,w_1.Carve,w_1.Paint⟩ : bR)).bind fun r_27 => (bif r_27 then ((idxI skill_7 4).bind fun u_29 => ((([0,1,2,4] : List Int)[Int.toNat skill_7]?).bind fun x_30 => ((some (IntKind.u8.wrap (((BitVec.ofInt (IntKind.bits .u8) has_6 ||| BitVec.ofInt (IntKind.bits .u8) x_30).toNat : Nat) : Int))).bind fun n_31 => (k_13 n_31)))) else (k_13 has_6))) else ((jJ N (⟨w_1.Weld,w_1.Carve,w_1.Paint⟩ : bR)).bind fun r_32 => (bif r_32 then ((idxI skill_7 4).bind fun u_34 => ((([0,1,2,4] : List Int)[Int.toNat skill_7]?).bind fun x_35 => ((some (IntKind.u8.wrap (((BitVec.ofInt (IntKind.bits .u8) has_6 ||| BitVec.ofInt (IntKind.bits .u8) x_35).toNat : Nat) : Int))).bind fun n_36 => (k_13 n_36)))) else (k_13 has_6))))))) else (k_3 has_6))) N 0 1)))
def jC (r : Int) : AV:=.int .u8 r
attribute [local simp] jC
theorem xH (w_1 : aX) : [(aE w_1)].mapM (ren []) = some [(aE w_1)]:=by simp
theorem xE (r : Int) (n n2 m : Nat) : back n n2 m (jC r) = some (jC r):=by simp
theorem wZ (N : Nat) (w_1 : aX) (r : Int) (h : lS N w_1 = some r) : Does Tryz.prog 86 [(aE w_1)] [] fun v c => v = jC r ∧ c = []:=by
 unfold lS at h
 refine Does.ofL comp86 _ _ rfl rfl ?_
 refine Ex.seq (rg 2 [1] (mkS 21 [(1,.ptr 0 0)]) ⟨[(aU w_1)],[]⟩ ?_)
 refine Ex.seq (rg 1 [1,3] (mkS 21 [(1,.ptr 0 0),(3,.int .u8 0)]) ⟨[(aU w_1)],[]⟩ ?_)
 refine Ex.seq (Ex.seq ?_)
 refine rg 1 [1,3,4] (mkS 21 [(1,.ptr 0 0),(3,.int .u8 0),(4,i6 1)]) ⟨[(aU w_1)],[]⟩ ?_
 obtain ⟨K_4,hK_5,h⟩:=letE h
 refine Ex.blockJ (fun a S => ∃ (has_2 : Int),K_4 has_2 = some r ∧ a = mkS 21 [(3,.int .u8 has_2)] ∧ S = ⟨[],[]⟩) ?_ ?_
 ·obtain ⟨B_9,hB_10,h⟩:=gP h
  refine Ex.loopF (fun k a S => ∃ (has_6 : Int),∃ (skill_7 : Int),loop2 B_9 k has_6 skill_7 = some r ∧ a = mkS 21 [(1,.ptr 0 0),(3,.int .u8 has_6),(4,i6 skill_7)] ∧ S = ⟨[(aU w_1)],[]⟩) N ⟨_,_,aM.refl _ _ _,0,1,h,rfl,rfl⟩ ?_
  rintro k a S ⟨has_6,skill_7,h,rfl,rfl⟩
  cases k with
  | zero => exact (gN h).elim
  | succ k =>
   replace h:=gO h hB_10
   refine Ex.seq (Ex.seq ?_)
   refine rg 2 [1,3,4,7] (mkS 21 [(1,.ptr 0 0),(3,.int .u8 has_6),(4,i6 skill_7),(7,.bool (decide (skill_7 ≤ 3)))]) ⟨[(aU w_1)],[]⟩ ?_
   rcases aY h with ⟨hc_11,h⟩ | ⟨hc_11,h⟩
   ·refine Ex.condT _ rfl hc_11 ?_
    refine Ex.skip ?_
    refine Ex.seq ?_
    obtain ⟨K_14,hK_15,h⟩:=letE h
    refine Ex.blockJ (fun a S => ∃ (has_12 : Int),K_14 has_12 = some r ∧ a = mkS 21 [(1,.ptr 0 0),(3,.int .u8 has_12),(4,i6 skill_7)] ∧ S = ⟨[(aU w_1)],[]⟩) ?_ ?_
    ·refine Ex.seq ?_
     refine Ex.reg (rn 1 [1,3,4,10] (mkS 21 [(1,.ptr 0 0),(3,.int .u8 has_6),(4,i6 skill_7),(10,i6 skill_7)]) ⟨[(aU w_1)],[]⟩ ?_)
     refine ExO.inlC 97 [i6 skill_7] _ comp97 (by simp [bD]) rfl rfl ?_
     intro cx_16 hcn_17 hcm_18 hup_19
     refine Ex.castA (a2:=mkS 8 [(0,i6 skill_7),(1,.tup []),(2,.tup []),(3,.tup []),(4,.tup []),(5,.tup []),(6,.tup []),(7,.tup [])]) (S2:=⟨[(aU w_1)],[]⟩) (by kernel_rfl) (by kernel_rfl) ?_
     refine Ex.seq (rg 1 [0] (mkS 8 [(0,i6 skill_7)]) ⟨[(aU w_1)],[]⟩ ?_)
     refine Ex.seq (Ex.seq ?_)
     refine rg 1 [3] (mkS 8 [(3,i6 skill_7)]) ⟨[(aU w_1)],[]⟩ ?_
     refine Ex.blockK ?_
     refine Ex.seq (rg 2 [3,4] (mkS 8 [(3,i6 skill_7),(4,.bool (skill_7 == 1))]) ⟨[(aU w_1)],[]⟩ ?_)
     rcases aY h with ⟨hc_20,h⟩ | ⟨hc_20,h⟩
     ·refine Ex.condT _ rfl hc_20 ?_
      refine Ex.seq (rg 1 [2] (mkS 8 [(2,.fn 106 [] [])]) ⟨[(aU w_1)],[]⟩ ?_)
      refine Ex.ret ?_
      refine ⟨.inr rfl,.fn 106 [] [],by kernel_rfl,?_⟩
      refine rn 1 [1,3,4,5] (mkS 21 [(1,.ptr 0 0),(3,.int .u8 has_6),(4,i6 skill_7),(5,.fn 106 [] [])]) ⟨[(aU w_1)],[]⟩ ?_
      refine ExO.nil ?_
      refine Ex.seq ?_
      obtain ⟨r_21,hr_21,h⟩:=bE h
      refine Ex.reg (rn 2 [1,3,4,12,13] (mkS 21 [(1,.ptr 0 0),(3,.int .u8 has_6),(4,i6 skill_7),(12,.fn 106 [] []),(13,(aE w_1))]) ⟨[(aU w_1)],[]⟩ ?_)
      refine ExO.callL [] [(aE w_1)] rfl rfl (uZ (⟨w_1.Weld,w_1.Carve,w_1.Paint⟩ : bR)) rfl rfl (uL N (⟨w_1.Weld,w_1.Carve,w_1.Paint⟩ : bR) r_21 hr_21) (uS _ _ _ _) rfl ?_
      refine rn 0 [1,3,4,14] (mkS 21 [(1,.ptr 0 0),(3,.int .u8 has_6),(4,i6 skill_7),(14,.bool r_21)]) ⟨[(aU w_1)],[]⟩ ?_
      refine ExO.nil ?_
      rcases aY h with ⟨hc_22,h⟩ | ⟨hc_22,h⟩
      ·refine Ex.condT _ rfl hc_22 ?_
       obtain ⟨u_23,hu_23,h⟩:=bE h
       obtain ⟨x_24,hx_24,h⟩:=bE h
       obtain ⟨n_25,hn_25,h⟩:=bE h
       refine regH 6 [(2,.adr),(3,.ld (.int .u8 x_24)),(4,.eq (.int .u8 n_25))] [1,3,4] [0 ≤ skill_7 ∧ skill_7 < ((4 : Nat) : Int) ∧ Int.toNat skill_7 * 1 ≤ (([0,1,2,4] : List Int).map (AV.int .u8)).length,bN (((([0,1,2,4] : List Int).map (AV.int .u8)).drop (Int.toNat skill_7 * 1)).take 1) 0 none = some (.int .u8 x_24),AV.int .u8 (IntKind.u8.wrap (((BitVec.ofInt (IntKind.bits .u8) has_6 ||| BitVec.ofInt (IntKind.bits .u8) x_24).toNat : Nat) : Int)) = AV.int .u8 n_25] (mkS 21 [(1,.ptr 0 0),(3,.int .u8 n_25),(4,i6 skill_7)]) (⟨[(aU w_1)],[]⟩) (by kernel_rfl) ⟨adrT ([0,1,2,4] : List Int) .u8 hu_23 (by decide),yG ([0,1,2,4] : List Int) .u8 hx_24,congrArg (AV.int .u8) (Option.some.inj hn_25),trivial⟩ rfl ?_
       (try simp only [reduceCtorEq,AEx.ex.injEq,Nat.reduceEqDiff,if_true,if_false])
       exact ⟨_,_,aM.refl _ _ _,n_25,h,rfl,rfl⟩
      ·refine Ex.condF _ rfl hc_22 ?_
       refine Ex.skip ?_
       (try simp only [reduceCtorEq,AEx.ex.injEq,Nat.reduceEqDiff,if_true,if_false])
       exact ⟨_,_,bQ [1,3,4],has_6,h,rfl,rfl⟩
     ·refine Ex.condF _ rfl hc_20 ?_
      refine Ex.seq (rg 2 [6] (mkS 8 [(6,.bool (skill_7 == 2))]) ⟨[(aU w_1)],[]⟩ ?_)
      rcases aY h with ⟨hc_26,h⟩ | ⟨hc_26,h⟩
      ·refine Ex.condT _ rfl hc_26 ?_
       refine Ex.seq (rg 1 [2] (mkS 8 [(2,.fn 107 [] [])]) ⟨[(aU w_1)],[]⟩ ?_)
       refine Ex.ret ?_
       refine ⟨.inr rfl,.fn 107 [] [],by kernel_rfl,?_⟩
       refine rn 1 [1,3,4,5] (mkS 21 [(1,.ptr 0 0),(3,.int .u8 has_6),(4,i6 skill_7),(5,.fn 107 [] [])]) ⟨[(aU w_1)],[]⟩ ?_
       refine ExO.nil ?_
       refine Ex.seq ?_
       obtain ⟨r_27,hr_27,h⟩:=bE h
       refine Ex.reg (rn 2 [1,3,4,12,13] (mkS 21 [(1,.ptr 0 0),(3,.int .u8 has_6),(4,i6 skill_7),(12,.fn 107 [] []),(13,(aE w_1))]) ⟨[(aU w_1)],[]⟩ ?_)
       refine ExO.callL [] [(aE w_1)] rfl rfl (tW (⟨w_1.Weld,w_1.Carve,w_1.Paint⟩ : bR)) rfl rfl (tN N (⟨w_1.Weld,w_1.Carve,w_1.Paint⟩ : bR) r_27 hr_27) (tU _ _ _ _) rfl ?_
       refine rn 0 [1,3,4,14] (mkS 21 [(1,.ptr 0 0),(3,.int .u8 has_6),(4,i6 skill_7),(14,.bool r_27)]) ⟨[(aU w_1)],[]⟩ ?_
       refine ExO.nil ?_
       rcases aY h with ⟨hc_28,h⟩ | ⟨hc_28,h⟩
       ·refine Ex.condT _ rfl hc_28 ?_
        obtain ⟨u_29,hu_29,h⟩:=bE h
        obtain ⟨x_30,hx_30,h⟩:=bE h
        obtain ⟨n_31,hn_31,h⟩:=bE h
        refine regH 6 [(2,.adr),(3,.ld (.int .u8 x_30)),(4,.eq (.int .u8 n_31))] [1,3,4] [0 ≤ skill_7 ∧ skill_7 < ((4 : Nat) : Int) ∧ Int.toNat skill_7 * 1 ≤ (([0,1,2,4] : List Int).map (AV.int .u8)).length,bN (((([0,1,2,4] : List Int).map (AV.int .u8)).drop (Int.toNat skill_7 * 1)).take 1) 0 none = some (.int .u8 x_30),AV.int .u8 (IntKind.u8.wrap (((BitVec.ofInt (IntKind.bits .u8) has_6 ||| BitVec.ofInt (IntKind.bits .u8) x_30).toNat : Nat) : Int)) = AV.int .u8 n_31] (mkS 21 [(1,.ptr 0 0),(3,.int .u8 n_31),(4,i6 skill_7)]) (⟨[(aU w_1)],[]⟩) (by kernel_rfl) ⟨adrT ([0,1,2,4] : List Int) .u8 hu_29 (by decide),yG ([0,1,2,4] : List Int) .u8 hx_30,congrArg (AV.int .u8) (Option.some.inj hn_31),trivial⟩ rfl ?_
        (try simp only [reduceCtorEq,AEx.ex.injEq,Nat.reduceEqDiff,if_true,if_false])
        exact ⟨_,_,aM.refl _ _ _,n_31,h,rfl,rfl⟩
       ·refine Ex.condF _ rfl hc_28 ?_
        refine Ex.skip ?_
        (try simp only [reduceCtorEq,AEx.ex.injEq,Nat.reduceEqDiff,if_true,if_false])
        exact ⟨_,_,bQ [1,3,4],has_6,h,rfl,rfl⟩
      ·refine Ex.condF _ rfl hc_26 ?_
       refine Ex.skip ?_
       refine Ex.seq (rg 1 [2] (mkS 8 [(2,.fn 108 [] [])]) ⟨[(aU w_1)],[]⟩ ?_)
       refine Ex.ret ?_
       refine ⟨.inr rfl,.fn 108 [] [],by kernel_rfl,?_⟩
       refine rn 1 [1,3,4,5] (mkS 21 [(1,.ptr 0 0),(3,.int .u8 has_6),(4,i6 skill_7),(5,.fn 108 [] [])]) ⟨[(aU w_1)],[]⟩ ?_
       refine ExO.nil ?_
       refine Ex.seq ?_
       obtain ⟨r_32,hr_32,h⟩:=bE h
       refine Ex.reg (rn 2 [1,3,4,12,13] (mkS 21 [(1,.ptr 0 0),(3,.int .u8 has_6),(4,i6 skill_7),(12,.fn 108 [] []),(13,(aE w_1))]) ⟨[(aU w_1)],[]⟩ ?_)
       refine ExO.callL [] [(aE w_1)] rfl rfl (tV (⟨w_1.Weld,w_1.Carve,w_1.Paint⟩ : bR)) rfl rfl (tM N (⟨w_1.Weld,w_1.Carve,w_1.Paint⟩ : bR) r_32 hr_32) (tT _ _ _ _) rfl ?_
       refine rn 0 [1,3,4,14] (mkS 21 [(1,.ptr 0 0),(3,.int .u8 has_6),(4,i6 skill_7),(14,.bool r_32)]) ⟨[(aU w_1)],[]⟩ ?_
       refine ExO.nil ?_
       rcases aY h with ⟨hc_33,h⟩ | ⟨hc_33,h⟩
       ·refine Ex.condT _ rfl hc_33 ?_
        obtain ⟨u_34,hu_34,h⟩:=bE h
        obtain ⟨x_35,hx_35,h⟩:=bE h
        obtain ⟨n_36,hn_36,h⟩:=bE h
        refine regH 6 [(2,.adr),(3,.ld (.int .u8 x_35)),(4,.eq (.int .u8 n_36))] [1,3,4] [0 ≤ skill_7 ∧ skill_7 < ((4 : Nat) : Int) ∧ Int.toNat skill_7 * 1 ≤ (([0,1,2,4] : List Int).map (AV.int .u8)).length,bN (((([0,1,2,4] : List Int).map (AV.int .u8)).drop (Int.toNat skill_7 * 1)).take 1) 0 none = some (.int .u8 x_35),AV.int .u8 (IntKind.u8.wrap (((BitVec.ofInt (IntKind.bits .u8) has_6 ||| BitVec.ofInt (IntKind.bits .u8) x_35).toNat : Nat) : Int)) = AV.int .u8 n_36] (mkS 21 [(1,.ptr 0 0),(3,.int .u8 n_36),(4,i6 skill_7)]) (⟨[(aU w_1)],[]⟩) (by kernel_rfl) ⟨adrT ([0,1,2,4] : List Int) .u8 hu_34 (by decide),yG ([0,1,2,4] : List Int) .u8 hx_35,congrArg (AV.int .u8) (Option.some.inj hn_36),trivial⟩ rfl ?_
        (try simp only [reduceCtorEq,AEx.ex.injEq,Nat.reduceEqDiff,if_true,if_false])
        exact ⟨_,_,aM.refl _ _ _,n_36,h,rfl,rfl⟩
       ·refine Ex.condF _ rfl hc_33 ?_
        refine Ex.skip ?_
        (try simp only [reduceCtorEq,AEx.ex.injEq,Nat.reduceEqDiff,if_true,if_false])
        exact ⟨_,_,bQ [1,3,4],has_6,h,rfl,rfl⟩
    ·rintro a S ⟨has_12,h,rfl,rfl⟩
     subst hK_15
     refine rg 3 [1,3,4] (mkS 21 [(1,.ptr 0 0),(3,.int .u8 has_12),(4,i6 (IntKind.i64.wrap (skill_7 + 1)))]) ⟨[(aU w_1)],[]⟩ ?_
     dsimp only
     exact ⟨_,_,aM.refl _ _ _,k,Nat.lt_succ_self k,has_12,(IntKind.i64.wrap (skill_7 + 1)),h,rfl,rfl⟩
   ·refine Ex.condF _ rfl hc_11 ?_
    refine Ex.exit ?_
    (try simp only [reduceCtorEq,AEx.ex.injEq,Nat.reduceEqDiff,if_true,if_false])
    exact ⟨_,_,bM (m:=21) 0 [] [(3,.int .u8 has_6)] [] [] (by simp [bD]) (by simp) ⟨rfl,trivial⟩ (by simp) rfl (by decide),has_6,h,rfl,rfl⟩
 ·rintro a S ⟨has_2,h,rfl,rfl⟩
  subst hK_5
  refine Ex.seq (rg 2 [2] (mkS 21 [(2,.int .u8 has_2)]) ⟨[],[]⟩ ?_)
  refine Ex.ret ?_
  obtain rfl:=sJ h
  exact rt (.int .u8 has_2)
def gV (N : Nat) (w_1 : aX) (some_2 : Int) : Option (Bool):=((lS N w_1).bind fun r_3 => ((some (IntKind.u8.wrap (((BitVec.ofInt (IntKind.bits .u8) r_3 &&& BitVec.ofInt (IntKind.bits .u8) some_2).toNat : Nat) : Int))).bind fun n_4 => some (n_4 != 0)))
def kY (r : Bool) : AV:=.bool r
attribute [local simp] kY
theorem tB (w_1 : aX) (some_2 : Int) : [(aE w_1),.int .u8 some_2].mapM (ren []) = some [(aE w_1),.int .u8 some_2]:=by simp
theorem sY (r : Bool) (n n2 m : Nat) : back n n2 m (kY r) = some (kY r):=by simp
theorem sU (N : Nat) (w_1 : aX) (some_2 : Int) (r : Bool) (h : gV N w_1 some_2 = some r) : Does Tryz.prog 70 [(aE w_1),.int .u8 some_2] [] fun v c => v = kY r ∧ c = []:=by
 unfold gV at h
 refine Does.ofL comp70 _ _ rfl rfl ?_
 refine Ex.seq (rg 2 [1,2] (mkS 10 [(1,.int .u8 some_2),(2,.ptr 0 0)]) ⟨[(aU w_1)],[]⟩ ?_)
 refine Ex.seq ?_
 obtain ⟨r_3,hr_3,h⟩:=bE h
 refine Ex.reg (rn 1 [1,5] (mkS 10 [(1,.int .u8 some_2),(5,(aE w_1))]) ⟨[(aU w_1)],[]⟩ ?_)
 refine ExO.callL [] [(aE w_1)] rfl rfl (xH w_1) rfl rfl (wZ N w_1 r_3 hr_3) (xE _ _ _ _) rfl ?_
 obtain ⟨n_4,hn_4,h⟩:=bE h
 refine runH 4 [(1,.eq (.int .u8 n_4))] [4] [AV.int .u8 (IntKind.u8.wrap (((BitVec.ofInt (IntKind.bits .u8) r_3 &&& BitVec.ofInt (IntKind.bits .u8) some_2).toNat : Nat) : Int)) = AV.int .u8 n_4] (mkS 10 [(4,.bool (n_4 != 0))]) (⟨[(aU w_1)],[]⟩) (by kernel_rfl) ⟨congrArg (AV.int .u8) (Option.some.inj hn_4),trivial⟩ ?_
 refine ExO.nil ?_
 refine Ex.ret ?_
 obtain rfl:=sJ h
 exact rt (.bool (n_4 != 0))
def eX (N : Nat) (jobs_1 : (List bH)) (job_2 : Int) : Option (Int):=(letJ (fun (_ : Unit) => some (-1)) (fun k_3 => (loop1 (fun rec_7 (before_6 : Int) => (bif (decide (before_6 ≥ 0)) then ((getI jobs_1 before_6).bind fun x_11 => ((getI jobs_1 job_2).bind fun x_12 => (bif (x_11.Float == x_12.Float) then some before_6 else (rec_7 (IntKind.i64.wrap (before_6 - 1)))))) else (k_3 ()))) N (IntKind.i64.wrap (job_2 - 1)))))
def dW (r : Int) : AV:=i6 r
attribute [local simp] dW
theorem wG (jobs_1 : (List bH)) (job_2 : Int) : [.sl (jobs_1.map aI) none,i6 job_2].mapM (ren []) = some [.sl (jobs_1.map aI) none,i6 job_2]:=by simp
theorem oU (r : Int) (n n2 m : Nat) : back n n2 m (dW r) = some (dW r):=by simp
theorem oR (N : Nat) (jobs_1 : (List bH)) (job_2 : Int) (r : Int) (h : eX N jobs_1 job_2 = some r) : Does Tryz.prog 65 [.sl (jobs_1.map aI) none,i6 job_2] [] fun v c => v = dW r ∧ c = []:=by
 unfold eX at h
 refine Does.ofL comp65 _ _ rfl rfl ?_
 refine Ex.seq (rg 1 [0,1] (mkS 24 [(0,.sl (jobs_1.map aI) none),(1,i6 job_2)]) ⟨[],[]⟩ ?_)
 refine Ex.seq (Ex.seq ?_)
 refine rg 3 [0,1,5] (mkS 24 [(0,.sl (jobs_1.map aI) none),(1,i6 job_2),(5,i6 (IntKind.i64.wrap (job_2 - 1)))]) ⟨[],[]⟩ ?_
 obtain ⟨K_4,hK_5,h⟩:=letE h
 refine Ex.blockJ (fun a S => K_4 () = some r ∧ a = mkS 24 [] ∧ S = ⟨[],[]⟩) ?_ ?_
 ·obtain ⟨B_8,hB_9,h⟩:=iU h
  refine Ex.loopF (fun k a S => ∃ (before_6 : Int),loop1 B_8 k before_6 = some r ∧ a = mkS 24 [(0,.sl (jobs_1.map aI) none),(1,i6 job_2),(5,i6 before_6)] ∧ S = ⟨[],[]⟩) N ⟨_,_,aM.refl _ _ _,(IntKind.i64.wrap (job_2 - 1)),h,rfl,rfl⟩ ?_
  rintro k a S ⟨before_6,h,rfl,rfl⟩
  cases k with
  | zero => exact (iS h).elim
  | succ k =>
   replace h:=iT h hB_9
   refine Ex.seq (Ex.seq ?_)
   refine rg 2 [0,1,5,9] (mkS 24 [(0,.sl (jobs_1.map aI) none),(1,i6 job_2),(5,i6 before_6),(9,.bool (decide (before_6 ≥ 0)))]) ⟨[],[]⟩ ?_
   rcases aY h with ⟨hc_10,h⟩ | ⟨hc_10,h⟩
   ·refine Ex.condT _ rfl hc_10 ?_
    refine Ex.skip ?_
    refine Ex.seq ?_
    refine Ex.blockK ?_
    refine Ex.seq ?_
    obtain ⟨x_11,hx_11,h⟩:=bE h
    obtain ⟨x_12,hx_12,h⟩:=bE h
    refine Ex.drawE (a1:=mkS 24 [(0,.sl (jobs_1.map aI) none),(1,i6 job_2),(5,i6 before_6),(9,.bool (decide (before_6 ≥ 0))),(12,.sl (jobs_1.map aI) none),(13,i6 before_6),(14,.rop (aW x_11)),(15,.rop (aW x_11)),(16,i6 x_11.Float),(17,.sl (jobs_1.map aI) none),(18,i6 job_2),(19,.rop (aW x_12)),(20,.rop (aW x_12)),(21,i6 x_12.Float)]) (cP _) [] [] [] ?_ ?_
    ·refine drS [] 10 [(2, .rop (aW x_11)), (7, .rop (aW x_12))] [LGet (jobs_1.map aI) before_6 3 (aW x_11), LGet (jobs_1.map aI) job_2 3 (aW x_12)] (mkS 24 [(0, .sl (jobs_1.map aI) none), (1, i6 job_2), (5, i6 before_6), (9, .bool (decide (before_6 ≥ 0))), (12, .sl (jobs_1.map aI) none), (13, i6 before_6), (14, .rop (aW x_11)), (15, .rop (aW x_11)), (16, i6 x_11.Float), (17, .sl (jobs_1.map aI) none), (18, i6 job_2), (19, .rop (aW x_12)), (20, .rop (aW x_12)), (21, i6 x_12.Float)]) (by simp) (by kernel_rfl) ⟨LGet.of hx_11 rfl, LGet.of hx_12 rfl, trivial⟩ (by kernel_rfl) ?_
     exact DrO.nil rfl
    ·dsimp only [List.getLastD_cons,List.getLastD_nil]
     refine rn 1 [0,1,5,22] (mkS 24 [(0,.sl (jobs_1.map aI) none),(1,i6 job_2),(5,i6 before_6),(22,.bool (x_11.Float == x_12.Float))]) ⟨[],[]⟩ ?_
     refine ExO.nil ?_
     rcases aY h with ⟨hc_13,h⟩ | ⟨hc_13,h⟩
     ·refine Ex.condT _ rfl hc_13 ?_
      refine Ex.seq (rg 2 [4] (mkS 24 [(4,i6 before_6)]) ⟨[],[]⟩ ?_)
      refine Ex.ret ?_
      obtain rfl:=sJ h
      exact rt (i6 before_6)
     ·refine Ex.condF _ rfl hc_13 ?_
      refine Ex.skip ?_
      refine rg 3 [0,1,5] (mkS 24 [(0,.sl (jobs_1.map aI) none),(1,i6 job_2),(5,i6 (IntKind.i64.wrap (before_6 - 1)))]) ⟨[],[]⟩ ?_
      dsimp only
      exact ⟨_,_,aM.refl _ _ _,k,Nat.lt_succ_self k,(IntKind.i64.wrap (before_6 - 1)),h,rfl,rfl⟩
   ·refine Ex.condF _ rfl hc_10 ?_
    refine Ex.exit ?_
    (try simp only [reduceCtorEq,AEx.ex.injEq,Nat.reduceEqDiff,if_true,if_false])
    exact ⟨_,_,bQ [],h,rfl,rfl⟩
 ·rintro a S ⟨h,rfl,rfl⟩
  subst hK_5
  refine Ex.seq (rg 1 [4] (mkS 24 [(4,i6 (-1))]) ⟨[],[]⟩ ?_)
  refine Ex.ret ?_
  obtain rfl:=sJ h
  exact rt (i6 (-1))
def fW (N : Nat) (jobs_1 : (List bH)) (plan_2 : (List aG)) (job_3 : Int) : Option (Int):=((getI plan_2 job_3).bind fun x_4 => ((getI jobs_1 job_3).bind fun x_5 => some (IntKind.i64.wrap (x_4.Day + x_5.Days))))
def cE (r : Int) : AV:=i6 r
attribute [local simp] cE
theorem aDz (jobs_1 : (List bH)) (plan_2 : (List aG)) (job_3 : Int) : [.sl (jobs_1.map aI) none,.sl (plan_2.map aA) none,i6 job_3].mapM (ren []) = some [.sl (jobs_1.map aI) none,.sl (plan_2.map aA) none,i6 job_3]:=by simp
theorem nC (r : Int) (n n2 m : Nat) : back n n2 m (cE r) = some (cE r):=by simp
theorem mX (N : Nat) (jobs_1 : (List bH)) (plan_2 : (List aG)) (job_3 : Int) (r : Int) (h : fW N jobs_1 plan_2 job_3 = some r) : Does Tryz.prog 50 [.sl (jobs_1.map aI) none,.sl (plan_2.map aA) none,i6 job_3] [] fun v c => v = cE r ∧ c = []:=by
 unfold fW at h
 refine Does.ofL comp50 _ _ rfl rfl ?_
 refine Ex.seq (rg 1 [0,1,2] (mkS 18 [(0,.sl (jobs_1.map aI) none),(1,.sl (plan_2.map aA) none),(2,i6 job_3)]) ⟨[],[]⟩ ?_)
 refine Ex.seq ?_
 obtain ⟨x_4,hx_4,h⟩:=bE h
 obtain ⟨x_5,hx_5,h⟩:=bE h
 refine Ex.drawE (a1:=mkS 18 [(0,.sl (jobs_1.map aI) none),(1,.sl (plan_2.map aA) none),(2,i6 job_3),(7,.sl (plan_2.map aA) none),(8,i6 job_3),(9,.rop (aN x_4)),(10,.rop [i6 x_4.Day]),(11,i6 x_4.Day),(12,.sl (jobs_1.map aI) none),(13,i6 job_3),(14,.rop (aW x_5)),(15,.rop [i6 x_5.Days]),(16,i6 x_5.Days)]) (cP _) [] [] [] ?_ ?_
 ·refine drS [] 10 [(2, .rop (aN x_4)), (7, .rop (aW x_5))] [LGet (plan_2.map aA) job_3 2 (aN x_4), LGet (jobs_1.map aI) job_3 3 (aW x_5)] (mkS 18 [(0, .sl (jobs_1.map aI) none), (1, .sl (plan_2.map aA) none), (2, i6 job_3), (7, .sl (plan_2.map aA) none), (8, i6 job_3), (9, .rop (aN x_4)), (10, .rop [i6 x_4.Day]), (11, i6 x_4.Day), (12, .sl (jobs_1.map aI) none), (13, i6 job_3), (14, .rop (aW x_5)), (15, .rop [i6 x_5.Days]), (16, i6 x_5.Days)]) (by simp) (by kernel_rfl) ⟨LGet.of hx_4 rfl, LGet.of hx_5 rfl, trivial⟩ (by kernel_rfl) ?_
  exact DrO.nil rfl
 ·dsimp only [List.getLastD_cons,List.getLastD_nil]
  refine rn 2 [6] (mkS 18 [(6,i6 (IntKind.i64.wrap (x_4.Day + x_5.Days)))]) ⟨[],[]⟩ ?_
  refine ExO.nil ?_
  refine Ex.ret ?_
  obtain rfl:=sJ h
  exact rt (i6 (IntKind.i64.wrap (x_4.Day + x_5.Days)))
def fO (N : Nat) (s_1 : aH) (plan_2 : (List aG)) (job_3 : Int) : Option (Int):=((getI plan_2 job_3).bind fun x_4 => ((dZ N x_4.Worker 0 (IntKind.i64.wrap (((s_1.Workers.length : Nat) : Int) - 1))).bind fun r_5 => (bif (!r_5) then some 7 else ((getI s_1.Workers x_4.Worker).bind fun x_7 => ((getI s_1.Jobs job_3).bind fun x_8 => ((idxI x_8.Skill 4).bind fun u_9 => ((([0,1,2,4] : List Int)[Int.toNat x_8.Skill]?).bind fun x_10 => ((gV N x_7 x_10).bind fun r_11 => (bif (!r_11) then some 3 else ((dZ N x_4.Day 0 400).bind fun r_13 => (bif (!r_13) then some 2 else ((eX N s_1.Jobs job_3).bind fun r_15 => (letJ (fun (y_16 : Bool) => (bif y_16 then some 9 else some 0)) (fun k_17 => (bif (r_15 != (-1)) then ((fW N s_1.Jobs plan_2 r_15).bind fun r_21 => (k_17 (decide (x_4.Day < r_21)))) else (k_17 false))))))))))))))))
def hC (r : Int) : AV:=i6 r
attribute [local simp] hC
theorem vA (s_1 : aH) (plan_2 : (List aG)) (job_3 : Int) : [(aC s_1),.sl (plan_2.map aA) none,i6 job_3].mapM (ren []) = some [(aC s_1),.sl (plan_2.map aA) none,i6 job_3]:=by simp
theorem uT (r : Int) (n n2 m : Nat) : back n n2 m (hC r) = some (hC r):=by simp
theorem uM (N : Nat) (s_1 : aH) (plan_2 : (List aG)) (job_3 : Int) (r : Int) (h : fO N s_1 plan_2 job_3 = some r) : Does Tryz.prog 48 [(aC s_1),.sl (plan_2.map aA) none,i6 job_3] [] fun v c => v = hC r ∧ c = []:=by
 unfold fO at h
 refine Does.ofL comp48 _ _ rfl rfl ?_
 refine Ex.seq (rg 2 [1,2,3] (mkS 60 [(1,.sl (plan_2.map aA) none),(2,i6 job_3),(3,.ptr 0 0)]) ⟨[(aB s_1)],[]⟩ ?_)
 refine Ex.seq ?_
 obtain ⟨x_4,hx_4,h⟩:=bE h
 refine regH 6 [(2,.rop (aN x_4))] [1,2,3,7] [LGet (plan_2.map aA) job_3 2 (aN x_4)] (mkS 60 [(1,.sl (plan_2.map aA) none),(2,i6 job_3),(3,.ptr 0 0),(7,.ptr 1 0)]) (⟨[(aB s_1),(aN x_4)],[]⟩) (by kernel_rfl) ⟨LGet.of hx_4 rfl,trivial⟩ rfl ?_
 refine Ex.seq ?_
 refine Ex.blockK ?_
 refine Ex.seq ?_
 obtain ⟨r_5,hr_5,h⟩:=bE h
 refine Ex.reg ?_
 refine runH 6 [(4,.eq (i6 ((s_1.Workers.length : Nat) : Int)))] [1,2,3,7,15,19] [AV.int .i64 (((s_1.Workers.map aE).length : Nat) : Int) = AV.int .i64 ((s_1.Workers.length : Nat) : Int)] (mkS 60 [(1,.sl (plan_2.map aA) none),(2,i6 job_3),(3,.ptr 0 0),(7,.ptr 1 0),(15,i6 x_4.Worker),(19,i6 (IntKind.i64.wrap (((s_1.Workers.length : Nat) : Int) - 1)))]) (⟨[(aB s_1),(aN x_4)],[]⟩) (by kernel_rfl) ⟨lenM _ _,trivial⟩ ?_
 refine ExO.callL [] [i6 x_4.Worker,i6 0,i6 (IntKind.i64.wrap (((s_1.Workers.length : Nat) : Int) - 1))] rfl rfl (jB x_4.Worker 0 (IntKind.i64.wrap (((s_1.Workers.length : Nat) : Int) - 1))) rfl rfl (iZ N x_4.Worker 0 (IntKind.i64.wrap (((s_1.Workers.length : Nat) : Int) - 1)) r_5 hr_5) (jA _ _ _ _) rfl ?_
 refine rn 2 [1,2,3,7,13] (mkS 60 [(1,.sl (plan_2.map aA) none),(2,i6 job_3),(3,.ptr 0 0),(7,.ptr 1 0),(13,.bool (!r_5))]) ⟨[(aB s_1),(aN x_4)],[]⟩ ?_
 refine ExO.nil ?_
 rcases aY h with ⟨hc_6,h⟩ | ⟨hc_6,h⟩
 ·refine Ex.condT _ rfl hc_6 ?_
  refine Ex.seq (rg 1 [6] (mkS 60 [(6,i6 7)]) ⟨[(aB s_1),(aN x_4)],[]⟩ ?_)
  refine Ex.ret ?_
  obtain rfl:=sJ h
  exact rt (i6 7)
 ·refine Ex.condF _ rfl hc_6 ?_
  refine Ex.seq ?_
  obtain ⟨x_7,hx_7,h⟩:=bE h
  obtain ⟨x_8,hx_8,h⟩:=bE h
  obtain ⟨u_9,hu_9,h⟩:=bE h
  obtain ⟨x_10,hx_10,h⟩:=bE h
  refine Ex.drawE (a1:=mkS 60 [(1,.sl (plan_2.map aA) none),(2,i6 job_3),(3,.ptr 0 0),(7,.ptr 1 0),(13,.bool (!r_5)),(23,.ptr 0 0),(24,.sl (s_1.Workers.map aE) none),(25,.ptr 1 0),(26,i6 x_4.Worker),(27,.rop (aU x_7)),(28,(aE x_7)),(29,.ptr 0 1),(30,.sl (s_1.Jobs.map aI) none),(31,i6 job_3),(32,.rop (aW x_8)),(33,.rop [i6 x_8.Skill,i6 x_8.Days]),(34,i6 x_8.Skill),(35,.rop (((([0,1,2,4] : List Int).map (AV.int .u8)).drop (Int.toNat x_8.Skill * 1)).take 1)),(36,.int .u8 x_10)]) (cP _) [] [] [] ?_ ?_
  ·refine drS [0, 1] 14 [(4, .rop (aU x_7)), (9, .rop (aW x_8)), (12, .adr), (13, .ld (.int .u8 x_10))] [LGet (s_1.Workers.map aE) x_4.Worker 3 (aU x_7), LGet (s_1.Jobs.map aI) job_3 3 (aW x_8), 0 ≤ x_8.Skill ∧ x_8.Skill < ((4 : Nat) : Int) ∧ Int.toNat x_8.Skill * 1 ≤ (([0, 1, 2, 4] : List Int).map (AV.int .u8)).length, bN (((([0, 1, 2, 4] : List Int).map (AV.int .u8)).drop (Int.toNat x_8.Skill * 1)).take 1) 0 none = some (.int .u8 x_10)] (mkS 60 [(1, .sl (plan_2.map aA) none), (2, i6 job_3), (3, .ptr 0 0), (7, .ptr 1 0), (13, .bool (!r_5)), (23, .ptr 0 0), (24, .sl (s_1.Workers.map aE) none), (25, .ptr 1 0), (26, i6 x_4.Worker), (27, .rop (aU x_7)), (28, (aE x_7)), (29, .ptr 0 1), (30, .sl (s_1.Jobs.map aI) none), (31, i6 job_3), (32, .rop (aW x_8)), (33, .rop [i6 x_8.Skill, i6 x_8.Days]), (34, i6 x_8.Skill), (35, .rop (((([0, 1, 2, 4] : List Int).map (AV.int .u8)).drop (Int.toNat x_8.Skill * 1)).take 1)), (36, .int .u8 x_10)]) (by simp) (by kernel_rfl) ⟨LGet.of hx_7 rfl, LGet.of hx_8 rfl, adrT ([0, 1, 2, 4] : List Int) .u8 hu_9 (by decide), yG ([0, 1, 2, 4] : List Int) .u8 hx_10, trivial⟩ (by kernel_rfl) ?_
   exact DrO.nil rfl
  ·dsimp only [List.getLastD_cons,List.getLastD_nil]
   obtain ⟨r_11,hr_11,h⟩:=bE h
   refine ExO.callL [] [(aE x_7),.int .u8 x_10] rfl rfl (tB x_7 x_10) rfl rfl (sU N x_7 x_10 r_11 hr_11) (sY _ _ _ _) rfl ?_
   refine rn 2 [1,2,3,7,22] (mkS 60 [(1,.sl (plan_2.map aA) none),(2,i6 job_3),(3,.ptr 0 0),(7,.ptr 1 0),(22,.bool (!r_11))]) ⟨[(aB s_1),(aN x_4)],[]⟩ ?_
   refine ExO.nil ?_
   rcases aY h with ⟨hc_12,h⟩ | ⟨hc_12,h⟩
   ·refine Ex.condT _ rfl hc_12 ?_
    refine Ex.seq (rg 1 [6] (mkS 60 [(6,i6 3)]) ⟨[(aB s_1),(aN x_4)],[]⟩ ?_)
    refine Ex.ret ?_
    obtain rfl:=sJ h
    exact rt (i6 3)
   ·refine Ex.condF _ rfl hc_12 ?_
    refine Ex.seq ?_
    obtain ⟨r_13,hr_13,h⟩:=bE h
    refine Ex.reg (rn 2 [1,2,3,7,41] (mkS 60 [(1,.sl (plan_2.map aA) none),(2,i6 job_3),(3,.ptr 0 0),(7,.ptr 1 0),(41,i6 x_4.Day)]) ⟨[(aB s_1),(aN x_4)],[]⟩ ?_)
    refine ExO.callL [] [i6 x_4.Day,i6 0,i6 400] rfl rfl (jB x_4.Day 0 400) rfl rfl (iZ N x_4.Day 0 400 r_13 hr_13) (jA _ _ _ _) rfl ?_
    refine rn 2 [1,2,3,7,39] (mkS 60 [(1,.sl (plan_2.map aA) none),(2,i6 job_3),(3,.ptr 0 0),(7,.ptr 1 0),(39,.bool (!r_13))]) ⟨[(aB s_1),(aN x_4)],[]⟩ ?_
    refine ExO.nil ?_
    rcases aY h with ⟨hc_14,h⟩ | ⟨hc_14,h⟩
    ·refine Ex.condT _ rfl hc_14 ?_
     refine Ex.seq (rg 1 [6] (mkS 60 [(6,i6 2)]) ⟨[(aB s_1),(aN x_4)],[]⟩ ?_)
     refine Ex.ret ?_
     obtain rfl:=sJ h
     exact rt (i6 2)
    ·refine Ex.condF _ rfl hc_14 ?_
     refine Ex.skip ?_
     refine Ex.seq (Ex.seq ?_)
     obtain ⟨r_15,hr_15,h⟩:=bE h
     refine Ex.reg (rn 3 [1,3,7,45,46] (mkS 60 [(1,.sl (plan_2.map aA) none),(3,.ptr 0 0),(7,.ptr 1 0),(45,.sl (s_1.Jobs.map aI) none),(46,i6 job_3)]) ⟨[(aB s_1),(aN x_4)],[]⟩ ?_)
     refine ExO.callL [] [.sl (s_1.Jobs.map aI) none,i6 job_3] rfl rfl (wG s_1.Jobs job_3) rfl rfl (oR N s_1.Jobs job_3 r_15 hr_15) (oU _ _ _ _) rfl ?_
     refine rn 1 [1,3,7,8] (mkS 60 [(1,.sl (plan_2.map aA) none),(3,.ptr 0 0),(7,.ptr 1 0),(8,i6 r_15)]) ⟨[(aB s_1),(aN x_4)],[]⟩ ?_
     refine ExO.nil ?_
     obtain ⟨K_18,hK_19,h⟩:=letE h
     refine Ex.seqJ (fun a S => ∃ (y_16 : Bool),K_18 y_16 = some r ∧ a = mkS 60 [(59,.bool y_16)] ∧ S = ⟨[],[]⟩) ?_ ?_
     ·rcases aY h with ⟨hc_20,h⟩ | ⟨hc_20,h⟩
      ·obtain ⟨r_21,hr_21,h⟩:=bE h
       have hT_22 : fH Tryz.prog [⟨50,[.sl (s_1.Jobs.map aI) none,.sl (plan_2.map aA) none,i6 r_15],[],(cE r_21),[]⟩] ∧ eF [⟨50,[.sl (s_1.Jobs.map aI) none,.sl (plan_2.map aA) none,i6 r_15],[],(cE r_21),[]⟩]:=⟨⟨(mX N s_1.Jobs plan_2 r_15 r_21 hr_21),rfl,trivial⟩,⟨trivial,trivial⟩⟩
       refine Ex.drawE (a1:=mkS 60 [(1,.sl (plan_2.map aA) none),(3,.ptr 0 0),(7,.ptr 1 0),(8,i6 r_15),(48,i6 r_15),(49,.bool (r_15 != (-1))),(50,.bool true),(51,.ptr 1 1),(52,i6 x_4.Day),(53,.ptr 0 1),(54,.sl (s_1.Jobs.map aI) none),(55,.sl (plan_2.map aA) none),(56,i6 r_15),(57,i6 r_21)]) (dI hT_22.1) [] [] [] ?_ ?_
       ·refine drS [0, 1] 9 [(2, .eq (.bool true))] [AV.bool (r_15 != (-1)) = AV.bool true] (mkS 60 [(1, .sl (plan_2.map aA) none), (3, .ptr 0 0), (7, .ptr 1 0), (8, i6 r_15), (48, i6 r_15), (49, .bool (r_15 != (-1))), (50, .bool true), (51, .ptr 1 1), (52, i6 x_4.Day), (53, .ptr 0 1), (54, .sl (s_1.Jobs.map aI) none), (55, .sl (plan_2.map aA) none), (56, i6 r_15)]) (by simp) (by kernel_rfl) ⟨congrArg AV.bool hc_20, trivial⟩ (by kernel_rfl) ?_
        refine drC hT_22.2 0 _ [.sl (s_1.Jobs.map aI) none,.sl (plan_2.map aA) none,i6 r_15] (cE r_21) rfl rfl rfl rfl rfl (fun _ => rfl) rfl (by simp; try rfl) (fun _ => nC _ _ _ _) ?_
        exact DrO.nil rfl
       ·dsimp only [List.getLastD_cons,List.getLastD_nil]
        refine rn 2 [59] (mkS 60 [(59,.bool (decide (x_4.Day < r_21)))]) ⟨[(aB s_1),(aN x_4)],[]⟩ ?_
        refine ExO.nil ?_
        (try simp only [reduceCtorEq,AEx.ex.injEq,Nat.reduceEqDiff,if_true,if_false])
        exact ⟨_,_,bM (m:=60) 0 [] [(59,.bool (decide (x_4.Day < r_21)))] [] [] (by simp [bD]) (by simp) ⟨rfl,trivial⟩ (by simp) rfl (by decide),(decide (x_4.Day < r_21)),h,rfl,rfl⟩
      ·refine qG (cP _) [(2, .eq (.bool false))] [] [59] [AV.bool (r_15 != (-1)) = AV.bool false] [] (mkS 60 [(1, .sl (plan_2.map aA) none), (3, .ptr 0 0), (7, .ptr 1 0), (8, i6 r_15), (48, i6 r_15), (49, .bool (r_15 != (-1))), (50, .bool false), (51, .tup []), (52, .tup []), (53, .tup []), (54, .tup []), (55, .tup []), (56, .tup []), (57, .tup [])]) (mkS 60 [(59, .bool false)]) (by kernel_rfl) (by kernel_rfl) ⟨congrArg AV.bool hc_20, trivial⟩ (by kernel_rfl) trivial ?_
       (try simp only [reduceCtorEq,AEx.ex.injEq,Nat.reduceEqDiff,if_true,if_false])
       exact ⟨_,_,bM (m:=60) 0 [] [(59,.bool false)] [] [] (by simp [bD]) (by simp) ⟨rfl,trivial⟩ (by simp) rfl (by decide),false,h,rfl,rfl⟩
     ·rintro a S ⟨y_16,h,rfl,rfl⟩
      subst hK_19
      rcases aY h with ⟨hc_23,h⟩ | ⟨hc_23,h⟩
      ·refine Ex.condT _ rfl hc_23 ?_
       refine Ex.seq (rg 1 [6] (mkS 60 [(6,i6 9)]) ⟨[],[]⟩ ?_)
       refine Ex.ret ?_
       obtain rfl:=sJ h
       exact rt (i6 9)
      ·refine Ex.condF _ rfl hc_23 ?_
       refine Ex.skip ?_
       refine Ex.seq (rg 1 [6] (mkS 60 [(6,i6 0)]) ⟨[],[]⟩ ?_)
       refine Ex.ret ?_
       obtain rfl:=sJ h
       exact rt (i6 0)
theorem aFM (x y : bH) (h : aI x = aI y) : x = y:=by
 have h:=AV.agg.inj h
 simp only [aW,List.cons.injEq,AV.int.injEq,AV.bool.injEq,AV.str.injEq,AV.sl.injEq,true_and,and_true] at h
 obtain ⟨h0,h1,h2⟩:=h
 obtain ⟨x0,x1,x2⟩:=x; obtain ⟨y0,y1,y2⟩:=y; simp_all
theorem aCU (x y : aG) (h : aA x = aA y) : x = y:=by
 have h:=AV.agg.inj h
 simp only [aN,List.cons.injEq,AV.int.injEq,AV.bool.injEq,AV.str.injEq,AV.sl.injEq,true_and,and_true] at h
 obtain ⟨h0,h1⟩:=h
 obtain ⟨x0,x1⟩:=x; obtain ⟨y0,y1⟩:=y; simp_all
theorem aDh (N : Nat) (jobs_1 : (List bH)) (plan_2 : (List aG)) (job_3 : Int) (jobs_1z : (List bH)) (plan_2z : (List aG)) (job_3z : Int) (r s : Int) (hr : fW N jobs_1 plan_2 job_3 = some r) (hs : fW N jobs_1z plan_2z job_3z = some s) : iH ⟨50,[.sl (jobs_1.map aI) none,.sl (plan_2.map aA) none,i6 job_3],[],cE r,[]⟩ ⟨50,[.sl (jobs_1z.map aI) none,.sl (plan_2z.map aA) none,i6 job_3z],[],cE s,[]⟩:=by
 intro _ h1 h2
 have h1 : ([.sl (jobs_1.map aI) none,.sl (plan_2.map aA) none,i6 job_3] : List AV) = [.sl (jobs_1z.map aI) none,.sl (plan_2z.map aA) none,i6 job_3z]:=h1
 have h2 : ([] : List (List AV)) = []:=h2
 obtain rfl : jobs_1 = jobs_1z:=(aET aFM) _ _ (List.cons.inj h1).1
 obtain rfl : plan_2 = plan_2z:=(aET aCU) _ _ (List.cons.inj (List.cons.inj h1).2).1
 obtain rfl : job_3 = job_3z:=(yI _) _ _ (List.cons.inj (List.cons.inj (List.cons.inj h1).2).2).1
 rw [hr] at hs; cases hs; exact ⟨rfl,rfl⟩
def jZ (N : Nat) (jobs_1 : (List bH)) (plan_2 : (List aG)) (a_3 : Int) (b_4 : Int) : Option (Bool):=((getI plan_2 a_3).bind fun x_5 => ((getI plan_2 b_4).bind fun x_6 => (bif (x_5.Worker == x_6.Worker) then ((getI plan_2 a_3).bind fun x_8 => ((fW N jobs_1 plan_2 b_4).bind fun r_9 => (bif (decide (x_8.Day < r_9)) then ((getI plan_2 b_4).bind fun x_11 => ((fW N jobs_1 plan_2 a_3).bind fun r_12 => some (decide (x_11.Day < r_12)))) else some false))) else some false)))
def mC (r : Bool) : AV:=.bool r
attribute [local simp] mC
theorem aBy (jobs_1 : (List bH)) (plan_2 : (List aG)) (a_3 : Int) (b_4 : Int) : [.sl (jobs_1.map aI) none,.sl (plan_2.map aA) none,i6 a_3,i6 b_4].mapM (ren []) = some [.sl (jobs_1.map aI) none,.sl (plan_2.map aA) none,i6 a_3,i6 b_4]:=by simp
theorem aBp (r : Bool) (n n2 m : Nat) : back n n2 m (mC r) = some (mC r):=by simp
theorem aBb (N : Nat) (jobs_1 : (List bH)) (plan_2 : (List aG)) (a_3 : Int) (b_4 : Int) (r : Bool) (h : jZ N jobs_1 plan_2 a_3 b_4 = some r) : Does Tryz.prog 49 [.sl (jobs_1.map aI) none,.sl (plan_2.map aA) none,i6 a_3,i6 b_4] [] fun v c => v = mC r ∧ c = []:=by
 unfold jZ at h
 refine Does.ofL comp49 _ _ rfl rfl ?_
 refine Ex.seq (rg 1 [0,1,2,3] (mkS 44 [(0,.sl (jobs_1.map aI) none),(1,.sl (plan_2.map aA) none),(2,i6 a_3),(3,i6 b_4)]) ⟨[],[]⟩ ?_)
 refine Ex.seq ?_
 obtain ⟨x_5,hx_5,h⟩:=bE h
 obtain ⟨x_6,hx_6,h⟩:=bE h
 rcases aY h with ⟨hc_7,h⟩ | ⟨hc_7,h⟩
 ·obtain ⟨x_8,hx_8,h⟩:=bE h
  obtain ⟨r_9,hr_9,h⟩:=bE h
  rcases aY h with ⟨hc_10,h⟩ | ⟨hc_10,h⟩
  ·obtain ⟨x_11,hx_11,h⟩:=bE h
   obtain ⟨r_12,hr_12,h⟩:=bE h
   have hT_13 : fH Tryz.prog [⟨50,[.sl (jobs_1.map aI) none,.sl (plan_2.map aA) none,i6 b_4],[],(cE r_9),[]⟩,⟨50,[.sl (jobs_1.map aI) none,.sl (plan_2.map aA) none,i6 a_3],[],(cE r_12),[]⟩] ∧ eF [⟨50,[.sl (jobs_1.map aI) none,.sl (plan_2.map aA) none,i6 b_4],[],(cE r_9),[]⟩,⟨50,[.sl (jobs_1.map aI) none,.sl (plan_2.map aA) none,i6 a_3],[],(cE r_12),[]⟩]:=⟨⟨(mX N jobs_1 plan_2 b_4 r_9 hr_9),rfl,(mX N jobs_1 plan_2 a_3 r_12 hr_12),rfl,trivial⟩,⟨⟨aDh N jobs_1 plan_2 b_4 jobs_1 plan_2 a_3 r_9 r_12 hr_9 hr_12,trivial⟩,trivial,trivial⟩⟩
   refine Ex.drawE (a1:=mkS 44 [(0,.sl (jobs_1.map aI) none),(1,.sl (plan_2.map aA) none),(2,i6 a_3),(3,i6 b_4),(9,.sl (plan_2.map aA) none),(10,i6 a_3),(11,.rop (aN x_5)),(12,.rop (aN x_5)),(13,i6 x_5.Worker),(14,.sl (plan_2.map aA) none),(15,i6 b_4),(16,.rop (aN x_6)),(17,.rop (aN x_6)),(18,i6 x_6.Worker),(19,.bool (x_5.Worker == x_6.Worker)),(20,.bool true),(21,.sl (plan_2.map aA) none),(22,i6 a_3),(23,.rop (aN x_8)),(24,.rop [i6 x_8.Day]),(25,i6 x_8.Day),(26,.sl (jobs_1.map aI) none),(27,.sl (plan_2.map aA) none),(28,i6 b_4),(29,i6 r_9),(30,.bool (decide (x_8.Day < r_9))),(31,.bool (decide (x_8.Day < r_9))),(32,.bool true),(33,.sl (plan_2.map aA) none),(34,i6 b_4),(35,.rop (aN x_11)),(36,.rop [i6 x_11.Day]),(37,i6 x_11.Day),(38,.sl (jobs_1.map aI) none),(39,.sl (plan_2.map aA) none),(40,i6 a_3),(41,i6 r_12)]) (dI hT_13.1) [] [] [] ?_ ?_
   ·refine drS [] 20 [(2, .rop (aN x_5)), (7, .rop (aN x_6)), (11, .eq (.bool true)), (14, .rop (aN x_8))] [LGet (plan_2.map aA) a_3 2 (aN x_5), LGet (plan_2.map aA) b_4 2 (aN x_6), AV.bool (x_5.Worker == x_6.Worker) = AV.bool true, LGet (plan_2.map aA) a_3 2 (aN x_8)] (mkS 44 [(0, .sl (jobs_1.map aI) none), (1, .sl (plan_2.map aA) none), (2, i6 a_3), (3, i6 b_4), (9, .sl (plan_2.map aA) none), (10, i6 a_3), (11, .rop (aN x_5)), (12, .rop (aN x_5)), (13, i6 x_5.Worker), (14, .sl (plan_2.map aA) none), (15, i6 b_4), (16, .rop (aN x_6)), (17, .rop (aN x_6)), (18, i6 x_6.Worker), (19, .bool (x_5.Worker == x_6.Worker)), (20, .bool true), (21, .sl (plan_2.map aA) none), (22, i6 a_3), (23, .rop (aN x_8)), (24, .rop [i6 x_8.Day]), (25, i6 x_8.Day), (26, .sl (jobs_1.map aI) none), (27, .sl (plan_2.map aA) none), (28, i6 b_4)]) (by simp) (by kernel_rfl) ⟨LGet.of hx_5 rfl, LGet.of hx_6 rfl, congrArg AV.bool hc_7, LGet.of hx_8 rfl, trivial⟩ (by kernel_rfl) ?_
    refine drC hT_13.2 0 _ [.sl (jobs_1.map aI) none,.sl (plan_2.map aA) none,i6 b_4] (cE r_9) rfl rfl rfl rfl rfl (fun _ => rfl) rfl (by simp; try rfl) (fun _ => nC _ _ _ _) ?_
    refine drS [] 11 [(2,.eq (.bool true)),(5,.rop (aN x_11))] [AV.bool (decide (x_8.Day < r_9)) = AV.bool true,LGet (plan_2.map aA) b_4 2 (aN x_11)] (mkS 44 [(0,.sl (jobs_1.map aI) none),(1,.sl (plan_2.map aA) none),(2,i6 a_3),(3,i6 b_4),(9,.sl (plan_2.map aA) none),(10,i6 a_3),(11,.rop (aN x_5)),(12,.rop (aN x_5)),(13,i6 x_5.Worker),(14,.sl (plan_2.map aA) none),(15,i6 b_4),(16,.rop (aN x_6)),(17,.rop (aN x_6)),(18,i6 x_6.Worker),(19,.bool (x_5.Worker == x_6.Worker)),(20,.bool true),(21,.sl (plan_2.map aA) none),(22,i6 a_3),(23,.rop (aN x_8)),(24,.rop [i6 x_8.Day]),(25,i6 x_8.Day),(26,.sl (jobs_1.map aI) none),(27,.sl (plan_2.map aA) none),(28,i6 b_4),(29,i6 r_9),(30,.bool (decide (x_8.Day < r_9))),(31,.bool (decide (x_8.Day < r_9))),(32,.bool true),(33,.sl (plan_2.map aA) none),(34,i6 b_4),(35,.rop (aN x_11)),(36,.rop [i6 x_11.Day]),(37,i6 x_11.Day),(38,.sl (jobs_1.map aI) none),(39,.sl (plan_2.map aA) none),(40,i6 a_3)]) (by simp) (by kernel_rfl) ⟨congrArg AV.bool hc_10,LGet.of hx_11 rfl,trivial⟩ (by kernel_rfl) ?_
    refine drC hT_13.2 1 _ [.sl (jobs_1.map aI) none,.sl (plan_2.map aA) none,i6 a_3] (cE r_12) rfl rfl rfl rfl rfl (fun _ => rfl) rfl (by simp; try rfl) (fun _ => nC _ _ _ _) ?_
    exact DrO.nil rfl
   ·dsimp only [List.getLastD_cons,List.getLastD_nil]
    refine rn 3 [8] (mkS 44 [(8,.bool (decide (x_11.Day < r_12)))]) ⟨[],[]⟩ ?_
    refine ExO.nil ?_
    refine Ex.ret ?_
    obtain rfl:=sJ h
    exact rt (.bool (decide (x_11.Day < r_12)))
  ·have hT_15 : fH Tryz.prog [⟨50,[.sl (jobs_1.map aI) none,.sl (plan_2.map aA) none,i6 b_4],[],(cE r_9),[]⟩] ∧ eF [⟨50,[.sl (jobs_1.map aI) none,.sl (plan_2.map aA) none,i6 b_4],[],(cE r_9),[]⟩]:=⟨⟨(mX N jobs_1 plan_2 b_4 r_9 hr_9),rfl,trivial⟩,⟨trivial,trivial⟩⟩
   obtain ⟨X_14,hX_14,hcl_16⟩ : ∃ X : Clr,eE Tryz.prog X ∧ X 50 [.sl (jobs_1.map aI) none,.sl (plan_2.map aA) none,i6 b_4] ⟨[],[]⟩ = some (cE r_9,none):=⟨_,dI hT_15.1,dX hT_15.2 0 _ [.sl (jobs_1.map aI) none,.sl (plan_2.map aA) none,i6 b_4] _ rfl rfl rfl rfl (by simp; try rfl) (fun _ => nC _ _ _ _)⟩
   refine qG hX_14 [(2,.rop (aN x_5)),(7,.rop (aN x_6)),(11,.eq (.bool true)),(14,.rop (aN x_8)),(20,.cl (cE r_9)),(23,.eq (.bool false))] [] [8] [LGet (plan_2.map aA) a_3 2 (aN x_5),LGet (plan_2.map aA) b_4 2 (aN x_6),AV.bool (x_5.Worker == x_6.Worker) = AV.bool true,LGet (plan_2.map aA) a_3 2 (aN x_8),X_14 50 [.sl (jobs_1.map aI) none,.sl (plan_2.map aA) none,i6 b_4] ⟨[],[]⟩ = some (cE r_9,none),AV.bool (decide (x_8.Day < r_9)) = AV.bool false] [] (mkS 44 [(0,.sl (jobs_1.map aI) none),(1,.sl (plan_2.map aA) none),(2,i6 a_3),(3,i6 b_4),(9,.sl (plan_2.map aA) none),(10,i6 a_3),(11,.rop (aN x_5)),(12,.rop (aN x_5)),(13,i6 x_5.Worker),(14,.sl (plan_2.map aA) none),(15,i6 b_4),(16,.rop (aN x_6)),(17,.rop (aN x_6)),(18,i6 x_6.Worker),(19,.bool (x_5.Worker == x_6.Worker)),(20,.bool true),(21,.sl (plan_2.map aA) none),(22,i6 a_3),(23,.rop (aN x_8)),(24,.rop [i6 x_8.Day]),(25,i6 x_8.Day),(26,.sl (jobs_1.map aI) none),(27,.sl (plan_2.map aA) none),(28,i6 b_4),(29,i6 r_9),(30,.bool (decide (x_8.Day < r_9))),(31,.bool (decide (x_8.Day < r_9))),(32,.bool false),(33,.tup []),(34,.tup []),(35,.tup []),(36,.tup []),(37,.tup []),(38,.tup []),(39,.tup []),(40,.tup []),(41,.tup [])]) (mkS 44 [(8,.bool false)]) (by kernel_rfl) (by kernel_rfl) ⟨LGet.of hx_5 rfl,LGet.of hx_6 rfl,congrArg AV.bool hc_7,LGet.of hx_8 rfl,hcl_16,congrArg AV.bool hc_10,trivial⟩ (by kernel_rfl) trivial ?_
   refine Ex.ret ?_
   obtain rfl:=sJ h
   exact rt (.bool false)
 ·refine qG (cP _) [(2, .rop (aN x_5)), (7, .rop (aN x_6)), (11, .eq (.bool false))] [] [8] [LGet (plan_2.map aA) a_3 2 (aN x_5), LGet (plan_2.map aA) b_4 2 (aN x_6), AV.bool (x_5.Worker == x_6.Worker) = AV.bool false] [] (mkS 44 [(0, .sl (jobs_1.map aI) none), (1, .sl (plan_2.map aA) none), (2, i6 a_3), (3, i6 b_4), (9, .sl (plan_2.map aA) none), (10, i6 a_3), (11, .rop (aN x_5)), (12, .rop (aN x_5)), (13, i6 x_5.Worker), (14, .sl (plan_2.map aA) none), (15, i6 b_4), (16, .rop (aN x_6)), (17, .rop (aN x_6)), (18, i6 x_6.Worker), (19, .bool (x_5.Worker == x_6.Worker)), (20, .bool false), (21, .tup []), (22, .tup []), (23, .tup []), (24, .tup []), (25, .tup []), (26, .tup []), (27, .tup []), (28, .tup []), (29, .tup []), (30, .tup []), (31, .bool false), (32, .bool false), (33, .tup []), (34, .tup []), (35, .tup []), (36, .tup []), (37, .tup []), (38, .tup []), (39, .tup []), (40, .tup []), (41, .tup [])]) (mkS 44 [(8, .bool false)]) (by kernel_rfl) (by kernel_rfl) ⟨LGet.of hx_5 rfl, LGet.of hx_6 rfl, congrArg AV.bool hc_7, trivial⟩ (by kernel_rfl) trivial ?_
  refine Ex.ret ?_
  obtain rfl:=sJ h
  exact rt (.bool false)
def gD (N : Nat) (s_1 : aH) (plan_2 : (List aG)) : Option (Int):=(bif (((plan_2.length : Nat) : Int) != ((s_1.Jobs.length : Nat) : Int)) then some 1 else (letJ (fun (_ : Unit) => (letJ (fun (_ : Unit) => some 0) (fun k_14 => (loop1 (fun rec_18 (y_17 : Int) => (bif (decide (y_17 < ((plan_2.length : Nat) : Int))) then (letJ (fun (_ : Unit) => (rec_18 (IntKind.i64.wrap (y_17 + 1)))) (fun k_22 => (loop1 (fun rec_26 (y_25 : Int) => (bif (decide (y_25 < y_17)) then ((jZ N s_1.Jobs plan_2 y_17 y_25).bind fun r_30 => (bif r_30 then some 10 else (rec_26 (IntKind.i64.wrap (y_25 + 1))))) else (k_22 ()))) N 0))) else (k_14 ()))) N 0)))) (fun k_4 => (loop1 (fun rec_8 (y_7 : Int) => (bif (decide (y_7 < ((plan_2.length : Nat) : Int))) then ((fO N s_1 plan_2 y_7).bind fun r_12 => (bif (r_12 != 0) then some r_12 else (rec_8 (IntKind.i64.wrap (y_7 + 1))))) else (k_4 ()))) N 0))))
def iJ (r : Int) : AV:=i6 r
attribute [local simp] iJ
theorem wH (s_1 : aH) (plan_2 : (List aG)) : [(aC s_1),.sl (plan_2.map aA) none].mapM (ren []) = some [(aC s_1),.sl (plan_2.map aA) none]:=by simp
theorem wB (r : Int) (n n2 m : Nat) : back n n2 m (iJ r) = some (iJ r):=by simp
theorem vV (N : Nat) (s_1 : aH) (plan_2 : (List aG)) (r : Int) (h : gD N s_1 plan_2 = some r) : Does Tryz.prog 31 [(aC s_1),.sl (plan_2.map aA) none] [] fun v c => v = iJ r ∧ c = []:=by
 unfold gD at h
 refine Does.ofL comp31 _ _ rfl rfl ?_
 refine Ex.seq (rg 2 [1,2] (mkS 45 [(1,.sl (plan_2.map aA) none),(2,.ptr 0 0)]) ⟨[(aB s_1)],[]⟩ ?_)
 refine Ex.seq (Ex.seq ?_)
 refine regH 6 [(1,.eq (i6 ((plan_2.length : Nat) : Int))),(4,.eq (i6 ((s_1.Jobs.length : Nat) : Int)))] [1,2,14] [AV.int .i64 (((plan_2.map aA).length : Nat) : Int) = AV.int .i64 ((plan_2.length : Nat) : Int),AV.int .i64 (((s_1.Jobs.map aI).length : Nat) : Int) = AV.int .i64 ((s_1.Jobs.length : Nat) : Int)] (mkS 45 [(1,.sl (plan_2.map aA) none),(2,.ptr 0 0),(14,.bool (((plan_2.length : Nat) : Int) != ((s_1.Jobs.length : Nat) : Int)))]) (⟨[(aB s_1)],[]⟩) (by kernel_rfl) ⟨lenM _ _,lenM _ _,trivial⟩ rfl ?_
 rcases aY h with ⟨hc_3,h⟩ | ⟨hc_3,h⟩
 ·refine Ex.condT _ rfl hc_3 ?_
  refine Ex.seq (rg 1 [4] (mkS 45 [(4,i6 1)]) ⟨[(aB s_1)],[]⟩ ?_)
  refine Ex.ret ?_
  obtain rfl:=sJ h
  exact rt (i6 1)
 ·refine Ex.condF _ rfl hc_3 ?_
  refine Ex.skip ?_
  refine Ex.seq (Ex.seq ?_)
  refine regH 3 [(1,.eq (i6 ((plan_2.length : Nat) : Int)))] [1,2,16,17] [AV.int .i64 (((plan_2.map aA).length : Nat) : Int) = AV.int .i64 ((plan_2.length : Nat) : Int)] (mkS 45 [(1,.sl (plan_2.map aA) none),(2,.ptr 0 0),(16,i6 ((plan_2.length : Nat) : Int)),(17,i6 0)]) (⟨[(aB s_1)],[]⟩) (by kernel_rfl) ⟨lenM _ _,trivial⟩ rfl ?_
  obtain ⟨K_5,hK_6,h⟩:=letE h
  refine Ex.blockJ (fun a S => K_5 () = some r ∧ a = mkS 45 [(1,.sl (plan_2.map aA) none),(2,.ptr 0 0)] ∧ S = ⟨[(aB s_1)],[]⟩) ?_ ?_
  ·obtain ⟨B_9,hB_10,h⟩:=iU h
   refine Ex.loopF (fun k a S => ∃ (y_7 : Int),loop1 B_9 k y_7 = some r ∧ a = mkS 45 [(1,.sl (plan_2.map aA) none),(2,.ptr 0 0),(16,i6 ((plan_2.length : Nat) : Int)),(17,i6 y_7)] ∧ S = ⟨[(aB s_1)],[]⟩) N ⟨_,_,aM.refl _ _ _,0,h,rfl,rfl⟩ ?_
   rintro k a S ⟨y_7,h,rfl,rfl⟩
   cases k with
   | zero => exact (iS h).elim
   | succ k =>
    replace h:=iT h hB_10
    refine Ex.seq (rg 1 [1,2,16,17,18] (mkS 45 [(1,.sl (plan_2.map aA) none),(2,.ptr 0 0),(16,i6 ((plan_2.length : Nat) : Int)),(17,i6 y_7),(18,.bool (decide (y_7 < ((plan_2.length : Nat) : Int))))]) ⟨[(aB s_1)],[]⟩ ?_)
    refine Ex.seq ?_
    rcases aY h with ⟨hc_11,h⟩ | ⟨hc_11,h⟩
    ·refine Ex.condT _ rfl hc_11 ?_
     refine Ex.skip ?_
     refine Ex.seq ?_
     refine Ex.blockK ?_
     refine Ex.seq (rg 2 [1,2,5,16,17] (mkS 45 [(1,.sl (plan_2.map aA) none),(2,.ptr 0 0),(5,i6 y_7),(16,i6 ((plan_2.length : Nat) : Int)),(17,i6 y_7)]) ⟨[(aB s_1)],[]⟩ ?_)
     refine Ex.seq ?_
     obtain ⟨r_12,hr_12,h⟩:=bE h
     refine Ex.reg (rn 3 [1,2,16,17,20,21,22] (mkS 45 [(1,.sl (plan_2.map aA) none),(2,.ptr 0 0),(16,i6 ((plan_2.length : Nat) : Int)),(17,i6 y_7),(20,(aC s_1)),(21,.sl (plan_2.map aA) none),(22,i6 y_7)]) ⟨[(aB s_1)],[]⟩ ?_)
     refine ExO.callL [] [(aC s_1),.sl (plan_2.map aA) none,i6 y_7] rfl rfl (vA s_1 plan_2 y_7) rfl rfl (uM N s_1 plan_2 y_7 r_12 hr_12) (uT _ _ _ _) rfl ?_
     refine rn 1 [1,2,6,16,17] (mkS 45 [(1,.sl (plan_2.map aA) none),(2,.ptr 0 0),(6,i6 r_12),(16,i6 ((plan_2.length : Nat) : Int)),(17,i6 y_7)]) ⟨[(aB s_1)],[]⟩ ?_
     refine ExO.nil ?_
     refine Ex.seq (rg 2 [1,2,6,16,17,25] (mkS 45 [(1,.sl (plan_2.map aA) none),(2,.ptr 0 0),(6,i6 r_12),(16,i6 ((plan_2.length : Nat) : Int)),(17,i6 y_7),(25,.bool (r_12 != 0))]) ⟨[(aB s_1)],[]⟩ ?_)
     rcases aY h with ⟨hc_13,h⟩ | ⟨hc_13,h⟩
     ·refine Ex.condT _ rfl hc_13 ?_
      refine Ex.seq (rg 2 [4] (mkS 45 [(4,i6 r_12)]) ⟨[(aB s_1)],[]⟩ ?_)
      refine Ex.ret ?_
      obtain rfl:=sJ h
      exact rt (i6 r_12)
     ·refine Ex.condF _ rfl hc_13 ?_
      refine Ex.skip ?_
      refine rg 2 [1,2,16,17] (mkS 45 [(1,.sl (plan_2.map aA) none),(2,.ptr 0 0),(16,i6 ((plan_2.length : Nat) : Int)),(17,i6 (IntKind.i64.wrap (y_7 + 1)))]) ⟨[(aB s_1)],[]⟩ ?_
      dsimp only
      exact ⟨_,_,aM.refl _ _ _,k,Nat.lt_succ_self k,(IntKind.i64.wrap (y_7 + 1)),h,rfl,rfl⟩
    ·refine Ex.condF _ rfl hc_11 ?_
     refine Ex.exit ?_
     (try simp only [reduceCtorEq,AEx.ex.injEq,Nat.reduceEqDiff,if_true,if_false])
     exact ⟨_,_,bQ [1,2],h,rfl,rfl⟩
  ·rintro a S ⟨h,rfl,rfl⟩
   subst hK_6
   refine Ex.seq (Ex.seq ?_)
   refine regH 3 [(1,.eq (i6 ((plan_2.length : Nat) : Int)))] [1,2,29,30] [AV.int .i64 (((plan_2.map aA).length : Nat) : Int) = AV.int .i64 ((plan_2.length : Nat) : Int)] (mkS 45 [(1,.sl (plan_2.map aA) none),(2,.ptr 0 0),(29,i6 ((plan_2.length : Nat) : Int)),(30,i6 0)]) (⟨[(aB s_1)],[]⟩) (by kernel_rfl) ⟨lenM _ _,trivial⟩ rfl ?_
   obtain ⟨K_15,hK_16,h⟩:=letE h
   refine Ex.blockJ (fun a S => K_15 () = some r ∧ a = mkS 45 [] ∧ S = ⟨[],[]⟩) ?_ ?_
   ·obtain ⟨B_19,hB_20,h⟩:=iU h
    refine Ex.loopF (fun k a S => ∃ (y_17 : Int),loop1 B_19 k y_17 = some r ∧ a = mkS 45 [(1,.sl (plan_2.map aA) none),(2,.ptr 0 0),(29,i6 ((plan_2.length : Nat) : Int)),(30,i6 y_17)] ∧ S = ⟨[(aB s_1)],[]⟩) N ⟨_,_,aM.refl _ _ _,0,h,rfl,rfl⟩ ?_
    rintro k a S ⟨y_17,h,rfl,rfl⟩
    cases k with
    | zero => exact (iS h).elim
    | succ k =>
     replace h:=iT h hB_20
     refine Ex.seq (rg 1 [1,2,29,30,31] (mkS 45 [(1,.sl (plan_2.map aA) none),(2,.ptr 0 0),(29,i6 ((plan_2.length : Nat) : Int)),(30,i6 y_17),(31,.bool (decide (y_17 < ((plan_2.length : Nat) : Int))))]) ⟨[(aB s_1)],[]⟩ ?_)
     refine Ex.seq ?_
     rcases aY h with ⟨hc_21,h⟩ | ⟨hc_21,h⟩
     ·refine Ex.condT _ rfl hc_21 ?_
      refine Ex.skip ?_
      refine Ex.seq ?_
      refine Ex.blockK ?_
      refine Ex.seq (rg 2 [1,2,7,29,30] (mkS 45 [(1,.sl (plan_2.map aA) none),(2,.ptr 0 0),(7,i6 y_17),(29,i6 ((plan_2.length : Nat) : Int)),(30,i6 y_17)]) ⟨[(aB s_1)],[]⟩ ?_)
      refine Ex.seq (rg 2 [1,2,7,29,30,33,34] (mkS 45 [(1,.sl (plan_2.map aA) none),(2,.ptr 0 0),(7,i6 y_17),(29,i6 ((plan_2.length : Nat) : Int)),(30,i6 y_17),(33,i6 y_17),(34,i6 0)]) ⟨[(aB s_1)],[]⟩ ?_)
      obtain ⟨K_23,hK_24,h⟩:=letE h
      refine Ex.blockJ (fun a S => K_23 () = some r ∧ a = mkS 45 [(1,.sl (plan_2.map aA) none),(2,.ptr 0 0),(29,i6 ((plan_2.length : Nat) : Int)),(30,i6 y_17)] ∧ S = ⟨[(aB s_1)],[]⟩) ?_ ?_
      ·obtain ⟨B_27,hB_28,h⟩:=iU h
       refine Ex.loopF (fun k a S => ∃ (y_25 : Int),loop1 B_27 k y_25 = some r ∧ a = mkS 45 [(1,.sl (plan_2.map aA) none),(2,.ptr 0 0),(7,i6 y_17),(29,i6 ((plan_2.length : Nat) : Int)),(30,i6 y_17),(33,i6 y_17),(34,i6 y_25)] ∧ S = ⟨[(aB s_1)],[]⟩) N ⟨_,_,aM.refl _ _ _,0,h,rfl,rfl⟩ ?_
       rintro k a S ⟨y_25,h,rfl,rfl⟩
       cases k with
       | zero => exact (iS h).elim
       | succ k =>
        replace h:=iT h hB_28
        refine Ex.seq (rg 1 [1,2,7,29,30,33,34,35] (mkS 45 [(1,.sl (plan_2.map aA) none),(2,.ptr 0 0),(7,i6 y_17),(29,i6 ((plan_2.length : Nat) : Int)),(30,i6 y_17),(33,i6 y_17),(34,i6 y_25),(35,.bool (decide (y_25 < y_17)))]) ⟨[(aB s_1)],[]⟩ ?_)
        refine Ex.seq ?_
        rcases aY h with ⟨hc_29,h⟩ | ⟨hc_29,h⟩
        ·refine Ex.condT _ rfl hc_29 ?_
         refine Ex.skip ?_
         refine Ex.seq ?_
         refine Ex.blockK ?_
         refine Ex.seq (rg 2 [1,2,7,8,29,30,33,34] (mkS 45 [(1,.sl (plan_2.map aA) none),(2,.ptr 0 0),(7,i6 y_17),(8,i6 y_25),(29,i6 ((plan_2.length : Nat) : Int)),(30,i6 y_17),(33,i6 y_17),(34,i6 y_25)]) ⟨[(aB s_1)],[]⟩ ?_)
         refine Ex.seq ?_
         obtain ⟨r_30,hr_30,h⟩:=bE h
         refine Ex.reg (rn 5 [1,2,7,29,30,33,34,38,39,40,41] (mkS 45 [(1,.sl (plan_2.map aA) none),(2,.ptr 0 0),(7,i6 y_17),(29,i6 ((plan_2.length : Nat) : Int)),(30,i6 y_17),(33,i6 y_17),(34,i6 y_25),(38,.sl (s_1.Jobs.map aI) none),(39,.sl (plan_2.map aA) none),(40,i6 y_17),(41,i6 y_25)]) ⟨[(aB s_1)],[]⟩ ?_)
         refine ExO.callL [] [.sl (s_1.Jobs.map aI) none,.sl (plan_2.map aA) none,i6 y_17,i6 y_25] rfl rfl (aBy s_1.Jobs plan_2 y_17 y_25) rfl rfl (aBb N s_1.Jobs plan_2 y_17 y_25 r_30 hr_30) (aBp _ _ _ _) rfl ?_
         refine rn 0 [1,2,7,29,30,33,34,42] (mkS 45 [(1,.sl (plan_2.map aA) none),(2,.ptr 0 0),(7,i6 y_17),(29,i6 ((plan_2.length : Nat) : Int)),(30,i6 y_17),(33,i6 y_17),(34,i6 y_25),(42,.bool r_30)]) ⟨[(aB s_1)],[]⟩ ?_
         refine ExO.nil ?_
         rcases aY h with ⟨hc_31,h⟩ | ⟨hc_31,h⟩
         ·refine Ex.condT _ rfl hc_31 ?_
          refine Ex.seq (rg 1 [4] (mkS 45 [(4,i6 10)]) ⟨[(aB s_1)],[]⟩ ?_)
          refine Ex.ret ?_
          obtain rfl:=sJ h
          exact rt (i6 10)
         ·refine Ex.condF _ rfl hc_31 ?_
          refine Ex.skip ?_
          refine rg 2 [1,2,7,29,30,33,34] (mkS 45 [(1,.sl (plan_2.map aA) none),(2,.ptr 0 0),(7,i6 y_17),(29,i6 ((plan_2.length : Nat) : Int)),(30,i6 y_17),(33,i6 y_17),(34,i6 (IntKind.i64.wrap (y_25 + 1)))]) ⟨[(aB s_1)],[]⟩ ?_
          dsimp only
          exact ⟨_,_,aM.refl _ _ _,k,Nat.lt_succ_self k,(IntKind.i64.wrap (y_25 + 1)),h,rfl,rfl⟩
        ·refine Ex.condF _ rfl hc_29 ?_
         refine Ex.exit ?_
         (try simp only [reduceCtorEq,AEx.ex.injEq,Nat.reduceEqDiff,if_true,if_false])
         exact ⟨_,_,bQ [1,2,29,30],h,rfl,rfl⟩
      ·rintro a S ⟨h,rfl,rfl⟩
       subst hK_24
       refine rg 2 [1,2,29,30] (mkS 45 [(1,.sl (plan_2.map aA) none),(2,.ptr 0 0),(29,i6 ((plan_2.length : Nat) : Int)),(30,i6 (IntKind.i64.wrap (y_17 + 1)))]) ⟨[(aB s_1)],[]⟩ ?_
       dsimp only
       exact ⟨_,_,aM.refl _ _ _,k,Nat.lt_succ_self k,(IntKind.i64.wrap (y_17 + 1)),h,rfl,rfl⟩
     ·refine Ex.condF _ rfl hc_21 ?_
      refine Ex.exit ?_
      (try simp only [reduceCtorEq,AEx.ex.injEq,Nat.reduceEqDiff,if_true,if_false])
      exact ⟨_,_,bM (m:=45) 0 [] [] [] [] (by simp [bD]) (by simp) trivial (by simp) rfl (by decide),h,rfl,rfl⟩
   ·rintro a S ⟨h,rfl,rfl⟩
    subst hK_16
    refine Ex.seq (rg 1 [4] (mkS 45 [(4,i6 0)]) ⟨[],[]⟩ ?_)
    refine Ex.ret ?_
    obtain rfl:=sJ h
    exact rt (i6 0)
def jX (N : Nat) (jobs_1 : (List bH)) (plan_2 : (List aG)) : Option (Int):=(letJ (fun (days_3 : Int) => some days_3) (fun k_4 => (loop2 (fun rec_9 (days_7 : Int) (y_8 : Int) => (bif (decide (y_8 < ((jobs_1.length : Nat) : Int))) then ((fW N jobs_1 plan_2 y_8).bind fun r_13 => (rec_9 (if r_13 > days_7 then r_13 else days_7) (IntKind.i64.wrap (y_8 + 1)))) else (k_4 days_7))) N 0 0)))
def mB (r : Int) : AV:=i6 r
attribute [local simp] mB
theorem aBx (jobs_1 : (List bH)) (plan_2 : (List aG)) : [.sl (jobs_1.map aI) none,.sl (plan_2.map aA) none].mapM (ren []) = some [.sl (jobs_1.map aI) none,.sl (plan_2.map aA) none]:=by simp
theorem aBo (r : Int) (n n2 m : Nat) : back n n2 m (mB r) = some (mB r):=by simp
theorem aBa (N : Nat) (jobs_1 : (List bH)) (plan_2 : (List aG)) (r : Int) (h : jX N jobs_1 plan_2 = some r) : Does Tryz.prog 32 [.sl (jobs_1.map aI) none,.sl (plan_2.map aA) none] [] fun v c => v = mB r ∧ c = []:=by
 unfold jX at h
 refine Does.ofL comp32 _ _ rfl rfl ?_
 refine Ex.seq (rg 1 [0,1] (mkS 20 [(0,.sl (jobs_1.map aI) none),(1,.sl (plan_2.map aA) none)]) ⟨[],[]⟩ ?_)
 refine Ex.seq (rg 1 [0,1,5] (mkS 20 [(0,.sl (jobs_1.map aI) none),(1,.sl (plan_2.map aA) none),(5,i6 0)]) ⟨[],[]⟩ ?_)
 refine Ex.seq (Ex.seq ?_)
 refine regH 3 [(1,.eq (i6 ((jobs_1.length : Nat) : Int)))] [0,1,5,8,9] [AV.int .i64 (((jobs_1.map aI).length : Nat) : Int) = AV.int .i64 ((jobs_1.length : Nat) : Int)] (mkS 20 [(0,.sl (jobs_1.map aI) none),(1,.sl (plan_2.map aA) none),(5,i6 0),(8,i6 ((jobs_1.length : Nat) : Int)),(9,i6 0)]) (⟨[],[]⟩) (by kernel_rfl) ⟨lenM _ _,trivial⟩ rfl ?_
 obtain ⟨K_5,hK_6,h⟩:=letE h
 refine Ex.blockJ (fun a S => ∃ (days_3 : Int),K_5 days_3 = some r ∧ a = mkS 20 [(5,i6 days_3)] ∧ S = ⟨[],[]⟩) ?_ ?_
 ·obtain ⟨B_10,hB_11,h⟩:=gP h
  refine Ex.loopF (fun k a S => ∃ (days_7 : Int),∃ (y_8 : Int),loop2 B_10 k days_7 y_8 = some r ∧ a = mkS 20 [(0,.sl (jobs_1.map aI) none),(1,.sl (plan_2.map aA) none),(5,i6 days_7),(8,i6 ((jobs_1.length : Nat) : Int)),(9,i6 y_8)] ∧ S = ⟨[],[]⟩) N ⟨_,_,aM.refl _ _ _,0,0,h,rfl,rfl⟩ ?_
  rintro k a S ⟨days_7,y_8,h,rfl,rfl⟩
  cases k with
  | zero => exact (gN h).elim
  | succ k =>
   replace h:=gO h hB_11
   refine Ex.seq (rg 1 [0,1,5,8,9,10] (mkS 20 [(0,.sl (jobs_1.map aI) none),(1,.sl (plan_2.map aA) none),(5,i6 days_7),(8,i6 ((jobs_1.length : Nat) : Int)),(9,i6 y_8),(10,.bool (decide (y_8 < ((jobs_1.length : Nat) : Int))))]) ⟨[],[]⟩ ?_)
   refine Ex.seq ?_
   rcases aY h with ⟨hc_12,h⟩ | ⟨hc_12,h⟩
   ·refine Ex.condT _ rfl hc_12 ?_
    refine Ex.skip ?_
    refine Ex.seq ?_
    refine Ex.blockK ?_
    refine Ex.seq (rg 2 [0,1,5,6,8,9] (mkS 20 [(0,.sl (jobs_1.map aI) none),(1,.sl (plan_2.map aA) none),(5,i6 days_7),(6,i6 y_8),(8,i6 ((jobs_1.length : Nat) : Int)),(9,i6 y_8)]) ⟨[],[]⟩ ?_)
    obtain ⟨r_13,hr_13,h⟩:=bE h
    refine Ex.reg (rn 4 [0,1,8,9,12,13,14,15] (mkS 20 [(0,.sl (jobs_1.map aI) none),(1,.sl (plan_2.map aA) none),(8,i6 ((jobs_1.length : Nat) : Int)),(9,i6 y_8),(12,i6 days_7),(13,.sl (jobs_1.map aI) none),(14,.sl (plan_2.map aA) none),(15,i6 y_8)]) ⟨[],[]⟩ ?_)
    refine ExO.callL [] [.sl (jobs_1.map aI) none,.sl (plan_2.map aA) none,i6 y_8] rfl rfl (aDz jobs_1 plan_2 y_8) rfl rfl (mX N jobs_1 plan_2 y_8 r_13 hr_13) (nC _ _ _ _) rfl ?_
    refine rn 2 [0,1,5,8,9] (mkS 20 [(0,.sl (jobs_1.map aI) none),(1,.sl (plan_2.map aA) none),(5,i6 (if r_13 > days_7 then r_13 else days_7)),(8,i6 ((jobs_1.length : Nat) : Int)),(9,i6 y_8)]) ⟨[],[]⟩ ?_
    refine ExO.nil ?_
    refine rg 2 [0,1,5,8,9] (mkS 20 [(0,.sl (jobs_1.map aI) none),(1,.sl (plan_2.map aA) none),(5,i6 (if r_13 > days_7 then r_13 else days_7)),(8,i6 ((jobs_1.length : Nat) : Int)),(9,i6 (IntKind.i64.wrap (y_8 + 1)))]) ⟨[],[]⟩ ?_
    dsimp only
    exact ⟨_,_,aM.refl _ _ _,k,Nat.lt_succ_self k,(if r_13 > days_7 then r_13 else days_7),(IntKind.i64.wrap (y_8 + 1)),h,rfl,rfl⟩
   ·refine Ex.condF _ rfl hc_12 ?_
    refine Ex.exit ?_
    (try simp only [reduceCtorEq,AEx.ex.injEq,Nat.reduceEqDiff,if_true,if_false])
    exact ⟨_,_,bQ [5],days_7,h,rfl,rfl⟩
 ·rintro a S ⟨days_3,h,rfl,rfl⟩
  subst hK_6
  refine Ex.seq (rg 2 [4] (mkS 20 [(4,i6 days_3)]) ⟨[],[]⟩ ?_)
  refine Ex.ret ?_
  obtain rfl:=sJ h
  exact rt (i6 days_3)
def kA (N : Nat) (s_1 : aH) (plan_2 : (List aG)) : Option (Int × Int):=((eN N s_1).bind fun r_3 => (bif (r_3 != 0) then some (0,r_3) else ((gD N s_1 plan_2).bind fun r_5 => (bif (r_5 != 0) then some (0,r_5) else ((jX N s_1.Jobs plan_2).bind fun r_7 => some (r_7,0))))))
def mD (r : Int × Int) : AV:=.tup [i6 r.1,i6 r.2]
attribute [local simp] mD
theorem aBz (s_1 : aH) (plan_2 : (List aG)) : [(aC s_1),.sl (plan_2.map aA) none].mapM (ren []) = some [(aC s_1),.sl (plan_2.map aA) none]:=by simp
theorem aBq (r : Int × Int) (n n2 m : Nat) : back n n2 m (mD r) = some (mD r):=by simp
theorem aBc (N : Nat) (s_1 : aH) (plan_2 : (List aG)) (r : Int × Int) (h : kA N s_1 plan_2 = some r) : Does Tryz.prog 10 [(aC s_1),.sl (plan_2.map aA) none] [] fun v c => v = mD r ∧ c = []:=by
 unfold kA at h
 refine Does.ofL comp10 _ _ rfl rfl ?_
 refine Ex.seq (rg 3 [1,2] (mkS 23 [(1,.sl (plan_2.map aA) none),(2,.ptr 0 0)]) ⟨[(aB s_1)],[]⟩ ?_)
 refine Ex.seq (Ex.seq ?_)
 obtain ⟨r_3,hr_3,h⟩:=bE h
 refine Ex.reg (rn 1 [1,2,8] (mkS 23 [(1,.sl (plan_2.map aA) none),(2,.ptr 0 0),(8,(aC s_1))]) ⟨[(aB s_1)],[]⟩ ?_)
 refine ExO.callL [] [(aC s_1)] rfl rfl (vB s_1) rfl rfl (eR N s_1 r_3 hr_3) (eS _ _ _ _) rfl ?_
 refine rn 1 [1,2,6] (mkS 23 [(1,.sl (plan_2.map aA) none),(2,.ptr 0 0),(6,i6 r_3)]) ⟨[(aB s_1)],[]⟩ ?_
 refine ExO.nil ?_
 refine Ex.seq (rg 2 [1,2,6,11] (mkS 23 [(1,.sl (plan_2.map aA) none),(2,.ptr 0 0),(6,i6 r_3),(11,.bool (r_3 != 0))]) ⟨[(aB s_1)],[]⟩ ?_)
 rcases aY h with ⟨hc_4,h⟩ | ⟨hc_4,h⟩
 ·refine Ex.condT _ rfl hc_4 ?_
  refine Ex.seq (rg 3 [4,5] (mkS 23 [(4,i6 0),(5,i6 r_3)]) ⟨[(aB s_1)],[]⟩ ?_)
  refine Ex.ret ?_
  obtain rfl:=sJ h
  exact rt (.tup [i6 0,i6 r_3])
 ·refine Ex.condF _ rfl hc_4 ?_
  refine Ex.skip ?_
  refine Ex.seq (Ex.seq ?_)
  obtain ⟨r_5,hr_5,h⟩:=bE h
  refine Ex.reg (rn 2 [1,2,13,14] (mkS 23 [(1,.sl (plan_2.map aA) none),(2,.ptr 0 0),(13,(aC s_1)),(14,.sl (plan_2.map aA) none)]) ⟨[(aB s_1)],[]⟩ ?_)
  refine ExO.callL [] [(aC s_1),.sl (plan_2.map aA) none] rfl rfl (wH s_1 plan_2) rfl rfl (vV N s_1 plan_2 r_5 hr_5) (wB _ _ _ _) rfl ?_
  refine rn 1 [1,2,7] (mkS 23 [(1,.sl (plan_2.map aA) none),(2,.ptr 0 0),(7,i6 r_5)]) ⟨[(aB s_1)],[]⟩ ?_
  refine ExO.nil ?_
  refine Ex.seq (rg 2 [1,2,7,17] (mkS 23 [(1,.sl (plan_2.map aA) none),(2,.ptr 0 0),(7,i6 r_5),(17,.bool (r_5 != 0))]) ⟨[(aB s_1)],[]⟩ ?_)
  rcases aY h with ⟨hc_6,h⟩ | ⟨hc_6,h⟩
  ·refine Ex.condT _ rfl hc_6 ?_
   refine Ex.seq (rg 3 [4,5] (mkS 23 [(4,i6 0),(5,i6 r_5)]) ⟨[(aB s_1)],[]⟩ ?_)
   refine Ex.ret ?_
   obtain rfl:=sJ h
   exact rt (.tup [i6 0,i6 r_5])
  ·refine Ex.condF _ rfl hc_6 ?_
   refine Ex.skip ?_
   refine Ex.seq ?_
   obtain ⟨r_7,hr_7,h⟩:=bE h
   refine Ex.reg (rn 3 [20,21] (mkS 23 [(20,.sl (s_1.Jobs.map aI) none),(21,.sl (plan_2.map aA) none)]) ⟨[(aB s_1)],[]⟩ ?_)
   refine ExO.callL [] [.sl (s_1.Jobs.map aI) none,.sl (plan_2.map aA) none] rfl rfl (aBx s_1.Jobs plan_2) rfl rfl (aBa N s_1.Jobs plan_2 r_7 hr_7) (aBo _ _ _ _) rfl ?_
   refine rn 2 [4,5] (mkS 23 [(4,i6 r_7),(5,i6 0)]) ⟨[(aB s_1)],[]⟩ ?_
   refine ExO.nil ?_
   refine Ex.ret ?_
   obtain rfl:=sJ h
   exact rt (.tup [i6 r_7,i6 0])
def cA (N : Nat) (s_1 : aH) (some_2 : Int) : Option ((List Int)):=(letJ (fun (able_3 : List Int) => some able_3) (fun k_4 => (loop2 (fun rec_9 (able_7 : List Int) (y_8 : Int) => (bif (decide (y_8 < ((s_1.Workers.length : Nat) : Int))) then (letJ (fun (able_13 : List Int) => (rec_9 able_13 (IntKind.i64.wrap (y_8 + 1)))) (fun k_14 => ((getI s_1.Workers y_8).bind fun x_17 => ((gV N x_17 some_2).bind fun r_18 => (bif r_18 then ((iO able_7 ([y_8] : List Int)).bind fun l_20 => (k_14 l_20)) else (k_14 able_7)))))) else (k_4 able_7))) N [] 0)))
def dG (r : (List Int)) : AV:=.sl (r.map (AV.int .i64)) none
attribute [local simp] dG
theorem nF (s_1 : aH) (some_2 : Int) : [(aC s_1),.int .u8 some_2].mapM (ren []) = some [(aC s_1),.int .u8 some_2]:=by simp
theorem jO (r : (List Int)) (n n2 m : Nat) : back n n2 m (dG r) = some (dG r):=by simp
theorem jL (N : Nat) (s_1 : aH) (some_2 : Int) (r : (List Int)) (h : cA N s_1 some_2 = some r) : Does Tryz.prog 53 [(aC s_1),.int .u8 some_2] [] fun v c => v = dG r ∧ c = []:=by
 unfold cA at h
 refine Does.ofL comp53 _ _ rfl rfl ?_
 refine Ex.seq (rg 2 [1,2] (mkS 25 [(1,.int .u8 some_2),(2,.ptr 0 0)]) ⟨[(aB s_1)],[]⟩ ?_)
 refine Ex.seq (rg 1 [1,2,5] (mkS 25 [(1,.int .u8 some_2),(2,.ptr 0 0),(5,.nils)]) ⟨[(aB s_1)],[]⟩ ?_)
 refine Ex.seq (Ex.seq ?_)
 refine regH 4 [(2,.eq (i6 ((s_1.Workers.length : Nat) : Int)))] [1,5,9,10,11] [AV.int .i64 (((s_1.Workers.map aE).length : Nat) : Int) = AV.int .i64 ((s_1.Workers.length : Nat) : Int)] (mkS 25 [(1,.int .u8 some_2),(5,.nils),(9,.sl (s_1.Workers.map aE) none),(10,i6 ((s_1.Workers.length : Nat) : Int)),(11,i6 0)]) (⟨[(aB s_1)],[]⟩) (by kernel_rfl) ⟨lenM _ _,trivial⟩ rfl ?_
 obtain ⟨K_5,hK_6,h⟩:=letE h
 refine Ex.blockJ (fun a S => ∃ (able_3 : List Int),K_5 able_3 = some r ∧ a = mkS 25 [(5,.sl (able_3.map (AV.int .i64)) (some 0))] ∧ S = ⟨[],[(able_3.length,1)]⟩) ?_ ?_
 ·refine Ex.forget (nilK 5 1 rfl) ?_
  refine Ex.castA (a2:=mkS 25 [(1,.int .u8 some_2),(5,.sl (([] : List Int).map (AV.int .i64)) (some 0)),(9,.sl (s_1.Workers.map aE) none),(10,i6 ((s_1.Workers.length : Nat) : Int)),(11,i6 0)]) (S2:=⟨[(aB s_1)],[(0,1)]⟩) (by kernel_rfl) (by kernel_rfl) ?_
  obtain ⟨B_10,hB_11,h⟩:=gP h
  refine Ex.loopF (fun k a S => ∃ (able_7 : List Int),∃ (y_8 : Int),loop2 B_10 k able_7 y_8 = some r ∧ a = mkS 25 [(1,.int .u8 some_2),(5,.sl (able_7.map (AV.int .i64)) (some 0)),(9,.sl (s_1.Workers.map aE) none),(10,i6 ((s_1.Workers.length : Nat) : Int)),(11,i6 y_8)] ∧ S = ⟨[],[(able_7.length,1)]⟩) N ⟨_,_,bM (m:=25) 0 [0] [(1,.int .u8 some_2),(5,.sl (([] : List Int).map (AV.int .i64)) (some 0)),(9,.sl (s_1.Workers.map aE) none),(10,i6 ((s_1.Workers.length : Nat) : Int)),(11,i6 0)] [] [(0,1)] (by simp [bD]) (by simp) ⟨rfl,(reT (fX _ _) rfl),(reN (dC _)),rfl,rfl,trivial⟩ (by simp) rfl (by decide),[],0,h,rfl,rfl⟩ ?_
  rintro k a S ⟨able_7,y_8,h,rfl,rfl⟩
  cases k with
  | zero => exact (gN h).elim
  | succ k =>
   replace h:=gO h hB_11
   refine Ex.seq (rg 1 [1,5,9,10,11,12] (mkS 25 [(1,.int .u8 some_2),(5,.sl (able_7.map (AV.int .i64)) (some 0)),(9,.sl (s_1.Workers.map aE) none),(10,i6 ((s_1.Workers.length : Nat) : Int)),(11,i6 y_8),(12,.bool (decide (y_8 < ((s_1.Workers.length : Nat) : Int))))]) ⟨[],[(able_7.length,1)]⟩ ?_)
   refine Ex.seq ?_
   rcases aY h with ⟨hc_12,h⟩ | ⟨hc_12,h⟩
   ·refine Ex.condT _ rfl hc_12 ?_
    refine Ex.skip ?_
    refine Ex.seq ?_
    obtain ⟨K_15,hK_16,h⟩:=letE h
    refine Ex.blockJ (fun a S => ∃ (able_13 : List Int),K_15 able_13 = some r ∧ a = mkS 25 [(1,.int .u8 some_2),(5,.sl (able_13.map (AV.int .i64)) (some 0)),(9,.sl (s_1.Workers.map aE) none),(10,i6 ((s_1.Workers.length : Nat) : Int)),(11,i6 y_8)] ∧ S = ⟨[],[(able_13.length,1)]⟩) ?_ ?_
    ·refine Ex.seq ?_
     obtain ⟨x_17,hx_17,h⟩:=bE h
     refine regH 6 [(1,.rop (aU x_17))] [1,5,6,7,9,10,11] [LGet (s_1.Workers.map aE) y_8 3 (aU x_17)] (mkS 25 [(1,.int .u8 some_2),(5,.sl (able_7.map (AV.int .i64)) (some 0)),(6,i6 y_8),(7,.ptr 0 0),(9,.sl (s_1.Workers.map aE) none),(10,i6 ((s_1.Workers.length : Nat) : Int)),(11,i6 y_8)]) (⟨[(aU x_17)],[(able_7.length,1)]⟩) (by kernel_rfl) ⟨LGet.of hx_17 rfl,trivial⟩ rfl ?_
     refine Ex.seq ?_
     obtain ⟨r_18,hr_18,h⟩:=bE h
     refine Ex.reg (rn 2 [1,5,6,9,10,11,16,17] (mkS 25 [(1,.int .u8 some_2),(5,.sl (able_7.map (AV.int .i64)) (some 0)),(6,i6 y_8),(9,.sl (s_1.Workers.map aE) none),(10,i6 ((s_1.Workers.length : Nat) : Int)),(11,i6 y_8),(16,(aE x_17)),(17,.int .u8 some_2)]) ⟨[(aU x_17)],[(able_7.length,1)]⟩ ?_)
     refine ExO.callL [] [(aE x_17),.int .u8 some_2] rfl rfl (tB x_17 some_2) rfl rfl (sU N x_17 some_2 r_18 hr_18) (sY _ _ _ _) rfl ?_
     refine rn 0 [1,5,6,9,10,11,18] (mkS 25 [(1,.int .u8 some_2),(5,.sl (able_7.map (AV.int .i64)) (some 0)),(6,i6 y_8),(9,.sl (s_1.Workers.map aE) none),(10,i6 ((s_1.Workers.length : Nat) : Int)),(11,i6 y_8),(18,.bool r_18)]) ⟨[(aU x_17)],[(able_7.length,1)]⟩ ?_
     refine ExO.nil ?_
     rcases aY h with ⟨hc_19,h⟩ | ⟨hc_19,h⟩
     ·refine Ex.condT _ rfl hc_19 ?_
      obtain ⟨l_20,hl_20,h⟩:=bE h
      refine regH 5 [(3,.app (l_20.map (AV.int .i64)) l_20.length)] [1,5,9,10,11] [LApp able_7.length (able_7.map (AV.int .i64)) (([y_8] : List Int).map (AV.int .i64)) 1 (l_20.map (AV.int .i64)) l_20.length] (mkS 25 [(1,.int .u8 some_2),(5,.sl (l_20.map (AV.int .i64)) (some 0)),(9,.sl (s_1.Workers.map aE) none),(10,i6 ((s_1.Workers.length : Nat) : Int)),(11,i6 y_8)]) (⟨[(aU x_17)],[(l_20.length,1),(1,1)]⟩) (by kernel_rfl) ⟨LApp.of hl_20 (fun _ => rfl),trivial⟩ rfl ?_
      (try simp only [reduceCtorEq,AEx.ex.injEq,Nat.reduceEqDiff,if_true,if_false])
      exact ⟨_,_,bM (m:=25) 0 [0] [(1,.int .u8 some_2),(5,.sl (l_20.map (AV.int .i64)) (some 0)),(9,.sl (s_1.Workers.map aE) none),(10,i6 ((s_1.Workers.length : Nat) : Int)),(11,i6 y_8)] [] [(l_20.length,1)] (by simp [bD]) (by simp) ⟨rfl,(reT (fX _ _) rfl),(reN (dC _)),rfl,rfl,trivial⟩ (by simp) rfl (by decide),l_20,h,rfl,rfl⟩
     ·refine Ex.condF _ rfl hc_19 ?_
      refine Ex.skip ?_
      (try simp only [reduceCtorEq,AEx.ex.injEq,Nat.reduceEqDiff,if_true,if_false])
      exact ⟨_,_,bM (m:=25) 0 [0] [(1,.int .u8 some_2),(5,.sl (able_7.map (AV.int .i64)) (some 0)),(9,.sl (s_1.Workers.map aE) none),(10,i6 ((s_1.Workers.length : Nat) : Int)),(11,i6 y_8)] [] [(able_7.length,1)] (by simp [bD]) (by simp) ⟨rfl,(reT (fX _ _) rfl),(reN (dC _)),rfl,rfl,trivial⟩ (by simp) rfl (by decide),able_7,h,rfl,rfl⟩
    ·rintro a S ⟨able_13,h,rfl,rfl⟩
     subst hK_16
     refine rg 2 [1,5,9,10,11] (mkS 25 [(1,.int .u8 some_2),(5,.sl (able_13.map (AV.int .i64)) (some 0)),(9,.sl (s_1.Workers.map aE) none),(10,i6 ((s_1.Workers.length : Nat) : Int)),(11,i6 (IntKind.i64.wrap (y_8 + 1)))]) ⟨[],[(able_13.length,1)]⟩ ?_
     dsimp only
     exact ⟨_,_,aM.refl _ _ _,k,Nat.lt_succ_self k,able_13,(IntKind.i64.wrap (y_8 + 1)),h,rfl,rfl⟩
   ·refine Ex.condF _ rfl hc_12 ?_
    refine Ex.exit ?_
    (try simp only [reduceCtorEq,AEx.ex.injEq,Nat.reduceEqDiff,if_true,if_false])
    exact ⟨_,_,bQ [5],able_7,h,rfl,rfl⟩
 ·rintro a S ⟨able_3,h,rfl,rfl⟩
  subst hK_6
  refine Ex.seq (rg 2 [4] (mkS 25 [(4,.sl (able_3.map (AV.int .i64)) (some 0))]) ⟨[],[(able_3.length,1)]⟩ ?_)
  refine Ex.ret ?_
  obtain rfl:=sJ h
  exact rt (.sl (able_3.map (AV.int .i64)) (some 0))
def cX (N : Nat) (s_1 : aH) : Option (Int):=((eN N s_1).bind fun r_2 => (bif (r_2 != 0) then some r_2 else (letJ (fun (_ : Unit) => some 0) (fun k_4 => (loop1 (fun rec_8 (y_7 : Int) => (bif (decide (y_7 < ((s_1.Jobs.length : Nat) : Int))) then ((getI s_1.Jobs y_7).bind fun x_12 => ((idxI x_12.Skill 4).bind fun u_13 => ((([0,1,2,4] : List Int)[Int.toNat x_12.Skill]?).bind fun x_14 => ((cA N s_1 x_14).bind fun r_15 => (bif (((r_15.length : Nat) : Int) == 0) then some 7 else (rec_8 (IntKind.i64.wrap (y_7 + 1)))))))) else (k_4 ()))) N 0)))))
def gI (r : Int) : AV:=i6 r
attribute [local simp] gI
theorem nG (s_1 : aH) : [(aC s_1)].mapM (ren []) = some [(aC s_1)]:=by simp
theorem nD (r : Int) (n n2 m : Nat) : back n n2 m (gI r) = some (gI r):=by simp
theorem mY (N : Nat) (s_1 : aH) (r : Int) (h : cX N s_1 = some r) : Does Tryz.prog 35 [(aC s_1)] [] fun v c => v = gI r ∧ c = []:=by
 unfold cX at h
 refine Does.ofL comp35 _ _ rfl rfl ?_
 refine Ex.seq (rg 2 [1] (mkS 27 [(1,.ptr 0 0)]) ⟨[(aB s_1)],[]⟩ ?_)
 refine Ex.seq (Ex.seq ?_)
 obtain ⟨r_2,hr_2,h⟩:=bE h
 refine Ex.reg (rn 1 [1,6] (mkS 27 [(1,.ptr 0 0),(6,(aC s_1))]) ⟨[(aB s_1)],[]⟩ ?_)
 refine ExO.callL [] [(aC s_1)] rfl rfl (vB s_1) rfl rfl (eR N s_1 r_2 hr_2) (eS _ _ _ _) rfl ?_
 refine rn 1 [1,3] (mkS 27 [(1,.ptr 0 0),(3,i6 r_2)]) ⟨[(aB s_1)],[]⟩ ?_
 refine ExO.nil ?_
 refine Ex.seq (rg 2 [1,3,9] (mkS 27 [(1,.ptr 0 0),(3,i6 r_2),(9,.bool (r_2 != 0))]) ⟨[(aB s_1)],[]⟩ ?_)
 rcases aY h with ⟨hc_3,h⟩ | ⟨hc_3,h⟩
 ·refine Ex.condT _ rfl hc_3 ?_
  refine Ex.seq (rg 2 [2] (mkS 27 [(2,i6 r_2)]) ⟨[(aB s_1)],[]⟩ ?_)
  refine Ex.ret ?_
  obtain rfl:=sJ h
  exact rt (i6 r_2)
 ·refine Ex.condF _ rfl hc_3 ?_
  refine Ex.skip ?_
  refine Ex.seq (Ex.seq ?_)
  refine regH 4 [(2,.eq (i6 ((s_1.Jobs.length : Nat) : Int)))] [1,12,13,14] [AV.int .i64 (((s_1.Jobs.map aI).length : Nat) : Int) = AV.int .i64 ((s_1.Jobs.length : Nat) : Int)] (mkS 27 [(1,.ptr 0 0),(12,.sl (s_1.Jobs.map aI) none),(13,i6 ((s_1.Jobs.length : Nat) : Int)),(14,i6 0)]) (⟨[(aB s_1)],[]⟩) (by kernel_rfl) ⟨lenM _ _,trivial⟩ rfl ?_
  obtain ⟨K_5,hK_6,h⟩:=letE h
  refine Ex.blockJ (fun a S => K_5 () = some r ∧ a = mkS 27 [] ∧ S = ⟨[],[]⟩) ?_ ?_
  ·obtain ⟨B_9,hB_10,h⟩:=iU h
   refine Ex.loopF (fun k a S => ∃ (y_7 : Int),loop1 B_9 k y_7 = some r ∧ a = mkS 27 [(1,.ptr 0 0),(12,.sl (s_1.Jobs.map aI) none),(13,i6 ((s_1.Jobs.length : Nat) : Int)),(14,i6 y_7)] ∧ S = ⟨[(aB s_1)],[]⟩) N ⟨_,_,aM.refl _ _ _,0,h,rfl,rfl⟩ ?_
   rintro k a S ⟨y_7,h,rfl,rfl⟩
   cases k with
   | zero => exact (iS h).elim
   | succ k =>
    replace h:=iT h hB_10
    refine Ex.seq (rg 1 [1,12,13,14,15] (mkS 27 [(1,.ptr 0 0),(12,.sl (s_1.Jobs.map aI) none),(13,i6 ((s_1.Jobs.length : Nat) : Int)),(14,i6 y_7),(15,.bool (decide (y_7 < ((s_1.Jobs.length : Nat) : Int))))]) ⟨[(aB s_1)],[]⟩ ?_)
    refine Ex.seq ?_
    rcases aY h with ⟨hc_11,h⟩ | ⟨hc_11,h⟩
    ·refine Ex.condT _ rfl hc_11 ?_
     refine Ex.skip ?_
     refine Ex.seq ?_
     refine Ex.blockK ?_
     refine Ex.seq ?_
     obtain ⟨x_12,hx_12,h⟩:=bE h
     refine regH 4 [(0,.rop (aW x_12))] [1,5,12,13,14] [LGet (s_1.Jobs.map aI) y_7 3 (aW x_12)] (mkS 27 [(1,.ptr 0 0),(5,.ptr 1 0),(12,.sl (s_1.Jobs.map aI) none),(13,i6 ((s_1.Jobs.length : Nat) : Int)),(14,i6 y_7)]) (⟨[(aB s_1),(aW x_12)],[]⟩) (by kernel_rfl) ⟨LGet.of hx_12 rfl,trivial⟩ rfl ?_
     refine Ex.seq ?_
     obtain ⟨u_13,hu_13,h⟩:=bE h
     obtain ⟨x_14,hx_14,h⟩:=bE h
     refine Ex.drawE (a1:=mkS 27 [(1,.ptr 0 0),(5,.ptr 1 0),(12,.sl (s_1.Jobs.map aI) none),(13,i6 ((s_1.Jobs.length : Nat) : Int)),(14,i6 y_7),(18,(aC s_1)),(19,.ptr 1 1),(20,i6 x_12.Skill),(21,.rop (((([0,1,2,4] : List Int).map (AV.int .u8)).drop (Int.toNat x_12.Skill * 1)).take 1)),(22,.int .u8 x_14)]) (cP _) [] [] [] ?_ ?_
     ·refine drS [0, 1] 5 [(3, .adr), (4, .ld (.int .u8 x_14))] [0 ≤ x_12.Skill ∧ x_12.Skill < ((4 : Nat) : Int) ∧ Int.toNat x_12.Skill * 1 ≤ (([0, 1, 2, 4] : List Int).map (AV.int .u8)).length, bN (((([0, 1, 2, 4] : List Int).map (AV.int .u8)).drop (Int.toNat x_12.Skill * 1)).take 1) 0 none = some (.int .u8 x_14)] (mkS 27 [(1, .ptr 0 0), (5, .ptr 1 0), (12, .sl (s_1.Jobs.map aI) none), (13, i6 ((s_1.Jobs.length : Nat) : Int)), (14, i6 y_7), (18, (aC s_1)), (19, .ptr 1 1), (20, i6 x_12.Skill), (21, .rop (((([0, 1, 2, 4] : List Int).map (AV.int .u8)).drop (Int.toNat x_12.Skill * 1)).take 1)), (22, .int .u8 x_14)]) (by simp) (by kernel_rfl) ⟨adrT ([0, 1, 2, 4] : List Int) .u8 hu_13 (by decide), yG ([0, 1, 2, 4] : List Int) .u8 hx_14, trivial⟩ (by kernel_rfl) ?_
      exact DrO.nil rfl
     ·dsimp only [List.getLastD_cons,List.getLastD_nil]
      obtain ⟨r_15,hr_15,h⟩:=bE h
      refine ExO.callL [] [(aC s_1),.int .u8 x_14] rfl rfl (nF s_1 x_14) rfl rfl (jL N s_1 x_14 r_15 hr_15) (jO _ _ _ _) rfl ?_
      refine runH 2 [(0,.eq (i6 ((r_15.length : Nat) : Int)))] [1,12,13,14,25] [AV.int .i64 (((r_15.map (AV.int .i64)).length : Nat) : Int) = AV.int .i64 ((r_15.length : Nat) : Int)] (mkS 27 [(1,.ptr 0 0),(12,.sl (s_1.Jobs.map aI) none),(13,i6 ((s_1.Jobs.length : Nat) : Int)),(14,i6 y_7),(25,.bool (((r_15.length : Nat) : Int) == 0))]) (⟨[(aB s_1),(aW x_12)],[]⟩) (by kernel_rfl) ⟨lenM _ _,trivial⟩ ?_
      refine ExO.nil ?_
      rcases aY h with ⟨hc_16,h⟩ | ⟨hc_16,h⟩
      ·refine Ex.condT _ rfl hc_16 ?_
       refine Ex.seq (rg 1 [2] (mkS 27 [(2,i6 7)]) ⟨[(aB s_1),(aW x_12)],[]⟩ ?_)
       refine Ex.ret ?_
       obtain rfl:=sJ h
       exact rt (i6 7)
      ·refine Ex.condF _ rfl hc_16 ?_
       refine Ex.skip ?_
       refine rg 2 [1,12,13,14] (mkS 27 [(1,.ptr 0 0),(12,.sl (s_1.Jobs.map aI) none),(13,i6 ((s_1.Jobs.length : Nat) : Int)),(14,i6 (IntKind.i64.wrap (y_7 + 1)))]) ⟨[(aB s_1),(aW x_12)],[]⟩ ?_
       dsimp only
       exact ⟨_,_,bM (m:=27) 1 [] [(1,.ptr 0 0),(12,.sl (s_1.Jobs.map aI) none),(13,i6 ((s_1.Jobs.length : Nat) : Int)),(14,i6 (IntKind.i64.wrap (y_7 + 1)))] [(aB s_1)] [] (by simp [bD]) (by simp) ⟨rfl,(reN (fE _)),rfl,rfl,trivial⟩ (by simp) rfl (by decide),k,Nat.lt_succ_self k,(IntKind.i64.wrap (y_7 + 1)),h,rfl,rfl⟩
    ·refine Ex.condF _ rfl hc_11 ?_
     refine Ex.exit ?_
     (try simp only [reduceCtorEq,AEx.ex.injEq,Nat.reduceEqDiff,if_true,if_false])
     exact ⟨_,_,bM (m:=27) 0 [] [] [] [] (by simp [bD]) (by simp) trivial (by simp) rfl (by decide),h,rfl,rfl⟩
  ·rintro a S ⟨h,rfl,rfl⟩
   subst hK_6
   refine Ex.seq (rg 1 [2] (mkS 27 [(2,i6 0)]) ⟨[],[]⟩ ?_)
   refine Ex.ret ?_
   obtain rfl:=sJ h
   exact rt (i6 0)
def fG (N : Nat) (j_1 : bH) (a_2 : Int) : Option (Bool):=some (j_1.Float == a_2)
def fF (r : Bool) : AV:=.bool r
attribute [local simp] fF
theorem qI (r : Bool) (n n2 m : Nat) : back n n2 m (fF r) = some (fF r):=by simp
theorem qH (N : Nat) (j_1 : bH) (a_2 : Int) (r : Bool) (h : fG N j_1 a_2 = some r) : Does Tryz.prog 55 [(aI j_1),.ptr 0 0] [[i6 a_2]] fun v c => v = fF r ∧ c = [[i6 a_2]]:=by
 unfold fG at h
 refine Does.ofL comp55 _ _ rfl rfl ?_
 refine Ex.seq (rg 2 [1,2] (mkS 8 [(1,.ptr 0 0),(2,.ptr 1 0)]) ⟨[[i6 a_2],(aW j_1)],[]⟩ ?_)
 refine Ex.seq (rg 5 [3] (mkS 8 [(3,.bool (j_1.Float == a_2))]) ⟨[[i6 a_2],(aW j_1)],[]⟩ ?_)
 refine Ex.ret ?_
 obtain rfl:=sJ h
 exact rt (.bool (j_1.Float == a_2))
def bW (N : Nat) (jobs_1 : (List bH)) (a_2 : Int) : Option (Int):=(letJ (fun (sum_3 : Int) => some sum_3) (fun k_4 => (loop2 (fun rec_9 (sum_7 : Int) (y_8 : Int) => (bif (decide (y_8 < ((jobs_1.length : Nat) : Int))) then (letJ (fun (sum_13 : Int) => (rec_9 sum_13 (IntKind.i64.wrap (y_8 + 1)))) (fun k_14 => ((getI jobs_1 y_8).bind fun x_17 => ((fG N x_17 a_2).bind fun r_18 => (bif r_18 then (k_14 (IntKind.i64.wrap (sum_7 + x_17.Days))) else (k_14 sum_7)))))) else (k_4 sum_7))) N 0 0)))
def cM (r : Int) : AV:=i6 r
attribute [local simp] cM
theorem jU (r : Int) (n n2 m : Nat) : back n n2 m (cM r) = some (cM r):=by simp
theorem jT (N : Nat) (jobs_1 : (List bH)) (a_2 : Int) (r : Int) (h : bW N jobs_1 a_2 = some r) : Does Tryz.prog 54 [.sl (jobs_1.map aI) none,.fn 55 [] [.ptr 0 0]] [[i6 a_2]] fun v c => v = cM r ∧ c = [[i6 a_2]]:=by
 unfold bW at h
 refine Does.ofL comp54 _ _ rfl rfl ?_
 refine Ex.seq (rg 1 [0,1] (mkS 23 [(0,.sl (jobs_1.map aI) none),(1,.fn 55 [] [.ptr 0 0])]) ⟨[[i6 a_2]],[]⟩ ?_)
 refine Ex.seq (rg 1 [0,1,5] (mkS 23 [(0,.sl (jobs_1.map aI) none),(1,.fn 55 [] [.ptr 0 0]),(5,i6 0)]) ⟨[[i6 a_2]],[]⟩ ?_)
 refine Ex.seq (Ex.seq ?_)
 refine regH 3 [(1,.eq (i6 ((jobs_1.length : Nat) : Int)))] [1,5,8,9,10] [AV.int .i64 (((jobs_1.map aI).length : Nat) : Int) = AV.int .i64 ((jobs_1.length : Nat) : Int)] (mkS 23 [(1,.fn 55 [] [.ptr 0 0]),(5,i6 0),(8,.sl (jobs_1.map aI) none),(9,i6 ((jobs_1.length : Nat) : Int)),(10,i6 0)]) (⟨[[i6 a_2]],[]⟩) (by kernel_rfl) ⟨lenM _ _,trivial⟩ rfl ?_
 obtain ⟨K_5,hK_6,h⟩:=letE h
 refine Ex.blockJ (fun a S => ∃ (sum_3 : Int),K_5 sum_3 = some r ∧ a = mkS 23 [(5,i6 sum_3)] ∧ S = ⟨[[i6 a_2]],[]⟩) ?_ ?_
 ·obtain ⟨B_10,hB_11,h⟩:=gP h
  refine Ex.loopF (fun k a S => ∃ (sum_7 : Int),∃ (y_8 : Int),loop2 B_10 k sum_7 y_8 = some r ∧ a = mkS 23 [(1,.fn 55 [] [.ptr 0 0]),(5,i6 sum_7),(8,.sl (jobs_1.map aI) none),(9,i6 ((jobs_1.length : Nat) : Int)),(10,i6 y_8)] ∧ S = ⟨[[i6 a_2]],[]⟩) N ⟨_,_,aM.refl _ _ _,0,0,h,rfl,rfl⟩ ?_
  rintro k a S ⟨sum_7,y_8,h,rfl,rfl⟩
  cases k with
  | zero => exact (gN h).elim
  | succ k =>
   replace h:=gO h hB_11
   refine Ex.seq (rg 1 [1,5,8,9,10,11] (mkS 23 [(1,.fn 55 [] [.ptr 0 0]),(5,i6 sum_7),(8,.sl (jobs_1.map aI) none),(9,i6 ((jobs_1.length : Nat) : Int)),(10,i6 y_8),(11,.bool (decide (y_8 < ((jobs_1.length : Nat) : Int))))]) ⟨[[i6 a_2]],[]⟩ ?_)
   refine Ex.seq ?_
   rcases aY h with ⟨hc_12,h⟩ | ⟨hc_12,h⟩
   ·refine Ex.condT _ rfl hc_12 ?_
    refine Ex.skip ?_
    refine Ex.seq ?_
    obtain ⟨K_15,hK_16,h⟩:=letE h
    refine Ex.blockJ (fun a S => ∃ (sum_13 : Int),K_15 sum_13 = some r ∧ a = mkS 23 [(1,.fn 55 [] [.ptr 0 0]),(5,i6 sum_13),(8,.sl (jobs_1.map aI) none),(9,i6 ((jobs_1.length : Nat) : Int)),(10,i6 y_8)] ∧ S = ⟨[[i6 a_2]],[]⟩) ?_ ?_
    ·refine Ex.seq ?_
     obtain ⟨x_17,hx_17,h⟩:=bE h
     refine regH 4 [(0,.rop (aW x_17))] [1,5,7,8,9,10] [LGet (jobs_1.map aI) y_8 3 (aW x_17)] (mkS 23 [(1,.fn 55 [] [.ptr 0 0]),(5,i6 sum_7),(7,.ptr 1 0),(8,.sl (jobs_1.map aI) none),(9,i6 ((jobs_1.length : Nat) : Int)),(10,i6 y_8)]) (⟨[[i6 a_2],(aW x_17)],[]⟩) (by kernel_rfl) ⟨LGet.of hx_17 rfl,trivial⟩ rfl ?_
     refine Ex.seq ?_
     obtain ⟨r_18,hr_18,h⟩:=bE h
     refine Ex.reg (rn 2 [1,5,7,8,9,10,14,15] (mkS 23 [(1,.fn 55 [] [.ptr 0 0]),(5,i6 sum_7),(7,.ptr 1 0),(8,.sl (jobs_1.map aI) none),(9,i6 ((jobs_1.length : Nat) : Int)),(10,i6 y_8),(14,.fn 55 [] [.ptr 0 0]),(15,(aI x_17))]) ⟨[[i6 a_2],(aW x_17)],[]⟩ ?_)
     refine ExO.callL [0] [(aI x_17),.ptr 0 0] rfl rfl (by simp; try rfl) rfl (by simp) (qH N x_17 a_2 r_18 hr_18) (qI _ _ _ _) (by simp) ?_
     refine rn 0 [1,5,7,8,9,10,16] (mkS 23 [(1,.fn 55 [] [.ptr 0 0]),(5,i6 sum_7),(7,.ptr 1 0),(8,.sl (jobs_1.map aI) none),(9,i6 ((jobs_1.length : Nat) : Int)),(10,i6 y_8),(16,.bool r_18)]) ⟨[[i6 a_2],(aW x_17)],[]⟩ ?_
     refine ExO.nil ?_
     rcases aY h with ⟨hc_19,h⟩ | ⟨hc_19,h⟩
     ·refine Ex.condT _ rfl hc_19 ?_
      refine rg 5 [1,5,8,9,10] (mkS 23 [(1,.fn 55 [] [.ptr 0 0]),(5,i6 (IntKind.i64.wrap (sum_7 + x_17.Days))),(8,.sl (jobs_1.map aI) none),(9,i6 ((jobs_1.length : Nat) : Int)),(10,i6 y_8)]) ⟨[[i6 a_2],(aW x_17)],[]⟩ ?_
      (try simp only [reduceCtorEq,AEx.ex.injEq,Nat.reduceEqDiff,if_true,if_false])
      exact ⟨_,_,bM (m:=23) 1 [] [(1,.fn 55 [] [.ptr 0 0]),(5,i6 (IntKind.i64.wrap (sum_7 + x_17.Days))),(8,.sl (jobs_1.map aI) none),(9,i6 ((jobs_1.length : Nat) : Int)),(10,i6 y_8)] [[i6 a_2]] [] (by simp [bD]) (by simp) ⟨(by show re 1 [] (.fn 55 [] [.ptr 0 0]) = some (.fn 55 [] [.ptr 0 0]); simp [re,re1,AV.clean,List.idxOf?,List.findIdx?,List.findIdx?.go,bB,fX,dS,gB,fR,dB,dC,fE,dN,cF,cJ,cT,aK,aE,aU,aI,aW,aC,aB,aA,aN,bO,bP]),rfl,(reN (fE _)),rfl,rfl,trivial⟩ (by simp) rfl (by decide),(IntKind.i64.wrap (sum_7 + x_17.Days)),h,rfl,rfl⟩
     ·refine Ex.condF _ rfl hc_19 ?_
      refine Ex.skip ?_
      (try simp only [reduceCtorEq,AEx.ex.injEq,Nat.reduceEqDiff,if_true,if_false])
      exact ⟨_,_,bM (m:=23) 1 [] [(1,.fn 55 [] [.ptr 0 0]),(5,i6 sum_7),(8,.sl (jobs_1.map aI) none),(9,i6 ((jobs_1.length : Nat) : Int)),(10,i6 y_8)] [[i6 a_2]] [] (by simp [bD]) (by simp) ⟨(by show re 1 [] (.fn 55 [] [.ptr 0 0]) = some (.fn 55 [] [.ptr 0 0]); simp [re,re1,AV.clean,List.idxOf?,List.findIdx?,List.findIdx?.go,bB,fX,dS,gB,fR,dB,dC,fE,dN,cF,cJ,cT,aK,aE,aU,aI,aW,aC,aB,aA,aN,bO,bP]),rfl,(reN (fE _)),rfl,rfl,trivial⟩ (by simp) rfl (by decide),sum_7,h,rfl,rfl⟩
    ·rintro a S ⟨sum_13,h,rfl,rfl⟩
     subst hK_16
     refine rg 2 [1,5,8,9,10] (mkS 23 [(1,.fn 55 [] [.ptr 0 0]),(5,i6 sum_13),(8,.sl (jobs_1.map aI) none),(9,i6 ((jobs_1.length : Nat) : Int)),(10,i6 (IntKind.i64.wrap (y_8 + 1)))]) ⟨[[i6 a_2]],[]⟩ ?_
     dsimp only
     exact ⟨_,_,aM.refl _ _ _,k,Nat.lt_succ_self k,sum_13,(IntKind.i64.wrap (y_8 + 1)),h,rfl,rfl⟩
   ·refine Ex.condF _ rfl hc_12 ?_
    refine Ex.exit ?_
    (try simp only [reduceCtorEq,AEx.ex.injEq,Nat.reduceEqDiff,if_true,if_false])
    exact ⟨_,_,bQ [5],sum_7,h,rfl,rfl⟩
 ·rintro a S ⟨sum_3,h,rfl,rfl⟩
  subst hK_6
  refine Ex.seq (rg 2 [4] (mkS 23 [(4,i6 sum_3)]) ⟨[[i6 a_2]],[]⟩ ?_)
  refine Ex.ret ?_
  obtain rfl:=sJ h
  exact rt (i6 sum_3)
def eK (N : Nat) (s_1 : aH) : Option (Int):=(letJ (fun (most_2 : Int) => some most_2) (fun k_3 => (loop2 (fun rec_8 (most_6 : Int) (y_7 : Int) => (bif (decide (y_7 < 7)) then ((bW N s_1.Jobs y_7).bind fun r_12 => (rec_8 (if r_12 > most_6 then r_12 else most_6) (IntKind.i64.wrap (y_7 + 1)))) else (k_3 most_6))) N 0 0)))
def dA (r : Int) : AV:=i6 r
attribute [local simp] dA
theorem sN (r : Int) (n n2 m : Nat) : back n n2 m (dA r) = some (dA r):=by simp
theorem sH (N : Nat) (s_1 : aH) (r : Int) (h : eK N s_1 = some r) : Does Tryz.prog 36 [(aC s_1)] [] fun v c => v = dA r ∧ c = []:=by
 unfold eK at h
 refine Does.ofL comp36 _ _ rfl rfl ?_
 refine Ex.seq (rg 2 [1] (mkS 16 [(1,.ptr 0 0)]) ⟨[(aB s_1)],[]⟩ ?_)
 refine Ex.seq (rg 1 [1,3] (mkS 16 [(1,.ptr 0 0),(3,i6 0)]) ⟨[(aB s_1)],[]⟩ ?_)
 refine Ex.seq (Ex.seq ?_)
 refine rg 1 [1,3,5] (mkS 16 [(1,.ptr 0 0),(3,i6 0),(5,i6 0)]) ⟨[(aB s_1)],[]⟩ ?_
 obtain ⟨K_4,hK_5,h⟩:=letE h
 refine Ex.blockJ (fun a S => ∃ (most_2 : Int),K_4 most_2 = some r ∧ a = mkS 16 [(3,i6 most_2)] ∧ S = ⟨[],[]⟩) ?_ ?_
 ·obtain ⟨B_9,hB_10,h⟩:=gP h
  refine Ex.loopF (fun k a S => ∃ (most_6 : Int),∃ (y_7 : Int),loop2 B_9 k most_6 y_7 = some r ∧ a = mkS 16 [(1,.ptr 0 0),(3,i6 most_6),(5,i6 y_7)] ∧ S = ⟨[(aB s_1)],[]⟩) N ⟨_,_,aM.refl _ _ _,0,0,h,rfl,rfl⟩ ?_
  rintro k a S ⟨most_6,y_7,h,rfl,rfl⟩
  cases k with
  | zero => exact (gN h).elim
  | succ k =>
   replace h:=gO h hB_10
   refine Ex.seq (rg 1 [1,3,5,6] (mkS 16 [(1,.ptr 0 0),(3,i6 most_6),(5,i6 y_7),(6,.bool (decide (y_7 < 7)))]) ⟨[(aB s_1)],[]⟩ ?_)
   refine Ex.seq ?_
   rcases aY h with ⟨hc_11,h⟩ | ⟨hc_11,h⟩
   ·refine Ex.condT _ rfl hc_11 ?_
    refine Ex.skip ?_
    refine Ex.seq ?_
    refine Ex.blockK ?_
    refine Ex.seq (rg 3 [1,3,4,5] (mkS 16 [(1,.ptr 0 0),(3,i6 most_6),(4,.ptr 1 0),(5,i6 y_7)]) ⟨[(aB s_1),[i6 y_7]],[]⟩ ?_)
    obtain ⟨r_12,hr_12,h⟩:=bE h
    refine Ex.reg (rn 4 [1,5,8,10,11] (mkS 16 [(1,.ptr 0 0),(5,i6 y_7),(8,i6 most_6),(10,.sl (s_1.Jobs.map aI) none),(11,.fn 55 [] [.ptr 1 0])]) ⟨[(aB s_1),[i6 y_7]],[]⟩ ?_)
    refine ExO.callL [1] [.sl (s_1.Jobs.map aI) none,.fn 55 [] [.ptr 1 0]] rfl rfl (by simp; try rfl) rfl (by simp) (jT N s_1.Jobs y_7 r_12 hr_12) (jU _ _ _ _) (by simp) ?_
    refine rn 2 [1,3,5] (mkS 16 [(1,.ptr 0 0),(3,i6 (if r_12 > most_6 then r_12 else most_6)),(5,i6 y_7)]) ⟨[(aB s_1),[i6 y_7]],[]⟩ ?_
    refine ExO.nil ?_
    refine rg 2 [1,3,5] (mkS 16 [(1,.ptr 0 0),(3,i6 (if r_12 > most_6 then r_12 else most_6)),(5,i6 (IntKind.i64.wrap (y_7 + 1)))]) ⟨[(aB s_1),[i6 y_7]],[]⟩ ?_
    dsimp only
    exact ⟨_,_,bM (m:=16) 1 [] [(1,.ptr 0 0),(3,i6 (if r_12 > most_6 then r_12 else most_6)),(5,i6 (IntKind.i64.wrap (y_7 + 1)))] [(aB s_1)] [] (by simp [bD]) (by simp) ⟨rfl,rfl,rfl,trivial⟩ (by simp) rfl (by decide),k,Nat.lt_succ_self k,(if r_12 > most_6 then r_12 else most_6),(IntKind.i64.wrap (y_7 + 1)),h,rfl,rfl⟩
   ·refine Ex.condF _ rfl hc_11 ?_
    refine Ex.exit ?_
    (try simp only [reduceCtorEq,AEx.ex.injEq,Nat.reduceEqDiff,if_true,if_false])
    exact ⟨_,_,bM (m:=16) 0 [] [(3,i6 most_6)] [] [] (by simp [bD]) (by simp) ⟨rfl,trivial⟩ (by simp) rfl (by decide),most_6,h,rfl,rfl⟩
 ·rintro a S ⟨most_2,h,rfl,rfl⟩
  subst hK_5
  refine Ex.seq (rg 2 [2] (mkS 16 [(2,i6 most_2)]) ⟨[],[]⟩ ?_)
  refine Ex.ret ?_
  obtain rfl:=sJ h
  exact rt (i6 most_2)
def dL (N : Nat) (j_1 : bH) (a_2 : Int) : Option (Bool):=((idxI j_1.Skill 4).bind fun u_3 => ((([0,1,2,4] : List Int)[Int.toNat j_1.Skill]?).bind fun x_4 => ((some (IntKind.u8.wrap (((BitVec.ofInt (IntKind.bits .u8) x_4 &&& BitVec.ofInt (IntKind.bits .u8) a_2).toNat : Nat) : Int))).bind fun n_5 => some (n_5 != 0))))
def eM (r : Bool) : AV:=.bool r
attribute [local simp] eM
theorem pW (r : Bool) (n n2 m : Nat) : back n n2 m (eM r) = some (eM r):=by simp
theorem pS (N : Nat) (j_1 : bH) (a_2 : Int) (r : Bool) (h : dL N j_1 a_2 = some r) : Does Tryz.prog 56 [(aI j_1),.ptr 0 0] [[.int .u8 a_2]] fun v c => v = eM r ∧ c = [[.int .u8 a_2]]:=by
 unfold dL at h
 refine Does.ofL comp56 _ _ rfl rfl ?_
 refine Ex.seq (rg 2 [1,2] (mkS 11 [(1,.ptr 0 0),(2,.ptr 1 0)]) ⟨[[.int .u8 a_2],(aW j_1)],[]⟩ ?_)
 refine Ex.seq ?_
 obtain ⟨u_3,hu_3,h⟩:=bE h
 obtain ⟨x_4,hx_4,h⟩:=bE h
 refine Ex.drawE (a1:=mkS 11 [(1,.ptr 0 0),(2,.ptr 1 0),(4,.ptr 1 1),(5,i6 j_1.Skill),(6,.rop (((([0,1,2,4] : List Int).map (AV.int .u8)).drop (Int.toNat j_1.Skill * 1)).take 1)),(7,.int .u8 x_4),(8,.int .u8 a_2)]) (cP _) [] [] [] ?_ ?_
 ·refine drS [0, 1] 5 [(2, .adr), (3, .ld (.int .u8 x_4))] [0 ≤ j_1.Skill ∧ j_1.Skill < ((4 : Nat) : Int) ∧ Int.toNat j_1.Skill * 1 ≤ (([0, 1, 2, 4] : List Int).map (AV.int .u8)).length, bN (((([0, 1, 2, 4] : List Int).map (AV.int .u8)).drop (Int.toNat j_1.Skill * 1)).take 1) 0 none = some (.int .u8 x_4)] (mkS 11 [(1, .ptr 0 0), (2, .ptr 1 0), (4, .ptr 1 1), (5, i6 j_1.Skill), (6, .rop (((([0, 1, 2, 4] : List Int).map (AV.int .u8)).drop (Int.toNat j_1.Skill * 1)).take 1)), (7, .int .u8 x_4), (8, .int .u8 a_2)]) (by simp) (by kernel_rfl) ⟨adrT ([0, 1, 2, 4] : List Int) .u8 hu_3 (by decide), yG ([0, 1, 2, 4] : List Int) .u8 hx_4, trivial⟩ (by kernel_rfl) ?_
  exact DrO.nil rfl
 ·dsimp only [List.getLastD_cons,List.getLastD_nil]
  obtain ⟨n_5,hn_5,h⟩:=bE h
  refine runH 3 [(0,.eq (.int .u8 n_5))] [3] [AV.int .u8 (IntKind.u8.wrap (((BitVec.ofInt (IntKind.bits .u8) x_4 &&& BitVec.ofInt (IntKind.bits .u8) a_2).toNat : Nat) : Int)) = AV.int .u8 n_5] (mkS 11 [(3,.bool (n_5 != 0))]) (⟨[[.int .u8 a_2],(aW j_1)],[]⟩) (by kernel_rfl) ⟨congrArg (AV.int .u8) (Option.some.inj hn_5),trivial⟩ ?_
  refine ExO.nil ?_
  refine Ex.ret ?_
  obtain rfl:=sJ h
  exact rt (.bool (n_5 != 0))
def bS (N : Nat) (jobs_1 : (List bH)) (a_2 : Int) : Option (Int):=(letJ (fun (sum_3 : Int) => some sum_3) (fun k_4 => (loop2 (fun rec_9 (sum_7 : Int) (y_8 : Int) => (bif (decide (y_8 < ((jobs_1.length : Nat) : Int))) then (letJ (fun (sum_13 : Int) => (rec_9 sum_13 (IntKind.i64.wrap (y_8 + 1)))) (fun k_14 => ((getI jobs_1 y_8).bind fun x_17 => ((dL N x_17 a_2).bind fun r_18 => (bif r_18 then (k_14 (IntKind.i64.wrap (sum_7 + x_17.Days))) else (k_14 sum_7)))))) else (k_4 sum_7))) N 0 0)))
def cI (r : Int) : AV:=i6 r
attribute [local simp] cI
theorem jP (r : Int) (n n2 m : Nat) : back n n2 m (cI r) = some (cI r):=by simp
theorem jM (N : Nat) (jobs_1 : (List bH)) (a_2 : Int) (r : Int) (h : bS N jobs_1 a_2 = some r) : Does Tryz.prog 54 [.sl (jobs_1.map aI) none,.fn 56 [] [.ptr 0 0]] [[.int .u8 a_2]] fun v c => v = cI r ∧ c = [[.int .u8 a_2]]:=by
 unfold bS at h
 refine Does.ofL comp54 _ _ rfl rfl ?_
 refine Ex.seq (rg 1 [0,1] (mkS 23 [(0,.sl (jobs_1.map aI) none),(1,.fn 56 [] [.ptr 0 0])]) ⟨[[.int .u8 a_2]],[]⟩ ?_)
 refine Ex.seq (rg 1 [0,1,5] (mkS 23 [(0,.sl (jobs_1.map aI) none),(1,.fn 56 [] [.ptr 0 0]),(5,i6 0)]) ⟨[[.int .u8 a_2]],[]⟩ ?_)
 refine Ex.seq (Ex.seq ?_)
 refine regH 3 [(1,.eq (i6 ((jobs_1.length : Nat) : Int)))] [1,5,8,9,10] [AV.int .i64 (((jobs_1.map aI).length : Nat) : Int) = AV.int .i64 ((jobs_1.length : Nat) : Int)] (mkS 23 [(1,.fn 56 [] [.ptr 0 0]),(5,i6 0),(8,.sl (jobs_1.map aI) none),(9,i6 ((jobs_1.length : Nat) : Int)),(10,i6 0)]) (⟨[[.int .u8 a_2]],[]⟩) (by kernel_rfl) ⟨lenM _ _,trivial⟩ rfl ?_
 obtain ⟨K_5,hK_6,h⟩:=letE h
 refine Ex.blockJ (fun a S => ∃ (sum_3 : Int),K_5 sum_3 = some r ∧ a = mkS 23 [(5,i6 sum_3)] ∧ S = ⟨[[.int .u8 a_2]],[]⟩) ?_ ?_
 ·obtain ⟨B_10,hB_11,h⟩:=gP h
  refine Ex.loopF (fun k a S => ∃ (sum_7 : Int),∃ (y_8 : Int),loop2 B_10 k sum_7 y_8 = some r ∧ a = mkS 23 [(1,.fn 56 [] [.ptr 0 0]),(5,i6 sum_7),(8,.sl (jobs_1.map aI) none),(9,i6 ((jobs_1.length : Nat) : Int)),(10,i6 y_8)] ∧ S = ⟨[[.int .u8 a_2]],[]⟩) N ⟨_,_,aM.refl _ _ _,0,0,h,rfl,rfl⟩ ?_
  rintro k a S ⟨sum_7,y_8,h,rfl,rfl⟩
  cases k with
  | zero => exact (gN h).elim
  | succ k =>
   replace h:=gO h hB_11
   refine Ex.seq (rg 1 [1,5,8,9,10,11] (mkS 23 [(1,.fn 56 [] [.ptr 0 0]),(5,i6 sum_7),(8,.sl (jobs_1.map aI) none),(9,i6 ((jobs_1.length : Nat) : Int)),(10,i6 y_8),(11,.bool (decide (y_8 < ((jobs_1.length : Nat) : Int))))]) ⟨[[.int .u8 a_2]],[]⟩ ?_)
   refine Ex.seq ?_
   rcases aY h with ⟨hc_12,h⟩ | ⟨hc_12,h⟩
   ·refine Ex.condT _ rfl hc_12 ?_
    refine Ex.skip ?_
    refine Ex.seq ?_
    obtain ⟨K_15,hK_16,h⟩:=letE h
    refine Ex.blockJ (fun a S => ∃ (sum_13 : Int),K_15 sum_13 = some r ∧ a = mkS 23 [(1,.fn 56 [] [.ptr 0 0]),(5,i6 sum_13),(8,.sl (jobs_1.map aI) none),(9,i6 ((jobs_1.length : Nat) : Int)),(10,i6 y_8)] ∧ S = ⟨[[.int .u8 a_2]],[]⟩) ?_ ?_
    ·refine Ex.seq ?_
     obtain ⟨x_17,hx_17,h⟩:=bE h
     refine regH 4 [(0,.rop (aW x_17))] [1,5,7,8,9,10] [LGet (jobs_1.map aI) y_8 3 (aW x_17)] (mkS 23 [(1,.fn 56 [] [.ptr 0 0]),(5,i6 sum_7),(7,.ptr 1 0),(8,.sl (jobs_1.map aI) none),(9,i6 ((jobs_1.length : Nat) : Int)),(10,i6 y_8)]) (⟨[[.int .u8 a_2],(aW x_17)],[]⟩) (by kernel_rfl) ⟨LGet.of hx_17 rfl,trivial⟩ rfl ?_
     refine Ex.seq ?_
     obtain ⟨r_18,hr_18,h⟩:=bE h
     refine Ex.reg (rn 2 [1,5,7,8,9,10,14,15] (mkS 23 [(1,.fn 56 [] [.ptr 0 0]),(5,i6 sum_7),(7,.ptr 1 0),(8,.sl (jobs_1.map aI) none),(9,i6 ((jobs_1.length : Nat) : Int)),(10,i6 y_8),(14,.fn 56 [] [.ptr 0 0]),(15,(aI x_17))]) ⟨[[.int .u8 a_2],(aW x_17)],[]⟩ ?_)
     refine ExO.callL [0] [(aI x_17),.ptr 0 0] rfl rfl (by simp; try rfl) rfl (by simp) (pS N x_17 a_2 r_18 hr_18) (pW _ _ _ _) (by simp) ?_
     refine rn 0 [1,5,7,8,9,10,16] (mkS 23 [(1,.fn 56 [] [.ptr 0 0]),(5,i6 sum_7),(7,.ptr 1 0),(8,.sl (jobs_1.map aI) none),(9,i6 ((jobs_1.length : Nat) : Int)),(10,i6 y_8),(16,.bool r_18)]) ⟨[[.int .u8 a_2],(aW x_17)],[]⟩ ?_
     refine ExO.nil ?_
     rcases aY h with ⟨hc_19,h⟩ | ⟨hc_19,h⟩
     ·refine Ex.condT _ rfl hc_19 ?_
      refine rg 5 [1,5,8,9,10] (mkS 23 [(1,.fn 56 [] [.ptr 0 0]),(5,i6 (IntKind.i64.wrap (sum_7 + x_17.Days))),(8,.sl (jobs_1.map aI) none),(9,i6 ((jobs_1.length : Nat) : Int)),(10,i6 y_8)]) ⟨[[.int .u8 a_2],(aW x_17)],[]⟩ ?_
      (try simp only [reduceCtorEq,AEx.ex.injEq,Nat.reduceEqDiff,if_true,if_false])
      exact ⟨_,_,bM (m:=23) 1 [] [(1,.fn 56 [] [.ptr 0 0]),(5,i6 (IntKind.i64.wrap (sum_7 + x_17.Days))),(8,.sl (jobs_1.map aI) none),(9,i6 ((jobs_1.length : Nat) : Int)),(10,i6 y_8)] [[.int .u8 a_2]] [] (by simp [bD]) (by simp) ⟨(by show re 1 [] (.fn 56 [] [.ptr 0 0]) = some (.fn 56 [] [.ptr 0 0]); simp [re,re1,AV.clean,List.idxOf?,List.findIdx?,List.findIdx?.go,bB,fX,dS,gB,fR,dB,dC,fE,dN,cF,cJ,cT,aK,aE,aU,aI,aW,aC,aB,aA,aN,bO,bP]),rfl,(reN (fE _)),rfl,rfl,trivial⟩ (by simp) rfl (by decide),(IntKind.i64.wrap (sum_7 + x_17.Days)),h,rfl,rfl⟩
     ·refine Ex.condF _ rfl hc_19 ?_
      refine Ex.skip ?_
      (try simp only [reduceCtorEq,AEx.ex.injEq,Nat.reduceEqDiff,if_true,if_false])
      exact ⟨_,_,bM (m:=23) 1 [] [(1,.fn 56 [] [.ptr 0 0]),(5,i6 sum_7),(8,.sl (jobs_1.map aI) none),(9,i6 ((jobs_1.length : Nat) : Int)),(10,i6 y_8)] [[.int .u8 a_2]] [] (by simp [bD]) (by simp) ⟨(by show re 1 [] (.fn 56 [] [.ptr 0 0]) = some (.fn 56 [] [.ptr 0 0]); simp [re,re1,AV.clean,List.idxOf?,List.findIdx?,List.findIdx?.go,bB,fX,dS,gB,fR,dB,dC,fE,dN,cF,cJ,cT,aK,aE,aU,aI,aW,aC,aB,aA,aN,bO,bP]),rfl,(reN (fE _)),rfl,rfl,trivial⟩ (by simp) rfl (by decide),sum_7,h,rfl,rfl⟩
    ·rintro a S ⟨sum_13,h,rfl,rfl⟩
     subst hK_16
     refine rg 2 [1,5,8,9,10] (mkS 23 [(1,.fn 56 [] [.ptr 0 0]),(5,i6 sum_13),(8,.sl (jobs_1.map aI) none),(9,i6 ((jobs_1.length : Nat) : Int)),(10,i6 (IntKind.i64.wrap (y_8 + 1)))]) ⟨[[.int .u8 a_2]],[]⟩ ?_
     dsimp only
     exact ⟨_,_,aM.refl _ _ _,k,Nat.lt_succ_self k,sum_13,(IntKind.i64.wrap (y_8 + 1)),h,rfl,rfl⟩
   ·refine Ex.condF _ rfl hc_12 ?_
    refine Ex.exit ?_
    (try simp only [reduceCtorEq,AEx.ex.injEq,Nat.reduceEqDiff,if_true,if_false])
    exact ⟨_,_,bQ [5],sum_7,h,rfl,rfl⟩
 ·rintro a S ⟨sum_3,h,rfl,rfl⟩
  subst hK_6
  refine Ex.seq (rg 2 [4] (mkS 23 [(4,i6 sum_3)]) ⟨[[.int .u8 a_2]],[]⟩ ?_)
  refine Ex.ret ?_
  obtain rfl:=sJ h
  exact rt (i6 sum_3)
def eC (N : Nat) (s_1 : aH) : Option (Int):=(letJ (fun (most_2 : Int) => some most_2) (fun k_3 => (loop2 (fun rec_8 (most_6 : Int) (b_7 : Int) => (bif (decide (b_7 ≤ 7)) then (letJ (fun (most_12 : Int) => (rec_8 most_12 (IntKind.u8.wrap (b_7 + 1)))) (fun k_13 => ((bS N s_1.Jobs b_7).bind fun r_16 => ((cA N s_1 b_7).bind fun r_17 => (bif (decide (r_16 > 0)) then ((nzI ((r_17.length : Nat) : Int)).bind fun u_19 => (k_13 (if (IntKind.i64.wrap (Int.tdiv (IntKind.i64.wrap ((IntKind.i64.wrap (r_16 + ((r_17.length : Nat) : Int))) - 1)) ((r_17.length : Nat) : Int))) > most_6 then (IntKind.i64.wrap (Int.tdiv (IntKind.i64.wrap ((IntKind.i64.wrap (r_16 + ((r_17.length : Nat) : Int))) - 1)) ((r_17.length : Nat) : Int))) else most_6))) else (k_13 most_6)))))) else (k_3 most_6))) N 0 1)))
def fN (r : Int) : AV:=i6 r
attribute [local simp] fN
theorem rL (s_1 : aH) : [(aC s_1)].mapM (ren []) = some [(aC s_1)]:=by simp
theorem rH (r : Int) (n n2 m : Nat) : back n n2 m (fN r) = some (fN r):=by simp
theorem rB (N : Nat) (s_1 : aH) (r : Int) (h : eC N s_1 = some r) : Does Tryz.prog 37 [(aC s_1)] [] fun v c => v = fN r ∧ c = []:=by
 unfold eC at h
 refine Does.ofL comp37 _ _ rfl rfl ?_
 refine Ex.seq (rg 2 [1] (mkS 31 [(1,.ptr 0 0)]) ⟨[(aB s_1)],[]⟩ ?_)
 refine Ex.seq (rg 1 [1,3] (mkS 31 [(1,.ptr 0 0),(3,i6 0)]) ⟨[(aB s_1)],[]⟩ ?_)
 refine Ex.seq (Ex.seq ?_)
 refine rg 2 [1,3,4] (mkS 31 [(1,.ptr 0 0),(3,i6 0),(4,.ptr 1 0)]) ⟨[(aB s_1),[.int .u8 1]],[]⟩ ?_
 obtain ⟨K_4,hK_5,h⟩:=letE h
 refine Ex.blockJ (fun a S => ∃ (most_2 : Int),K_4 most_2 = some r ∧ a = mkS 31 [(3,i6 most_2)] ∧ S = ⟨[],[]⟩) ?_ ?_
 ·obtain ⟨B_9,hB_10,h⟩:=gP h
  refine Ex.loopF (fun k a S => ∃ (most_6 : Int),∃ (b_7 : Int),loop2 B_9 k most_6 b_7 = some r ∧ a = mkS 31 [(1,.ptr 0 0),(3,i6 most_6),(4,.ptr 1 0)] ∧ S = ⟨[(aB s_1),[.int .u8 b_7]],[]⟩) N ⟨_,_,aM.refl _ _ _,0,1,h,rfl,rfl⟩ ?_
  rintro k a S ⟨most_6,b_7,h,rfl,rfl⟩
  cases k with
  | zero => exact (gN h).elim
  | succ k =>
   replace h:=gO h hB_10
   refine Ex.seq (Ex.seq ?_)
   refine rg 2 [1,3,4,8] (mkS 31 [(1,.ptr 0 0),(3,i6 most_6),(4,.ptr 1 0),(8,.bool (decide (b_7 ≤ 7)))]) ⟨[(aB s_1),[.int .u8 b_7]],[]⟩ ?_
   rcases aY h with ⟨hc_11,h⟩ | ⟨hc_11,h⟩
   ·refine Ex.condT _ rfl hc_11 ?_
    refine Ex.skip ?_
    refine Ex.seq ?_
    obtain ⟨K_14,hK_15,h⟩:=letE h
    refine Ex.blockJ (fun a S => ∃ (most_12 : Int),K_14 most_12 = some r ∧ a = mkS 31 [(1,.ptr 0 0),(3,i6 most_12),(4,.ptr 1 0)] ∧ S = ⟨[(aB s_1),[.int .u8 b_7]],[]⟩) ?_ ?_
    ·refine Ex.seq ?_
     obtain ⟨r_16,hr_16,h⟩:=bE h
     refine Ex.reg (rn 3 [1,3,4,12,13] (mkS 31 [(1,.ptr 0 0),(3,i6 most_6),(4,.ptr 1 0),(12,.sl (s_1.Jobs.map aI) none),(13,.fn 56 [] [.ptr 1 0])]) ⟨[(aB s_1),[.int .u8 b_7]],[]⟩ ?_)
     refine ExO.callL [1] [.sl (s_1.Jobs.map aI) none,.fn 56 [] [.ptr 1 0]] rfl rfl (by simp; try rfl) rfl (by simp) (jM N s_1.Jobs b_7 r_16 hr_16) (jP _ _ _ _) (by simp) ?_
     refine rn 1 [1,3,4,5] (mkS 31 [(1,.ptr 0 0),(3,i6 most_6),(4,.ptr 1 0),(5,i6 r_16)]) ⟨[(aB s_1),[.int .u8 b_7]],[]⟩ ?_
     refine ExO.nil ?_
     refine Ex.seq ?_
     obtain ⟨r_17,hr_17,h⟩:=bE h
     refine Ex.reg (rn 2 [1,3,4,5,15,16] (mkS 31 [(1,.ptr 0 0),(3,i6 most_6),(4,.ptr 1 0),(5,i6 r_16),(15,(aC s_1)),(16,.int .u8 b_7)]) ⟨[(aB s_1),[.int .u8 b_7]],[]⟩ ?_)
     refine ExO.callL [] [(aC s_1),.int .u8 b_7] rfl rfl (nF s_1 b_7) rfl rfl (jL N s_1 b_7 r_17 hr_17) (jO _ _ _ _) rfl ?_
     refine runH 2 [(0,.eq (i6 ((r_17.length : Nat) : Int)))] [1,3,4,5,6] [AV.int .i64 (((r_17.map (AV.int .i64)).length : Nat) : Int) = AV.int .i64 ((r_17.length : Nat) : Int)] (mkS 31 [(1,.ptr 0 0),(3,i6 most_6),(4,.ptr 1 0),(5,i6 r_16),(6,i6 ((r_17.length : Nat) : Int))]) (⟨[(aB s_1),[.int .u8 b_7]],[]⟩) (by kernel_rfl) ⟨lenM _ _,trivial⟩ ?_
     refine ExO.nil ?_
     refine Ex.seq (rg 2 [1,3,4,5,6,20] (mkS 31 [(1,.ptr 0 0),(3,i6 most_6),(4,.ptr 1 0),(5,i6 r_16),(6,i6 ((r_17.length : Nat) : Int)),(20,.bool (decide (r_16 > 0)))]) ⟨[(aB s_1),[.int .u8 b_7]],[]⟩ ?_)
     rcases aY h with ⟨hc_18,h⟩ | ⟨hc_18,h⟩
     ·refine Ex.condT _ rfl hc_18 ?_
      obtain ⟨u_19,hu_19,h⟩:=bE h
      refine regH 9 [(6,.bin (i6 (IntKind.i64.wrap (Int.tdiv (IntKind.i64.wrap ((IntKind.i64.wrap (r_16 + ((r_17.length : Nat) : Int))) - 1)) ((r_17.length : Nat) : Int)))))] [1,3,4] [binA .quo (i6 (IntKind.i64.wrap ((IntKind.i64.wrap (r_16 + ((r_17.length : Nat) : Int))) - 1))) (i6 ((r_17.length : Nat) : Int)) = some (i6 (IntKind.i64.wrap (Int.tdiv (IntKind.i64.wrap ((IntKind.i64.wrap (r_16 + ((r_17.length : Nat) : Int))) - 1)) ((r_17.length : Nat) : Int))))] (mkS 31 [(1,.ptr 0 0),(3,i6 (if (IntKind.i64.wrap (Int.tdiv (IntKind.i64.wrap ((IntKind.i64.wrap (r_16 + ((r_17.length : Nat) : Int))) - 1)) ((r_17.length : Nat) : Int))) > most_6 then (IntKind.i64.wrap (Int.tdiv (IntKind.i64.wrap ((IntKind.i64.wrap (r_16 + ((r_17.length : Nat) : Int))) - 1)) ((r_17.length : Nat) : Int))) else most_6)),(4,.ptr 1 0)]) (⟨[(aB s_1),[.int .u8 b_7]],[]⟩) (by kernel_rfl) ⟨binQ hu_19,trivial⟩ rfl ?_
      (try simp only [reduceCtorEq,AEx.ex.injEq,Nat.reduceEqDiff,if_true,if_false])
      exact ⟨_,_,aM.refl _ _ _,(if (IntKind.i64.wrap (Int.tdiv (IntKind.i64.wrap ((IntKind.i64.wrap (r_16 + ((r_17.length : Nat) : Int))) - 1)) ((r_17.length : Nat) : Int))) > most_6 then (IntKind.i64.wrap (Int.tdiv (IntKind.i64.wrap ((IntKind.i64.wrap (r_16 + ((r_17.length : Nat) : Int))) - 1)) ((r_17.length : Nat) : Int))) else most_6),h,rfl,rfl⟩
     ·refine Ex.condF _ rfl hc_18 ?_
      refine Ex.skip ?_
      (try simp only [reduceCtorEq,AEx.ex.injEq,Nat.reduceEqDiff,if_true,if_false])
      exact ⟨_,_,bQ [1,3,4],most_6,h,rfl,rfl⟩
    ·rintro a S ⟨most_12,h,rfl,rfl⟩
     subst hK_15
     refine Ex.seq (Ex.seq ?_)
     refine rg 1 [1,3,29] (mkS 31 [(1,.ptr 0 0),(3,i6 most_12),(29,.int .u8 b_7)]) ⟨[(aB s_1),[.int .u8 b_7]],[]⟩ ?_
     refine rg 2 [1,3,4] (mkS 31 [(1,.ptr 0 0),(3,i6 most_12),(4,.ptr 2 0)]) ⟨[(aB s_1),[.int .u8 b_7],[.int .u8 b_7]],[]⟩ ?_
     refine rg 3 [1,3,4] (mkS 31 [(1,.ptr 0 0),(3,i6 most_12),(4,.ptr 2 0)]) ⟨[(aB s_1),[.int .u8 b_7],[.int .u8 (IntKind.u8.wrap (b_7 + 1))]],[]⟩ ?_
     dsimp only
     exact ⟨_,_,aM.castA (a2:=mkS 31 [(1,.ptr 0 0),(3,i6 most_12),(4,.ptr 2 0)]) (S2:=⟨[(aB s_1),[.int .u8 b_7],[.int .u8 (IntKind.u8.wrap (b_7 + 1))]],[]⟩) (by kernel_rfl) (by kernel_rfl) (aM.trans (aHV (m:=31) 1 [(1,.ptr 0 0),(3,i6 most_12),(4,.ptr 1 0)] [(aB s_1),[.int .u8 (IntKind.u8.wrap (b_7 + 1))]] [(aB s_1),[.int .u8 (IntKind.u8.wrap (b_7 + 1))]] (by simp [bD]) (by simp) rfl ⟨rfl,rfl,rfl,trivial⟩ (by simp)) (aM.refl _ _ _)),k,Nat.lt_succ_self k,most_12,(IntKind.u8.wrap (b_7 + 1)),h,rfl,rfl⟩
   ·refine Ex.condF _ rfl hc_11 ?_
    refine Ex.exit ?_
    (try simp only [reduceCtorEq,AEx.ex.injEq,Nat.reduceEqDiff,if_true,if_false])
    exact ⟨_,_,bM (m:=31) 0 [] [(3,i6 most_6)] [] [] (by simp [bD]) (by simp) ⟨rfl,trivial⟩ (by simp) rfl (by decide),most_6,h,rfl,rfl⟩
 ·rintro a S ⟨most_2,h,rfl,rfl⟩
  subst hK_5
  refine Ex.seq (rg 2 [2] (mkS 31 [(2,i6 most_2)]) ⟨[],[]⟩ ?_)
  refine Ex.ret ?_
  obtain rfl:=sJ h
  exact rt (i6 most_2)
def eO (N : Nat) (s_1 : aH) : Option (Int × Int):=((cX N s_1).bind fun r_2 => (bif (r_2 != 0) then some (0,r_2) else ((eK N s_1).bind fun r_4 => ((eC N s_1).bind fun r_6 => some ((if r_6 > r_4 then r_6 else r_4),0)))))
def mF (r : Int × Int) : AV:=.tup [i6 r.1,i6 r.2]
attribute [local simp] mF
theorem vC (s_1 : aH) : [(aC s_1)].mapM (ren []) = some [(aC s_1)]:=by simp
theorem uU (r : Int × Int) (n n2 m : Nat) : back n n2 m (mF r) = some (mF r):=by simp
theorem uN (N : Nat) (s_1 : aH) (r : Int × Int) (h : eO N s_1 = some r) : Does Tryz.prog 12 [(aC s_1)] [] fun v c => v = mF r ∧ c = []:=by
 unfold eO at h
 refine Does.ofL comp12 _ _ rfl rfl ?_
 refine Ex.seq (rg 3 [1] (mkS 15 [(1,.ptr 0 0)]) ⟨[(aB s_1)],[]⟩ ?_)
 refine Ex.seq (Ex.seq ?_)
 obtain ⟨r_2,hr_2,h⟩:=bE h
 refine Ex.reg (rn 1 [1,5] (mkS 15 [(1,.ptr 0 0),(5,(aC s_1))]) ⟨[(aB s_1)],[]⟩ ?_)
 refine ExO.callL [] [(aC s_1)] rfl rfl (nG s_1) rfl rfl (mY N s_1 r_2 hr_2) (nD _ _ _ _) rfl ?_
 refine rn 1 [1,4] (mkS 15 [(1,.ptr 0 0),(4,i6 r_2)]) ⟨[(aB s_1)],[]⟩ ?_
 refine ExO.nil ?_
 refine Ex.seq (rg 2 [1,4,8] (mkS 15 [(1,.ptr 0 0),(4,i6 r_2),(8,.bool (r_2 != 0))]) ⟨[(aB s_1)],[]⟩ ?_)
 rcases aY h with ⟨hc_3,h⟩ | ⟨hc_3,h⟩
 ·refine Ex.condT _ rfl hc_3 ?_
  refine Ex.seq (rg 3 [2,3] (mkS 15 [(2,i6 0),(3,i6 r_2)]) ⟨[(aB s_1)],[]⟩ ?_)
  refine Ex.ret ?_
  obtain rfl:=sJ h
  exact rt (.tup [i6 0,i6 r_2])
 ·refine Ex.condF _ rfl hc_3 ?_
  refine Ex.skip ?_
  refine Ex.seq ?_
  obtain ⟨r_4,hr_4,h⟩:=bE h
  have hT_5 : fH Tryz.prog [⟨36,[(aC s_1)],[],(dA r_4),[]⟩] ∧ eF [⟨36,[(aC s_1)],[],(dA r_4),[]⟩]:=⟨⟨(sH N s_1 r_4 hr_4),rfl,trivial⟩,⟨trivial,trivial⟩⟩
  refine Ex.drawE (a1:=mkS 15 [(1,.ptr 0 0),(4,i6 r_2),(8,.bool (r_2 != 0)),(10,(aC s_1)),(11,i6 r_4),(12,(aC s_1))]) (dI hT_5.1) [] [] [] ?_ ?_
  ·refine drS [0] 1 [] [] (mkS 15 [(1, .ptr 0 0), (4, i6 r_2), (8, .bool (r_2 != 0)), (10, (aC s_1))]) (by simp) (by kernel_rfl) trivial (by kernel_rfl) ?_
   refine drC hT_5.2 0 _ [(aC s_1)] (dA r_4) rfl rfl rfl rfl rfl (fun _ => rfl) rfl (by simp; try rfl) (fun _ => sN _ _ _ _) ?_
   refine drS [0] 1 [] [] (mkS 15 [(1,.ptr 0 0),(4,i6 r_2),(8,.bool (r_2 != 0)),(10,(aC s_1)),(11,i6 r_4),(12,(aC s_1))]) (by simp) (by kernel_rfl) trivial (by kernel_rfl) ?_
   exact DrO.nil rfl
  ·dsimp only [List.getLastD_cons,List.getLastD_nil]
   obtain ⟨r_6,hr_6,h⟩:=bE h
   refine ExO.callL [] [(aC s_1)] rfl rfl (rL s_1) rfl rfl (rB N s_1 r_6 hr_6) (rH _ _ _ _) rfl ?_
   refine rn 3 [2,3] (mkS 15 [(2,i6 (if r_6 > r_4 then r_6 else r_4)),(3,i6 0)]) ⟨[(aB s_1)],[]⟩ ?_
   refine ExO.nil ?_
   refine Ex.ret ?_
   obtain rfl:=sJ h
   exact rt (.tup [i6 (if r_6 > r_4 then r_6 else r_4),i6 0])
end
end Go.Proofs.YtildamklmoekaaaGreatDoor
