/- Part 6 of what the law needs: own work, put together. -/
import Derived.ProofKit
import Derived.LaidMore
import Derived.LaidLaws
import Derived.LaidHandle
import Derived.Lib.LaidTab
import Derived.Stop.LaidErr
import Derived.OpenShut
import Derived.Stop.Joined
import Derived.Test.YthfpmjnmaifgaaaDoorRows
import Derived.Test.YthfpmjnmaifgaaaDoorTie
import Derived.Test.YthfpmjnmaifgaaaDoorCards
import Derived.SevenTiedAt
import Derived.Test.YthfpmjnmaifgaaaDoorBwZq4
set_option linter.unusedVariables false
set_option linter.unusedSimpArgs false
set_option maxRecDepth 10000
set_option maxHeartbeats 4000000
section
namespace Go.Proofs.YthfpmjnmaifgaaaDoor
open Go.RowKit
attribute [local simp] ren ren1 AV.plain AV.plain1 AV.clean cleanL cleanI cleanBo cleanSt cleanII plFB clFB faFB KL_bk_Drum KL_Span KL_Street KL_Group KL_Town KL_City KL_Band KL_band_tour KL_band_visit A_bk_Drum C_bk_Drum A_Span C_Span A_Street C_Street A_Group C_Group A_Town C_Town A_City C_City A_Band C_Band A_band_tour C_band_tour A_band_visit C_band_visit back back1 fadeS fadeV List.idxOf? List.findIdx? List.findIdx?.go re re1 KB_bk_Drum KB_Span KB_Street KB_Group KB_Town KB_City KB_Band KB_band_tour KB_band_visit
def p_band_night_with (N : Nat) (n_1 : (List Bool)) (minutes_2 : T_Span) : Option ((List Bool)):=(letJ (fun (w_3 : List Bool) => ((lenI w_3 720).bind fun u_16 => ((len2 (List.replicate 720 false) w_3 720).bind fun u_17 => ((lenI w_3 720).bind fun u_18 => some w_3)))) (fun k_4 => (loop2 (fun rec_9 (minute_7 : Int) (w_8 : List Bool) => (bif (decide (minute_7 ≤ minutes_2.Hi)) then ((idxI minute_7 720).bind fun u_13 => ((setI w_8 minute_7 (fun (y_14 : Bool) => true)).bind fun z_15 => (rec_9 (IntKind.i64.wrap (minute_7 + 1)) z_15))) else (k_4 w_8))) N minutes_2.Lo n_1)))
def v_band_night_with (r : (List Bool)) : AV:=.agg (flat (r.map AV.bool))
attribute [local simp] v_band_night_with
theorem b_band_night_with (r : (List Bool)) (n n2 m : Nat) : back n n2 m (v_band_night_with r) = some (v_band_night_with r):=by simp
theorem d_band_night_with (N : Nat) (n_1 : (List Bool)) (minutes_2 : T_Span) (r : (List Bool)) (h : p_band_night_with N n_1 minutes_2 = some r) : Does Tryd.prog 39 [.agg (flat (n_1.map AV.bool)),(A_Span minutes_2)] [] fun v c => v = v_band_night_with r ∧ c = []:=by
 unfold p_band_night_with at h
 refine Does.ofL comp39 _ _ rfl rfl ?_
 refine Ex.seq (rg 3 [2,3,4] (mkS 17 [(2,.ptr 0 0),(3,.ptr 1 0),(4,.ptr 2 0)]) ⟨[(flat (n_1.map AV.bool)),(C_Span minutes_2),(flat ((List.replicate 720 false).map AV.bool))],[]⟩ ?_)
 refine Ex.seq (Ex.seq ?_)
 refine rg 3 [2,3,4,5] (mkS 17 [(2,.ptr 0 0),(3,.ptr 1 0),(4,.ptr 2 0),(5,i6 minutes_2.Lo)]) ⟨[(flat (n_1.map AV.bool)),(C_Span minutes_2),(flat ((List.replicate 720 false).map AV.bool))],[]⟩ ?_
 obtain ⟨K_5,hK_6,h⟩:=letE h
 refine Ex.blockJ (fun a S => ∃ (w_3 : List Bool),K_5 w_3 = some r ∧ a = mkS 17 [(2,.ptr 0 0),(4,.ptr 2 0)] ∧ S = ⟨[(flat (w_3.map AV.bool)),(C_Span minutes_2),(flat ((List.replicate 720 false).map AV.bool))],[]⟩) ?_ ?_
 ·obtain ⟨B_10,hB_11,h⟩:=loop2I h
  refine Ex.loopF (fun k a S => ∃ (minute_7 : Int),∃ (w_8 : List Bool),loop2 B_10 k minute_7 w_8 = some r ∧ a = mkS 17 [(2,.ptr 0 0),(3,.ptr 1 0),(4,.ptr 2 0),(5,i6 minute_7)] ∧ S = ⟨[(flat (w_8.map AV.bool)),(C_Span minutes_2),(flat ((List.replicate 720 false).map AV.bool))],[]⟩) N ⟨_,_,Forgets.refl _ _ _,minutes_2.Lo,n_1,h,rfl,rfl⟩ ?_
  rintro k a S ⟨minute_7,w_8,h,rfl,rfl⟩
  cases k with
  | zero => exact (loop2Z h).elim
  | succ k =>
   replace h:=loop2S h hB_11
   refine Ex.seq (Ex.seq ?_)
   refine rg 4 [2,3,4,5,11] (mkS 17 [(2,.ptr 0 0),(3,.ptr 1 0),(4,.ptr 2 0),(5,i6 minute_7),(11,.bool (decide (minute_7 ≤ minutes_2.Hi)))]) ⟨[(flat (w_8.map AV.bool)),(C_Span minutes_2),(flat ((List.replicate 720 false).map AV.bool))],[]⟩ ?_
   rcases condI h with ⟨hc_12,h⟩ | ⟨hc_12,h⟩
   ·refine Ex.condT _ rfl hc_12 ?_
    refine Ex.skip ?_
    refine Ex.seq ?_
    refine Ex.blockK ?_
    obtain ⟨u_13,hu_13,h⟩:=bE h
    obtain ⟨z_15,hz_15,h⟩:=bE h
    refine regH 3 [(1,.adr),(2,.st (flat (z_15.map AV.bool)))] [2,3,4,5] [0 ≤ minute_7 ∧ minute_7 < ((720 : Nat) : Int),0 + Int.toNat minute_7 * 1 + 1 ≤ ((flat (w_8.map AV.bool))).length ∧ layAt (flat (w_8.map AV.bool)) (0 + Int.toNat minute_7 * 1) [.bool true] = (flat (z_15.map AV.bool))] (mkS 17 [(2,.ptr 0 0),(3,.ptr 1 0),(4,.ptr 2 0),(5,i6 minute_7)]) (⟨[(flat (z_15.map AV.bool)),(C_Span minutes_2),(flat ((List.replicate 720 false).map AV.bool))],[]⟩) (by kernel_rfl) ⟨idxI.of hu_13,stFl (f:=AV.bool) (s:=1) _ 0 1 minute_7 (fun (y_14 : Bool) => true) _ (fun _ => rfl) hz_15 rfl (by decide) (by omega) (fun _ => rfl),trivial⟩ rfl ?_
    refine rg 3 [2,3,4,5] (mkS 17 [(2,.ptr 0 0),(3,.ptr 1 0),(4,.ptr 2 0),(5,i6 (IntKind.i64.wrap (minute_7 + 1)))]) ⟨[(flat (z_15.map AV.bool)),(C_Span minutes_2),(flat ((List.replicate 720 false).map AV.bool))],[]⟩ ?_
    dsimp only
    exact ⟨_,_,Forgets.refl _ _ _,k,Nat.lt_succ_self k,(IntKind.i64.wrap (minute_7 + 1)),z_15,h,rfl,rfl⟩
   ·refine Ex.condF _ rfl hc_12 ?_
    refine Ex.exit ?_
    (try simp only [reduceCtorEq,AEx.ex.injEq,Nat.reduceEqDiff,if_true,if_false])
    exact ⟨_,_,forgetK [2,4],w_8,h,rfl,rfl⟩
 ·rintro a S ⟨w_3,h,rfl,rfl⟩
  subst hK_6
  refine Ex.seq ?_
  obtain ⟨u_16,hu_16,h⟩:=bE h
  obtain ⟨u_17,hu_17,h⟩:=bE h
  refine regH 2 [(0,.ld (.agg (flat (w_3.map AV.bool)))),(1,.stw (flat (w_3.map AV.bool)))] [4] [takeCells (flat (w_3.map AV.bool)) 0 (some 720) = some (.agg (flat (w_3.map AV.bool))),(.agg (flat (w_3.map AV.bool)) : AV).okCells = true ∧ (.agg (flat (w_3.map AV.bool)) : AV).cells.length = 720 ∧ 0 < 720 ∧ 0 + 720 ≤ ((flat ((List.replicate 720 false).map AV.bool))).length ∧ layAt (flat ((List.replicate 720 false).map AV.bool)) 0 (.agg (flat (w_3.map AV.bool)) : AV).cells = (flat (w_3.map AV.bool))] (mkS 17 [(4,.ptr 2 0)]) (⟨[(flat (w_3.map AV.bool)),(C_Span minutes_2),(flat (w_3.map AV.bool))],[]⟩) (by kernel_rfl) ⟨ldArrA (f:=AV.bool) w_3 (fun _ => rfl) hu_16,stArrA (f:=AV.bool) (List.replicate 720 false) w_3 (fun _ => rfl) (by decide) hu_17,trivial⟩ rfl ?_
  refine Ex.ret ?_
  obtain ⟨u_18,hu_18,h⟩:=bE h
  obtain rfl:=sJ h
  exact ⟨.inr rfl,.agg (flat (w_3.map AV.bool)),evResArr (f:=AV.bool) rfl rfl (fun _ => rfl) hu_18,rfl,fadeArr (f:=AV.bool) (fun _ => rfl) _,by kernel_rfl⟩
def p_band_nightOf (N : Nat) (tours_1 : (List T_band_tour)) (square_2 : Int) : Option ((List Bool)):=((len2 (List.replicate 720 false) (List.replicate 720 false) 720).bind fun u_3 => (letJ (fun (w_4 : List Bool) => ((lenI w_4 720).bind fun u_35 => ((len2 (List.replicate 720 false) w_4 720).bind fun u_36 => ((lenI w_4 720).bind fun u_37 => some w_4)))) (fun k_5 => (loop2 (fun rec_10 (y_8 : Int) (w_9 : List Bool) => (bif (decide (y_8 < ((tours_1.length : Nat) : Int))) then ((getI tours_1 y_8).bind fun x_14 => ((p_band_tour_visits N x_14 x_14.Band.Start).bind fun r_15 => (letJ (fun (w_16 : List Bool) => (rec_10 (IntKind.i64.wrap (y_8 + 1)) w_16)) (fun k_17 => (loop2 (fun rec_22 (y_20 : Int) (w_21 : List Bool) => (bif (decide (y_20 < ((r_15.length : Nat) : Int))) then (letJ (fun (w_26 : List Bool) => (rec_22 (IntKind.i64.wrap (y_20 + 1)) w_26)) (fun k_27 => ((getI r_15 y_20).bind fun x_30 => (bif (x_30.square_ == square_2) then ((lenI w_21 720).bind fun u_32 => ((p_band_night_with N w_21 x_30.Span).bind fun r_33 => ((len2 w_21 r_33 720).bind fun u_34 => (k_27 r_33)))) else (k_27 w_21))))) else (k_17 w_21))) N 0 w_9))))) else (k_5 w_9))) N 0 (List.replicate 720 false)))))
def v_band_nightOf (r : (List Bool)) : AV:=.agg (flat (r.map AV.bool))
attribute [local simp] v_band_nightOf
theorem a_band_nightOf (tours_1 : (List T_band_tour)) (square_2 : Int) : [.sl (tours_1.map A_band_tour) none,i6 square_2].mapM (ren []) = some [.sl (tours_1.map A_band_tour) none,i6 square_2]:=by simp
theorem b_band_nightOf (r : (List Bool)) (n n2 m : Nat) : back n n2 m (v_band_nightOf r) = some (v_band_nightOf r):=by simp
theorem d_band_nightOf (N : Nat) (tours_1 : (List T_band_tour)) (square_2 : Int) (r : (List Bool)) (h : p_band_nightOf N tours_1 square_2 = some r) : Does Tryd.prog 23 [.sl (tours_1.map A_band_tour) none,i6 square_2] [] fun v c => v = v_band_nightOf r ∧ c = []:=by
 unfold p_band_nightOf at h
 refine Does.ofL comp23 _ _ rfl rfl ?_
 refine Ex.seq (rg 1 [0,1,4] (mkS 38 [(0,.sl (tours_1.map A_band_tour) none),(1,i6 square_2),(4,.ptr 0 0)]) ⟨[(flat ((List.replicate 720 false).map AV.bool))],[]⟩ ?_)
 refine Ex.seq ?_
 obtain ⟨u_3,hu_3,h⟩:=bE h
 refine regH 3 [(2,.stw (flat ((List.replicate 720 false).map AV.bool)))] [0,1,4,5] [(.agg (flat ((List.replicate 720 false).map AV.bool)) : AV).okCells = true ∧ (.agg (flat ((List.replicate 720 false).map AV.bool)) : AV).cells.length = 720 ∧ 0 < 720 ∧ 0 + 720 ≤ ((flat ((List.replicate 720 false).map AV.bool))).length ∧ layAt (flat ((List.replicate 720 false).map AV.bool)) 0 (.agg (flat ((List.replicate 720 false).map AV.bool)) : AV).cells = (flat ((List.replicate 720 false).map AV.bool))] (mkS 38 [(0,.sl (tours_1.map A_band_tour) none),(1,i6 square_2),(4,.ptr 0 0),(5,.ptr 1 0)]) (⟨[(flat ((List.replicate 720 false).map AV.bool)),(flat ((List.replicate 720 false).map AV.bool))],[]⟩) (by kernel_rfl) ⟨stArrA (f:=AV.bool) (List.replicate 720 false) (List.replicate 720 false) (fun _ => rfl) (by decide) hu_3,trivial⟩ rfl ?_
 refine Ex.seq (Ex.seq ?_)
 refine regH 3 [(1,.eq (i6 ((tours_1.length : Nat) : Int)))] [1,4,5,11,12,13] [AV.int .i64 (((tours_1.map A_band_tour).length : Nat) : Int) = AV.int .i64 ((tours_1.length : Nat) : Int)] (mkS 38 [(1,i6 square_2),(4,.ptr 0 0),(5,.ptr 1 0),(11,.sl (tours_1.map A_band_tour) none),(12,i6 ((tours_1.length : Nat) : Int)),(13,i6 0)]) (⟨[(flat ((List.replicate 720 false).map AV.bool)),(flat ((List.replicate 720 false).map AV.bool))],[]⟩) (by kernel_rfl) ⟨lenM _ _,trivial⟩ rfl ?_
 obtain ⟨K_6,hK_7,h⟩:=letE h
 refine Ex.blockJ (fun a S => ∃ (w_4 : List Bool),K_6 w_4 = some r ∧ a = mkS 38 [(4,.ptr 0 0),(5,.ptr 1 0)] ∧ S = ⟨[(flat ((List.replicate 720 false).map AV.bool)),(flat (w_4.map AV.bool))],[]⟩) ?_ ?_
 ·obtain ⟨B_11,hB_12,h⟩:=loop2I h
  refine Ex.loopF (fun k a S => ∃ (y_8 : Int),∃ (w_9 : List Bool),loop2 B_11 k y_8 w_9 = some r ∧ a = mkS 38 [(1,i6 square_2),(4,.ptr 0 0),(5,.ptr 1 0),(11,.sl (tours_1.map A_band_tour) none),(12,i6 ((tours_1.length : Nat) : Int)),(13,i6 y_8)] ∧ S = ⟨[(flat ((List.replicate 720 false).map AV.bool)),(flat (w_9.map AV.bool))],[]⟩) N ⟨_,_,Forgets.refl _ _ _,0,(List.replicate 720 false),h,rfl,rfl⟩ ?_
  rintro k a S ⟨y_8,w_9,h,rfl,rfl⟩
  cases k with
  | zero => exact (loop2Z h).elim
  | succ k =>
   replace h:=loop2S h hB_12
   refine Ex.seq (rg 1 [1,4,5,11,12,13,14] (mkS 38 [(1,i6 square_2),(4,.ptr 0 0),(5,.ptr 1 0),(11,.sl (tours_1.map A_band_tour) none),(12,i6 ((tours_1.length : Nat) : Int)),(13,i6 y_8),(14,.bool (decide (y_8 < ((tours_1.length : Nat) : Int))))]) ⟨[(flat ((List.replicate 720 false).map AV.bool)),(flat (w_9.map AV.bool))],[]⟩ ?_)
   refine Ex.seq ?_
   rcases condI h with ⟨hc_13,h⟩ | ⟨hc_13,h⟩
   ·refine Ex.condT _ rfl hc_13 ?_
    refine Ex.skip ?_
    refine Ex.seq ?_
    refine Ex.blockK ?_
    refine Ex.seq ?_
    obtain ⟨x_14,hx_14,h⟩:=bE h
    refine regH 4 [(0,.rop (C_band_tour x_14))] [1,4,5,7,11,12,13] [LGet (tours_1.map A_band_tour) y_8 7 (C_band_tour x_14)] (mkS 38 [(1,i6 square_2),(4,.ptr 0 0),(5,.ptr 1 0),(7,.ptr 2 0),(11,.sl (tours_1.map A_band_tour) none),(12,i6 ((tours_1.length : Nat) : Int)),(13,i6 y_8)]) (⟨[(flat ((List.replicate 720 false).map AV.bool)),(flat (w_9.map AV.bool)),(C_band_tour x_14)],[]⟩) (by kernel_rfl) ⟨LGet.of hx_14 rfl,trivial⟩ rfl ?_
    refine Ex.seq ?_
    obtain ⟨r_15,hr_15,h⟩:=bE h
    refine Ex.reg (rn 4 [1,4,5,11,12,13,17,20] (mkS 38 [(1,i6 square_2),(4,.ptr 0 0),(5,.ptr 1 0),(11,.sl (tours_1.map A_band_tour) none),(12,i6 ((tours_1.length : Nat) : Int)),(13,i6 y_8),(17,(A_band_tour x_14)),(20,(A_Span x_14.Band.Start))]) ⟨[(flat ((List.replicate 720 false).map AV.bool)),(flat (w_9.map AV.bool)),(C_band_tour x_14)],[]⟩ ?_)
    refine ExO.callL [] [(A_band_tour x_14),(A_Span x_14.Band.Start)] rfl rfl (a_band_tour_visits x_14 x_14.Band.Start) rfl rfl (d_band_tour_visits N x_14 x_14.Band.Start r_15 hr_15) (b_band_tour_visits _ _ _ _) rfl ?_
    refine runH 2 [(0,.eq (i6 ((r_15.length : Nat) : Int)))] [1,4,5,11,12,13,21,22,23] [AV.int .i64 (((r_15.map A_band_visit).length : Nat) : Int) = AV.int .i64 ((r_15.length : Nat) : Int)] (mkS 38 [(1,i6 square_2),(4,.ptr 0 0),(5,.ptr 1 0),(11,.sl (tours_1.map A_band_tour) none),(12,i6 ((tours_1.length : Nat) : Int)),(13,i6 y_8),(21,.sl (r_15.map A_band_visit) none),(22,i6 ((r_15.length : Nat) : Int)),(23,i6 0)]) (⟨[(flat ((List.replicate 720 false).map AV.bool)),(flat (w_9.map AV.bool)),(C_band_tour x_14)],[]⟩) (by kernel_rfl) ⟨lenM _ _,trivial⟩ ?_
    refine ExO.nil ?_
    obtain ⟨K_18,hK_19,h⟩:=letE h
    refine Ex.blockJ (fun a S => ∃ (w_16 : List Bool),K_18 w_16 = some r ∧ a = mkS 38 [(1,i6 square_2),(4,.ptr 0 0),(5,.ptr 1 0),(11,.sl (tours_1.map A_band_tour) none),(12,i6 ((tours_1.length : Nat) : Int)),(13,i6 y_8)] ∧ S = ⟨[(flat ((List.replicate 720 false).map AV.bool)),(flat (w_16.map AV.bool))],[]⟩) ?_ ?_
    ·obtain ⟨B_23,hB_24,h⟩:=loop2I h
     refine Ex.loopF (fun k a S => ∃ (y_20 : Int),∃ (w_21 : List Bool),loop2 B_23 k y_20 w_21 = some r ∧ a = mkS 38 [(1,i6 square_2),(4,.ptr 0 0),(5,.ptr 1 0),(11,.sl (tours_1.map A_band_tour) none),(12,i6 ((tours_1.length : Nat) : Int)),(13,i6 y_8),(21,.sl (r_15.map A_band_visit) none),(22,i6 ((r_15.length : Nat) : Int)),(23,i6 y_20)] ∧ S = ⟨[(flat ((List.replicate 720 false).map AV.bool)),(flat (w_21.map AV.bool))],[]⟩) N ⟨_,_,forgetA (m:=38) 2 [] [(1,i6 square_2),(4,.ptr 0 0),(5,.ptr 1 0),(11,.sl (tours_1.map A_band_tour) none),(12,i6 ((tours_1.length : Nat) : Int)),(13,i6 y_8),(21,.sl (r_15.map A_band_visit) none),(22,i6 ((r_15.length : Nat) : Int)),(23,i6 0)] [(flat ((List.replicate 720 false).map AV.bool)),(flat (w_9.map AV.bool))] [] (by simp [setAll]) (by simp) ⟨rfl,rfl,rfl,(reN (KL_band_tour _)),rfl,rfl,(reN (KL_band_visit _)),rfl,rfl,trivial⟩ (mapMC (flat_re (f:=AV.bool) (fun _ => rfl) _ _ _) (mapMC (flat_re (f:=AV.bool) (fun _ => rfl) _ _ _) rfl)) rfl (by decide),0,w_9,h,rfl,rfl⟩ ?_
     rintro k a S ⟨y_20,w_21,h,rfl,rfl⟩
     cases k with
     | zero => exact (loop2Z h).elim
     | succ k =>
      replace h:=loop2S h hB_24
      refine Ex.seq (rg 1 [1,4,5,11,12,13,21,22,23,24] (mkS 38 [(1,i6 square_2),(4,.ptr 0 0),(5,.ptr 1 0),(11,.sl (tours_1.map A_band_tour) none),(12,i6 ((tours_1.length : Nat) : Int)),(13,i6 y_8),(21,.sl (r_15.map A_band_visit) none),(22,i6 ((r_15.length : Nat) : Int)),(23,i6 y_20),(24,.bool (decide (y_20 < ((r_15.length : Nat) : Int))))]) ⟨[(flat ((List.replicate 720 false).map AV.bool)),(flat (w_21.map AV.bool))],[]⟩ ?_)
      refine Ex.seq ?_
      rcases condI h with ⟨hc_25,h⟩ | ⟨hc_25,h⟩
      ·refine Ex.condT _ rfl hc_25 ?_
       refine Ex.skip ?_
       refine Ex.seq ?_
       obtain ⟨K_28,hK_29,h⟩:=letE h
       refine Ex.blockJ (fun a S => ∃ (w_26 : List Bool),K_28 w_26 = some r ∧ a = mkS 38 [(1,i6 square_2),(4,.ptr 0 0),(5,.ptr 1 0),(11,.sl (tours_1.map A_band_tour) none),(12,i6 ((tours_1.length : Nat) : Int)),(13,i6 y_8),(21,.sl (r_15.map A_band_visit) none),(22,i6 ((r_15.length : Nat) : Int)),(23,i6 y_20)] ∧ S = ⟨[(flat ((List.replicate 720 false).map AV.bool)),(flat (w_26.map AV.bool))],[]⟩) ?_ ?_
       ·refine Ex.seq ?_
        obtain ⟨x_30,hx_30,h⟩:=bE h
        refine regH 4 [(0,.rop (C_band_visit x_30))] [1,4,5,9,11,12,13,21,22,23] [LGet (r_15.map A_band_visit) y_20 4 (C_band_visit x_30)] (mkS 38 [(1,i6 square_2),(4,.ptr 0 0),(5,.ptr 1 0),(9,.ptr 2 0),(11,.sl (tours_1.map A_band_tour) none),(12,i6 ((tours_1.length : Nat) : Int)),(13,i6 y_8),(21,.sl (r_15.map A_band_visit) none),(22,i6 ((r_15.length : Nat) : Int)),(23,i6 y_20)]) (⟨[(flat ((List.replicate 720 false).map AV.bool)),(flat (w_21.map AV.bool)),(C_band_visit x_30)],[]⟩) (by kernel_rfl) ⟨LGet.of hx_30 rfl,trivial⟩ rfl ?_
        refine Ex.seq (rg 4 [1,4,5,9,11,12,13,21,22,23,30] (mkS 38 [(1,i6 square_2),(4,.ptr 0 0),(5,.ptr 1 0),(9,.ptr 2 0),(11,.sl (tours_1.map A_band_tour) none),(12,i6 ((tours_1.length : Nat) : Int)),(13,i6 y_8),(21,.sl (r_15.map A_band_visit) none),(22,i6 ((r_15.length : Nat) : Int)),(23,i6 y_20),(30,.bool (x_30.square_ == square_2))]) ⟨[(flat ((List.replicate 720 false).map AV.bool)),(flat (w_21.map AV.bool)),(C_band_visit x_30)],[]⟩ ?_)
        rcases condI h with ⟨hc_31,h⟩ | ⟨hc_31,h⟩
        ·refine Ex.condT _ rfl hc_31 ?_
         obtain ⟨u_32,hu_32,h⟩:=bE h
         obtain ⟨r_33,hr_33,h⟩:=bE h
         refine Ex.reg ?_
         refine runH 3 [(0,.ld (.agg (flat (w_21.map AV.bool))))] [1,4,5,11,12,13,21,22,23,31,33] [takeCells (flat (w_21.map AV.bool)) 0 (some 720) = some (.agg (flat (w_21.map AV.bool)))] (mkS 38 [(1,i6 square_2),(4,.ptr 0 0),(5,.ptr 1 0),(11,.sl (tours_1.map A_band_tour) none),(12,i6 ((tours_1.length : Nat) : Int)),(13,i6 y_8),(21,.sl (r_15.map A_band_visit) none),(22,i6 ((r_15.length : Nat) : Int)),(23,i6 y_20),(31,.agg (flat (w_21.map AV.bool))),(33,(A_Span x_30.Span))]) (⟨[(flat ((List.replicate 720 false).map AV.bool)),(flat (w_21.map AV.bool)),(C_band_visit x_30)],[]⟩) (by kernel_rfl) ⟨ldArrA (f:=AV.bool) w_21 (fun _ => rfl) hu_32,trivial⟩ ?_
         refine ExO.callL [] [.agg (flat (w_21.map AV.bool)),(A_Span x_30.Span)] rfl rfl (by simp; try rfl) rfl rfl (d_band_night_with N w_21 x_30.Span r_33 hr_33) (b_band_night_with _ _ _ _) rfl ?_
         obtain ⟨u_34,hu_34,h⟩:=bE h
         refine runH 1 [(0,.stw (flat (r_33.map AV.bool)))] [1,4,5,11,12,13,21,22,23] [(.agg (flat (r_33.map AV.bool)) : AV).okCells = true ∧ (.agg (flat (r_33.map AV.bool)) : AV).cells.length = 720 ∧ 0 < 720 ∧ 0 + 720 ≤ ((flat (w_21.map AV.bool))).length ∧ layAt (flat (w_21.map AV.bool)) 0 (.agg (flat (r_33.map AV.bool)) : AV).cells = (flat (r_33.map AV.bool))] (mkS 38 [(1,i6 square_2),(4,.ptr 0 0),(5,.ptr 1 0),(11,.sl (tours_1.map A_band_tour) none),(12,i6 ((tours_1.length : Nat) : Int)),(13,i6 y_8),(21,.sl (r_15.map A_band_visit) none),(22,i6 ((r_15.length : Nat) : Int)),(23,i6 y_20)]) (⟨[(flat ((List.replicate 720 false).map AV.bool)),(flat (r_33.map AV.bool)),(C_band_visit x_30)],[]⟩) (by kernel_rfl) ⟨stArrA (f:=AV.bool) w_21 r_33 (fun _ => rfl) (by decide) hu_34,trivial⟩ ?_
         refine ExO.nil ?_
         (try simp only [reduceCtorEq,AEx.ex.injEq,Nat.reduceEqDiff,if_true,if_false])
         exact ⟨_,_,forgetA (m:=38) 2 [] [(1,i6 square_2),(4,.ptr 0 0),(5,.ptr 1 0),(11,.sl (tours_1.map A_band_tour) none),(12,i6 ((tours_1.length : Nat) : Int)),(13,i6 y_8),(21,.sl (r_15.map A_band_visit) none),(22,i6 ((r_15.length : Nat) : Int)),(23,i6 y_20)] [(flat ((List.replicate 720 false).map AV.bool)),(flat (r_33.map AV.bool))] [] (by simp [setAll]) (by simp) ⟨rfl,rfl,rfl,(reN (KL_band_tour _)),rfl,rfl,(reN (KL_band_visit _)),rfl,rfl,trivial⟩ (mapMC (flat_re (f:=AV.bool) (fun _ => rfl) _ _ _) (mapMC (flat_re (f:=AV.bool) (fun _ => rfl) _ _ _) rfl)) rfl (by decide),r_33,h,rfl,rfl⟩
        ·refine Ex.condF _ rfl hc_31 ?_
         refine Ex.skip ?_
         (try simp only [reduceCtorEq,AEx.ex.injEq,Nat.reduceEqDiff,if_true,if_false])
         exact ⟨_,_,forgetA (m:=38) 2 [] [(1,i6 square_2),(4,.ptr 0 0),(5,.ptr 1 0),(11,.sl (tours_1.map A_band_tour) none),(12,i6 ((tours_1.length : Nat) : Int)),(13,i6 y_8),(21,.sl (r_15.map A_band_visit) none),(22,i6 ((r_15.length : Nat) : Int)),(23,i6 y_20)] [(flat ((List.replicate 720 false).map AV.bool)),(flat (w_21.map AV.bool))] [] (by simp [setAll]) (by simp) ⟨rfl,rfl,rfl,(reN (KL_band_tour _)),rfl,rfl,(reN (KL_band_visit _)),rfl,rfl,trivial⟩ (mapMC (flat_re (f:=AV.bool) (fun _ => rfl) _ _ _) (mapMC (flat_re (f:=AV.bool) (fun _ => rfl) _ _ _) rfl)) rfl (by decide),w_21,h,rfl,rfl⟩
       ·rintro a S ⟨w_26,h,rfl,rfl⟩
        subst hK_29
        refine rg 2 [1,4,5,11,12,13,21,22,23] (mkS 38 [(1,i6 square_2),(4,.ptr 0 0),(5,.ptr 1 0),(11,.sl (tours_1.map A_band_tour) none),(12,i6 ((tours_1.length : Nat) : Int)),(13,i6 y_8),(21,.sl (r_15.map A_band_visit) none),(22,i6 ((r_15.length : Nat) : Int)),(23,i6 (IntKind.i64.wrap (y_20 + 1)))]) ⟨[(flat ((List.replicate 720 false).map AV.bool)),(flat (w_26.map AV.bool))],[]⟩ ?_
        dsimp only
        exact ⟨_,_,Forgets.refl _ _ _,k,Nat.lt_succ_self k,(IntKind.i64.wrap (y_20 + 1)),w_26,h,rfl,rfl⟩
      ·refine Ex.condF _ rfl hc_25 ?_
       refine Ex.exit ?_
       (try simp only [reduceCtorEq,AEx.ex.injEq,Nat.reduceEqDiff,if_true,if_false])
       exact ⟨_,_,forgetK [1,4,5,11,12,13],w_21,h,rfl,rfl⟩
    ·rintro a S ⟨w_16,h,rfl,rfl⟩
     subst hK_19
     refine rg 2 [1,4,5,11,12,13] (mkS 38 [(1,i6 square_2),(4,.ptr 0 0),(5,.ptr 1 0),(11,.sl (tours_1.map A_band_tour) none),(12,i6 ((tours_1.length : Nat) : Int)),(13,i6 (IntKind.i64.wrap (y_8 + 1)))]) ⟨[(flat ((List.replicate 720 false).map AV.bool)),(flat (w_16.map AV.bool))],[]⟩ ?_
     dsimp only
     exact ⟨_,_,Forgets.refl _ _ _,k,Nat.lt_succ_self k,(IntKind.i64.wrap (y_8 + 1)),w_16,h,rfl,rfl⟩
   ·refine Ex.condF _ rfl hc_13 ?_
    refine Ex.exit ?_
    (try simp only [reduceCtorEq,AEx.ex.injEq,Nat.reduceEqDiff,if_true,if_false])
    exact ⟨_,_,forgetK [4,5],w_9,h,rfl,rfl⟩
 ·rintro a S ⟨w_4,h,rfl,rfl⟩
  subst hK_7
  refine Ex.seq ?_
  obtain ⟨u_35,hu_35,h⟩:=bE h
  obtain ⟨u_36,hu_36,h⟩:=bE h
  refine regH 2 [(0,.ld (.agg (flat (w_4.map AV.bool)))),(1,.stw (flat (w_4.map AV.bool)))] [4] [takeCells (flat (w_4.map AV.bool)) 0 (some 720) = some (.agg (flat (w_4.map AV.bool))),(.agg (flat (w_4.map AV.bool)) : AV).okCells = true ∧ (.agg (flat (w_4.map AV.bool)) : AV).cells.length = 720 ∧ 0 < 720 ∧ 0 + 720 ≤ ((flat ((List.replicate 720 false).map AV.bool))).length ∧ layAt (flat ((List.replicate 720 false).map AV.bool)) 0 (.agg (flat (w_4.map AV.bool)) : AV).cells = (flat (w_4.map AV.bool))] (mkS 38 [(4,.ptr 0 0)]) (⟨[(flat (w_4.map AV.bool)),(flat (w_4.map AV.bool))],[]⟩) (by kernel_rfl) ⟨ldArrA (f:=AV.bool) w_4 (fun _ => rfl) hu_35,stArrA (f:=AV.bool) (List.replicate 720 false) w_4 (fun _ => rfl) (by decide) hu_36,trivial⟩ rfl ?_
  refine Ex.ret ?_
  obtain ⟨u_37,hu_37,h⟩:=bE h
  obtain rfl:=sJ h
  exact ⟨.inr rfl,.agg (flat (w_4.map AV.bool)),evResArr (f:=AV.bool) rfl rfl (fun _ => rfl) hu_37,rfl,fadeArr (f:=AV.bool) (fun _ => rfl) _,by kernel_rfl⟩
def p_band_night_sleep (N : Nat) (n_1 : (List Bool)) : Option (Int × Int):=((lenI n_1 720).bind fun u_2 => (letJ (fun (from_3 : Int) (many_4 : Int) => some (from_3,many_4)) (fun k_5 => (loop4 (fun rec_12 (from_8 : Int) (many_9 : Int) (run_10 : Int) (y_11 : Int) => (bif (decide (y_11 < 720)) then (letJ (fun (from_16 : Int) (many_17 : Int) (run_18 : Int) => (rec_12 from_16 many_17 run_18 (IntKind.i64.wrap (y_11 + 1)))) (fun k_19 => ((getA n_1 y_11 720).bind fun x_22 => (letJ (fun (run_23 : Int) => (bif (decide (run_23 > many_9)) then (k_19 (IntKind.i64.wrap ((IntKind.i64.wrap (y_11 - run_23)) + 1)) run_23 run_23) else (k_19 from_8 many_9 run_23))) (fun k_24 => (bif x_22 then (k_24 0) else (k_24 (IntKind.i64.wrap (run_10 + 1))))))))) else (k_5 from_8 many_9))) N 0 0 0 0))))
def v_band_night_sleep (r : Int × Int) : AV:=.tup [i6 r.1,i6 r.2]
attribute [local simp] v_band_night_sleep
theorem b_band_night_sleep (r : Int × Int) (n n2 m : Nat) : back n n2 m (v_band_night_sleep r) = some (v_band_night_sleep r):=by simp
theorem d_band_night_sleep (N : Nat) (n_1 : (List Bool)) (r : Int × Int) (h : p_band_night_sleep N n_1 = some r) : Does Tryd.prog 24 [.agg (flat (n_1.map AV.bool))] [] fun v c => v = v_band_night_sleep r ∧ c = []:=by
 unfold p_band_night_sleep at h
 refine Does.ofL comp24 _ _ rfl rfl ?_
 refine Ex.seq (rg 3 [1,2,3] (mkS 26 [(1,.ptr 0 0),(2,i6 0),(3,i6 0)]) ⟨[(flat (n_1.map AV.bool))],[]⟩ ?_)
 refine Ex.seq (rg 1 [1,2,3,4] (mkS 26 [(1,.ptr 0 0),(2,i6 0),(3,i6 0),(4,i6 0)]) ⟨[(flat (n_1.map AV.bool))],[]⟩ ?_)
 refine Ex.seq (Ex.seq ?_)
 obtain ⟨u_2,hu_2,h⟩:=bE h
 refine regH 2 [(0,.ld (.agg (flat (n_1.map AV.bool))))] [2,3,4,7,8] [takeCells (flat (n_1.map AV.bool)) 0 (some 720) = some (.agg (flat (n_1.map AV.bool)))] (mkS 26 [(2,i6 0),(3,i6 0),(4,i6 0),(7,.agg (flat (n_1.map AV.bool))),(8,i6 0)]) (⟨[(flat (n_1.map AV.bool))],[]⟩) (by kernel_rfl) ⟨ldArrA (f:=AV.bool) n_1 (fun _ => rfl) hu_2,trivial⟩ rfl ?_
 obtain ⟨K_6,hK_7,h⟩:=letE h
 refine Ex.blockJ (fun a S => ∃ (from_3 : Int),∃ (many_4 : Int),K_6 from_3 many_4 = some r ∧ a = mkS 26 [(2,i6 from_3),(3,i6 many_4)] ∧ S = ⟨[],[]⟩) ?_ ?_
 ·obtain ⟨B_13,hB_14,h⟩:=loop4I h
  refine Ex.loopF (fun k a S => ∃ (from_8 : Int),∃ (many_9 : Int),∃ (run_10 : Int),∃ (y_11 : Int),loop4 B_13 k from_8 many_9 run_10 y_11 = some r ∧ a = mkS 26 [(2,i6 from_8),(3,i6 many_9),(4,i6 run_10),(7,.agg (flat (n_1.map AV.bool))),(8,i6 y_11)] ∧ S = ⟨[],[]⟩) N ⟨_,_,forgetA (m:=26) 0 [] [(2,i6 0),(3,i6 0),(4,i6 0),(7,.agg (flat (n_1.map AV.bool))),(8,i6 0)] [] [] (by simp [setAll]) (by simp) ⟨rfl,rfl,rfl,(reArr (f:=AV.bool) (fun _ => rfl) _),rfl,trivial⟩ (by simp) rfl (by decide),0,0,0,0,h,rfl,rfl⟩ ?_
  rintro k a S ⟨from_8,many_9,run_10,y_11,h,rfl,rfl⟩
  cases k with
  | zero => exact (loop4Z h).elim
  | succ k =>
   replace h:=loop4S h hB_14
   refine Ex.seq (rg 1 [2,3,4,7,8,9] (mkS 26 [(2,i6 from_8),(3,i6 many_9),(4,i6 run_10),(7,.agg (flat (n_1.map AV.bool))),(8,i6 y_11),(9,.bool (decide (y_11 < 720)))]) ⟨[],[]⟩ ?_)
   refine Ex.seq ?_
   rcases condI h with ⟨hc_15,h⟩ | ⟨hc_15,h⟩
   ·refine Ex.condT _ rfl hc_15 ?_
    refine Ex.skip ?_
    refine Ex.seq ?_
    obtain ⟨K_20,hK_21,h⟩:=letE h
    refine Ex.blockJ (fun a S => ∃ (from_16 : Int),∃ (many_17 : Int),∃ (run_18 : Int),K_20 from_16 many_17 run_18 = some r ∧ a = mkS 26 [(2,i6 from_16),(3,i6 many_17),(4,i6 run_18),(7,.agg (flat (n_1.map AV.bool))),(8,i6 y_11)] ∧ S = ⟨[],[]⟩) ?_ ?_
    ·refine Ex.seq ?_
     obtain ⟨x_22,hx_22,h⟩:=bE h
     refine regH 4 [(1,.ax (.bool x_22))] [2,3,4,5,6,7,8] [(0 ≤ y_11 ∧ y_11 < ((720 : Nat) : Int)) ∧ takeCells (flat (n_1.map AV.bool)) (Int.toNat y_11 * 1) none = some (.bool x_22)] (mkS 26 [(2,i6 from_8),(3,i6 many_9),(4,i6 run_10),(5,i6 y_11),(6,.bool x_22),(7,.agg (flat (n_1.map AV.bool))),(8,i6 y_11)]) (⟨[],[]⟩) (by kernel_rfl) ⟨axArrA (f:=AV.bool) n_1 (fun _ => rfl) hx_22,trivial⟩ rfl ?_
     refine Ex.seq (rg 3 [2,3,4,5,6,7,8] (mkS 26 [(2,i6 from_8),(3,i6 many_9),(4,i6 (IntKind.i64.wrap (run_10 + 1))),(5,i6 y_11),(6,.bool x_22),(7,.agg (flat (n_1.map AV.bool))),(8,i6 y_11)]) ⟨[],[]⟩ ?_)
     obtain ⟨K_25,hK_26,h⟩:=letE h
     refine Ex.seqJ (fun a S => ∃ (run_23 : Int),K_25 run_23 = some r ∧ a = mkS 26 [(2,i6 from_8),(3,i6 many_9),(4,i6 run_23),(5,i6 y_11),(7,.agg (flat (n_1.map AV.bool))),(8,i6 y_11)] ∧ S = ⟨[],[]⟩) ?_ ?_
     ·refine Ex.seq (rg 1 [2,3,4,5,7,8,14] (mkS 26 [(2,i6 from_8),(3,i6 many_9),(4,i6 (IntKind.i64.wrap (run_10 + 1))),(5,i6 y_11),(7,.agg (flat (n_1.map AV.bool))),(8,i6 y_11),(14,.bool x_22)]) ⟨[],[]⟩ ?_)
      rcases condI h with ⟨hc_27,h⟩ | ⟨hc_27,h⟩
      ·refine Ex.condT _ rfl hc_27 ?_
       refine rg 1 [2,3,4,5,7,8] (mkS 26 [(2,i6 from_8),(3,i6 many_9),(4,i6 0),(5,i6 y_11),(7,.agg (flat (n_1.map AV.bool))),(8,i6 y_11)]) ⟨[],[]⟩ ?_
       (try simp only [reduceCtorEq,AEx.ex.injEq,Nat.reduceEqDiff,if_true,if_false])
       exact ⟨_,_,Forgets.refl _ _ _,0,h,rfl,rfl⟩
      ·refine Ex.condF _ rfl hc_27 ?_
       refine Ex.skip ?_
       (try simp only [reduceCtorEq,AEx.ex.injEq,Nat.reduceEqDiff,if_true,if_false])
       exact ⟨_,_,forgetK [2,3,4,5,7,8],(IntKind.i64.wrap (run_10 + 1)),h,rfl,rfl⟩
     ·rintro a S ⟨run_23,h,rfl,rfl⟩
      subst hK_26
      refine Ex.seq (rg 3 [2,3,4,5,7,8,17] (mkS 26 [(2,i6 from_8),(3,i6 many_9),(4,i6 run_23),(5,i6 y_11),(7,.agg (flat (n_1.map AV.bool))),(8,i6 y_11),(17,.bool (decide (run_23 > many_9)))]) ⟨[],[]⟩ ?_)
      rcases condI h with ⟨hc_28,h⟩ | ⟨hc_28,h⟩
      ·refine Ex.condT _ rfl hc_28 ?_
       refine rg 7 [2,3,4,7,8] (mkS 26 [(2,i6 (IntKind.i64.wrap ((IntKind.i64.wrap (y_11 - run_23)) + 1))),(3,i6 run_23),(4,i6 run_23),(7,.agg (flat (n_1.map AV.bool))),(8,i6 y_11)]) ⟨[],[]⟩ ?_
       (try simp only [reduceCtorEq,AEx.ex.injEq,Nat.reduceEqDiff,if_true,if_false])
       exact ⟨_,_,Forgets.refl _ _ _,(IntKind.i64.wrap ((IntKind.i64.wrap (y_11 - run_23)) + 1)),run_23,run_23,h,rfl,rfl⟩
      ·refine Ex.condF _ rfl hc_28 ?_
       refine Ex.skip ?_
       (try simp only [reduceCtorEq,AEx.ex.injEq,Nat.reduceEqDiff,if_true,if_false])
       exact ⟨_,_,forgetK [2,3,4,7,8],from_8,many_9,run_23,h,rfl,rfl⟩
    ·rintro a S ⟨from_16,many_17,run_18,h,rfl,rfl⟩
     subst hK_21
     refine rg 2 [2,3,4,7,8] (mkS 26 [(2,i6 from_16),(3,i6 many_17),(4,i6 run_18),(7,.agg (flat (n_1.map AV.bool))),(8,i6 (IntKind.i64.wrap (y_11 + 1)))]) ⟨[],[]⟩ ?_
     dsimp only
     exact ⟨_,_,Forgets.refl _ _ _,k,Nat.lt_succ_self k,from_16,many_17,run_18,(IntKind.i64.wrap (y_11 + 1)),h,rfl,rfl⟩
   ·refine Ex.condF _ rfl hc_15 ?_
    refine Ex.exit ?_
    (try simp only [reduceCtorEq,AEx.ex.injEq,Nat.reduceEqDiff,if_true,if_false])
    exact ⟨_,_,forgetK [2,3],from_8,many_9,h,rfl,rfl⟩
 ·rintro a S ⟨from_3,many_4,h,rfl,rfl⟩
  subst hK_7
  refine Ex.seq (rg 4 [2,3] (mkS 26 [(2,i6 from_3),(3,i6 many_4)]) ⟨[],[]⟩ ?_)
  refine Ex.ret ?_
  obtain rfl:=sJ h
  exact rt (.tup [i6 from_3,i6 many_4])
def p_band_Sleep (N : Nat) (c_1 : T_City) (l_2 : (List T_Band)) (square_3 : Int) : Option (Int × Int × Int):=((p_band_toursOf N c_1 l_2).bind fun r_4 => (bif (r_4.2 != 0) then some (0,0,r_4.2) else ((p_band_within N square_3 0 (IntKind.i64.wrap (((c_1.Town.Rooms.length : Nat) : Int) - 1))).bind fun r_6 => (bif (!r_6) then some (0,0,7) else ((p_band_nightOf N r_4.1 square_3).bind fun r_8 => ((p_band_night_sleep N r_8).bind fun r_9 => some (r_9.1,r_9.2,0)))))))
def v_band_Sleep (r : Int × Int × Int) : AV:=.tup [i6 r.1,i6 r.2.1,i6 r.2.2]
attribute [local simp] v_band_Sleep
theorem a_band_Sleep (c_1 : T_City) (l_2 : (List T_Band)) (square_3 : Int) : [(A_City c_1),.sl (l_2.map A_Band) none,i6 square_3].mapM (ren []) = some [(A_City c_1),.sl (l_2.map A_Band) none,i6 square_3]:=by simp
theorem b_band_Sleep (r : Int × Int × Int) (n n2 m : Nat) : back n n2 m (v_band_Sleep r) = some (v_band_Sleep r):=by simp
theorem d_band_Sleep (N : Nat) (c_1 : T_City) (l_2 : (List T_Band)) (square_3 : Int) (r : Int × Int × Int) (h : p_band_Sleep N c_1 l_2 square_3 = some r) : Does Tryd.prog 11 [(A_City c_1),.sl (l_2.map A_Band) none,i6 square_3] [] fun v c => v = v_band_Sleep r ∧ c = []:=by
 unfold p_band_Sleep at h
 refine Does.ofL comp11 _ _ rfl rfl ?_
 refine Ex.seq (rg 4 [1,2,3] (mkS 38 [(1,.sl (l_2.map A_Band) none),(2,i6 square_3),(3,.ptr 0 0)]) ⟨[(C_City c_1)],[]⟩ ?_)
 refine Ex.seq ?_
 obtain ⟨r_4,hr_4,h⟩:=bE h
 refine Ex.reg (rn 2 [2,3,11,12] (mkS 38 [(2,i6 square_3),(3,.ptr 0 0),(11,(A_City c_1)),(12,.sl (l_2.map A_Band) none)]) ⟨[(C_City c_1)],[]⟩ ?_)
 refine ExO.callL [] [(A_City c_1),.sl (l_2.map A_Band) none] rfl rfl (a_band_toursOf c_1 l_2) rfl rfl (d_band_toursOf N c_1 l_2 r_4 hr_4) (b_band_toursOf _ _ _ _) rfl ?_
 refine rn 5 [2,3,8,9] (mkS 38 [(2,i6 square_3),(3,.ptr 0 0),(8,i6 r_4.2),(9,.sl (r_4.1.map A_band_tour) none)]) ⟨[(C_City c_1)],[]⟩ ?_
 refine ExO.nil ?_
 refine Ex.seq ?_
 refine Ex.blockK ?_
 refine Ex.seq (rg 3 [2,3,8,9,16] (mkS 38 [(2,i6 square_3),(3,.ptr 0 0),(8,i6 r_4.2),(9,.sl (r_4.1.map A_band_tour) none),(16,.bool (r_4.2 != 0))]) ⟨[(C_City c_1)],[]⟩ ?_)
 rcases condI h with ⟨hc_5,h⟩ | ⟨hc_5,h⟩
 ·refine Ex.condT _ rfl hc_5 ?_
  refine Ex.seq (rg 4 [6,7,8] (mkS 38 [(6,i6 0),(7,i6 0),(8,i6 r_4.2)]) ⟨[(C_City c_1)],[]⟩ ?_)
  refine Ex.ret ?_
  obtain rfl:=sJ h
  exact rt (.tup [i6 0,i6 0,i6 r_4.2])
 ·refine Ex.condF _ rfl hc_5 ?_
  refine Ex.seq ?_
  obtain ⟨r_6,hr_6,h⟩:=bE h
  refine Ex.reg ?_
  refine runH 6 [(4,.eq (i6 ((c_1.Town.Rooms.length : Nat) : Int)))] [2,9,21,26] [AV.int .i64 (((c_1.Town.Rooms.map (AV.int .i64)).length : Nat) : Int) = AV.int .i64 ((c_1.Town.Rooms.length : Nat) : Int)] (mkS 38 [(2,i6 square_3),(9,.sl (r_4.1.map A_band_tour) none),(21,i6 square_3),(26,i6 (IntKind.i64.wrap (((c_1.Town.Rooms.length : Nat) : Int) - 1)))]) (⟨[(C_City c_1)],[]⟩) (by kernel_rfl) ⟨lenM _ _,trivial⟩ ?_
  refine ExO.callL [] [i6 square_3,i6 0,i6 (IntKind.i64.wrap (((c_1.Town.Rooms.length : Nat) : Int) - 1))] rfl rfl (a_band_within square_3 0 (IntKind.i64.wrap (((c_1.Town.Rooms.length : Nat) : Int) - 1))) rfl rfl (d_band_within N square_3 0 (IntKind.i64.wrap (((c_1.Town.Rooms.length : Nat) : Int) - 1)) r_6 hr_6) (b_band_within _ _ _ _) rfl ?_
  refine rn 2 [2,9,20] (mkS 38 [(2,i6 square_3),(9,.sl (r_4.1.map A_band_tour) none),(20,.bool (!r_6))]) ⟨[(C_City c_1)],[]⟩ ?_
  refine ExO.nil ?_
  rcases condI h with ⟨hc_7,h⟩ | ⟨hc_7,h⟩
  ·refine Ex.condT _ rfl hc_7 ?_
   refine Ex.seq (rg 3 [6,7,8] (mkS 38 [(6,i6 0),(7,i6 0),(8,i6 7)]) ⟨[(C_City c_1)],[]⟩ ?_)
   refine Ex.ret ?_
   obtain rfl:=sJ h
   exact rt (.tup [i6 0,i6 0,i6 7])
  ·refine Ex.condF _ rfl hc_7 ?_
   refine Ex.skip ?_
   refine Ex.seq ?_
   obtain ⟨r_8,hr_8,h⟩:=bE h
   refine Ex.reg (rn 2 [30,31] (mkS 38 [(30,.sl (r_4.1.map A_band_tour) none),(31,i6 square_3)]) ⟨[(C_City c_1)],[]⟩ ?_)
   refine ExO.callL [] [.sl (r_4.1.map A_band_tour) none,i6 square_3] rfl rfl (a_band_nightOf r_4.1 square_3) rfl rfl (d_band_nightOf N r_4.1 square_3 r_8 hr_8) (b_band_nightOf _ _ _ _) rfl ?_
   obtain ⟨r_9,hr_9,h⟩:=bE h
   refine ExO.callL [] [.agg (flat (r_8.map AV.bool))] rfl rfl (by simp; try rfl) rfl rfl (d_band_night_sleep N r_8 r_9 hr_9) (b_band_night_sleep _ _ _ _) rfl ?_
   refine rn 5 [6,7] (mkS 38 [(6,i6 r_9.1),(7,i6 r_9.2)]) ⟨[(C_City c_1)],[]⟩ ?_
   refine ExO.nil ?_
   refine Ex.seq (rg 5 [6,7,8] (mkS 38 [(6,i6 r_9.1),(7,i6 r_9.2),(8,i6 0)]) ⟨[(C_City c_1)],[]⟩ ?_)
   refine Ex.ret ?_
   obtain rfl:=sJ h
   exact rt (.tup [i6 r_9.1,i6 r_9.2,i6 0])
def p_band_choice_with (N : Nat) (x_1 : Int) (band_2 : Int) : Option (Int):=((nnI band_2).bind fun u_3 => ((some (IntKind.u64.wrap (((BitVec.ofInt (IntKind.bits .u64) x_1 ||| BitVec.ofInt (IntKind.bits .u64) (IntKind.u64.wrap (1 * ((2 : Int) ^ (min (Int.toNat band_2) (IntKind.bits .u64)))))).toNat : Nat) : Int))).bind fun n_4 => some n_4))
def v_band_choice_with (r : Int) : AV:=.int .u64 r
attribute [local simp] v_band_choice_with
theorem a_band_choice_with (x_1 : Int) (band_2 : Int) : [.int .u64 x_1,i6 band_2].mapM (ren []) = some [.int .u64 x_1,i6 band_2]:=by simp
theorem b_band_choice_with (r : Int) (n n2 m : Nat) : back n n2 m (v_band_choice_with r) = some (v_band_choice_with r):=by simp
theorem d_band_choice_with (N : Nat) (x_1 : Int) (band_2 : Int) (r : Int) (h : p_band_choice_with N x_1 band_2 = some r) : Does Tryd.prog 42 [.int .u64 x_1,i6 band_2] [] fun v c => v = v_band_choice_with r ∧ c = []:=by
 unfold p_band_choice_with at h
 refine Does.ofL comp42 _ _ rfl rfl ?_
 refine Ex.seq (rg 1 [0,1] (mkS 9 [(0,.int .u64 x_1),(1,i6 band_2)]) ⟨[],[]⟩ ?_)
 refine Ex.seq ?_
 obtain ⟨u_3,hu_3,h⟩:=bE h
 obtain ⟨n_4,hn_4,h⟩:=bE h
 refine regH 5 [(2,.bin (.int .u64 (IntKind.u64.wrap (1 * ((2 : Int) ^ (min (Int.toNat band_2) (IntKind.bits .u64))))))),(3,.eq (.int .u64 n_4))] [4] [binA .shl (.int .u64 1) (i6 band_2) = some (.int .u64 (IntKind.u64.wrap (1 * ((2 : Int) ^ (min (Int.toNat band_2) (IntKind.bits .u64)))))),AV.int .u64 (IntKind.u64.wrap (((BitVec.ofInt (IntKind.bits .u64) x_1 ||| BitVec.ofInt (IntKind.bits .u64) (IntKind.u64.wrap (1 * ((2 : Int) ^ (min (Int.toNat band_2) (IntKind.bits .u64)))))).toNat : Nat) : Int)) = AV.int .u64 n_4] (mkS 9 [(4,.int .u64 n_4)]) (⟨[],[]⟩) (by kernel_rfl) ⟨binSl hu_3,congrArg (AV.int .u64) (Option.some.inj hn_4),trivial⟩ rfl ?_
 refine Ex.ret ?_
 obtain rfl:=sJ h
 exact rt (.int .u64 n_4)
structure T_band_requests where
 city_ : T_City
 tours_ : (List T_band_tour)
 crosses_ : (List Int)
 deriving Inhabited
def C_band_requests (x : T_band_requests) : List AV:=[.sl (x.city_.Town.Rooms.map (AV.int .i64)) none,.sl (x.city_.Town.Streets.map A_Street) none,.sl (x.city_.Town.Groups.map A_Group) none,i6 x.city_.Town.Steps,i6 x.city_.Break,.sl (x.city_.Sleep.map (AV.int .i64)) none,.sl (x.tours_.map A_band_tour) none,.sl (x.crosses_.map (AV.int .u64)) none]
attribute [local simp] C_band_requests
def A_band_requests (x : T_band_requests) : AV:=.agg (C_band_requests x)
attribute [local simp] A_band_requests
theorem KC_band_requests (x : T_band_requests) : cleanL (C_band_requests x) = true:=by simp
theorem KA_band_requests (x : T_band_requests) : (A_band_requests x).clean = true:=KC_band_requests x
theorem KL_band_requests (l : List T_band_requests) : cleanL (l.map A_band_requests) = true:=cleanM KA_band_requests l
attribute [local simp] KL_band_requests
theorem KB_band_requests (x : T_band_requests) (n : Nat) (σ : List Nat) : (C_band_requests x).mapM (re n σ) = some (C_band_requests x):=by simp
attribute [local simp] KB_band_requests
def p_band_requestsOf (N : Nat) (c_1 : T_City) (tours_2 : (List T_band_tour)) : Option (T_band_requests):=((mkI ((tours_2.length : Nat) : Int)).bind fun k_3 => (letJ (fun (w_4 : List Int) => ((lenI w_4 k_3).bind fun u_39 => some (⟨c_1,tours_2,w_4⟩ : T_band_requests))) (fun k_5 => (loop2 (fun rec_10 (y_8 : Int) (w_9 : List Int) => (bif (decide (y_8 < ((tours_2.length : Nat) : Int))) then ((getI tours_2 y_8).bind fun x_14 => ((partI tours_2 0 y_8).bind fun l_15 => (letJ (fun (w_16 : List Int) => (rec_10 (IntKind.i64.wrap (y_8 + 1)) w_16)) (fun k_17 => (loop2 (fun rec_22 (y_20 : Int) (w_21 : List Int) => (bif (decide (y_20 < ((l_15.length : Nat) : Int))) then (letJ (fun (w_26 : List Int) => (rec_22 (IntKind.i64.wrap (y_20 + 1)) w_26)) (fun k_27 => ((getI l_15 y_20).bind fun x_30 => ((p_band_verdict N x_14 x_30 c_1.Break).bind fun r_31 => (bif (r_31 != 2) then ((idxI y_8 k_3).bind fun u_33 => ((w_21[Int.toNat y_8]?).bind fun x_34 => ((p_band_choice_with N x_34 y_20).bind fun r_35 => ((idxI y_8 k_3).bind fun u_36 => ((setI w_21 y_8 (fun (y_37 : Int) => r_35)).bind fun z_38 => (k_27 z_38)))))) else (k_27 w_21)))))) else (k_17 w_21))) N 0 w_9))))) else (k_5 w_9))) N 0 (List.replicate k_3 0)))))
def v_band_requestsOf (r : T_band_requests) : AV:=(A_band_requests r)
attribute [local simp] v_band_requestsOf
theorem a_band_requestsOf (c_1 : T_City) (tours_2 : (List T_band_tour)) : [(A_City c_1),.sl (tours_2.map A_band_tour) none].mapM (ren []) = some [(A_City c_1),.sl (tours_2.map A_band_tour) none]:=by simp
theorem b_band_requestsOf (r : T_band_requests) (n n2 m : Nat) : back n n2 m (v_band_requestsOf r) = some (v_band_requestsOf r):=by simp
theorem d_band_requestsOf (N : Nat) (c_1 : T_City) (tours_2 : (List T_band_tour)) (r : T_band_requests) (h : p_band_requestsOf N c_1 tours_2 = some r) : Does Tryd.prog 40 [(A_City c_1),.sl (tours_2.map A_band_tour) none] [] fun v c => v = v_band_requestsOf r ∧ c = []:=by
 unfold p_band_requestsOf at h
 refine Does.ofL comp40 _ _ rfl rfl ?_
 refine Ex.seq (rg 2 [1,2,4] (mkS 50 [(1,.sl (tours_2.map A_band_tour) none),(2,.ptr 0 0),(4,.ptr 1 0)]) ⟨[(C_City c_1),[.nils,.nils,.nils,i6 0,i6 0,.nils,.nils,.nils]],[]⟩ ?_)
 refine Ex.seq ?_
 obtain ⟨k_3,hk_3,h⟩:=bE h
 refine regH 4 [(1,.eq (i6 ((tours_2.length : Nat) : Int))),(2,.mk (flat ((List.replicate k_3 0).map (AV.int .u64))) k_3)] [1,2,4,5] [AV.int .i64 (((tours_2.map A_band_tour).length : Nat) : Int) = AV.int .i64 ((tours_2.length : Nat) : Int),((tours_2.length : Nat) : Int) = ((k_3 : Nat) : Int) ∧ k_3 ≤ 65536 ∧ rep [.int .u64 0] k_3 = (flat ((List.replicate k_3 0).map (AV.int .u64)))] (mkS 50 [(1,.sl (tours_2.map A_band_tour) none),(2,.ptr 0 0),(4,.ptr 1 0),(5,.ms 2 k_3 1)]) (⟨[(C_City c_1),[.nils,.nils,.nils,i6 0,i6 0,.nils,.nils,.nils],(flat ((List.replicate k_3 0).map (AV.int .u64)))],[]⟩) (by kernel_rfl) ⟨lenM _ _,mk_of (f:=(AV.int .u64)) 0 rfl hk_3,trivial⟩ rfl ?_
 refine Ex.seq (Ex.seq ?_)
 refine regH 3 [(1,.eq (i6 ((tours_2.length : Nat) : Int)))] [1,2,4,5,13,14,15] [AV.int .i64 (((tours_2.map A_band_tour).length : Nat) : Int) = AV.int .i64 ((tours_2.length : Nat) : Int)] (mkS 50 [(1,.sl (tours_2.map A_band_tour) none),(2,.ptr 0 0),(4,.ptr 1 0),(5,.ms 2 k_3 1),(13,.sl (tours_2.map A_band_tour) none),(14,i6 ((tours_2.length : Nat) : Int)),(15,i6 0)]) (⟨[(C_City c_1),[.nils,.nils,.nils,i6 0,i6 0,.nils,.nils,.nils],(flat ((List.replicate k_3 0).map (AV.int .u64)))],[]⟩) (by kernel_rfl) ⟨lenM _ _,trivial⟩ rfl ?_
 obtain ⟨K_6,hK_7,h⟩:=letE h
 refine Ex.blockJ (fun a S => ∃ (w_4 : List Int),K_6 w_4 = some r ∧ a = mkS 50 [(1,.sl (tours_2.map A_band_tour) none),(2,.ptr 0 0),(4,.ptr 1 0),(5,.ms 2 k_3 1)] ∧ S = ⟨[(C_City c_1),[.nils,.nils,.nils,i6 0,i6 0,.nils,.nils,.nils],(flat (w_4.map (AV.int .u64)))],[]⟩) ?_ ?_
 ·obtain ⟨B_11,hB_12,h⟩:=loop2I h
  refine Ex.loopF (fun k a S => ∃ (y_8 : Int),∃ (w_9 : List Int),loop2 B_11 k y_8 w_9 = some r ∧ a = mkS 50 [(1,.sl (tours_2.map A_band_tour) none),(2,.ptr 0 0),(4,.ptr 1 0),(5,.ms 2 k_3 1),(13,.sl (tours_2.map A_band_tour) none),(14,i6 ((tours_2.length : Nat) : Int)),(15,i6 y_8)] ∧ S = ⟨[(C_City c_1),[.nils,.nils,.nils,i6 0,i6 0,.nils,.nils,.nils],(flat (w_9.map (AV.int .u64)))],[]⟩) N ⟨_,_,Forgets.refl _ _ _,0,(List.replicate k_3 0),h,rfl,rfl⟩ ?_
  rintro k a S ⟨y_8,w_9,h,rfl,rfl⟩
  cases k with
  | zero => exact (loop2Z h).elim
  | succ k =>
   replace h:=loop2S h hB_12
   refine Ex.seq (rg 1 [1,2,4,5,13,14,15,16] (mkS 50 [(1,.sl (tours_2.map A_band_tour) none),(2,.ptr 0 0),(4,.ptr 1 0),(5,.ms 2 k_3 1),(13,.sl (tours_2.map A_band_tour) none),(14,i6 ((tours_2.length : Nat) : Int)),(15,i6 y_8),(16,.bool (decide (y_8 < ((tours_2.length : Nat) : Int))))]) ⟨[(C_City c_1),[.nils,.nils,.nils,i6 0,i6 0,.nils,.nils,.nils],(flat (w_9.map (AV.int .u64)))],[]⟩ ?_)
   refine Ex.seq ?_
   rcases condI h with ⟨hc_13,h⟩ | ⟨hc_13,h⟩
   ·refine Ex.condT _ rfl hc_13 ?_
    refine Ex.skip ?_
    refine Ex.seq ?_
    refine Ex.blockK ?_
    refine Ex.seq ?_
    obtain ⟨x_14,hx_14,h⟩:=bE h
    refine regH 6 [(1,.rop (C_band_tour x_14))] [1,2,4,5,6,7,13,14,15] [LGet (tours_2.map A_band_tour) y_8 7 (C_band_tour x_14)] (mkS 50 [(1,.sl (tours_2.map A_band_tour) none),(2,.ptr 0 0),(4,.ptr 1 0),(5,.ms 2 k_3 1),(6,i6 y_8),(7,.ptr 3 0),(13,.sl (tours_2.map A_band_tour) none),(14,i6 ((tours_2.length : Nat) : Int)),(15,i6 y_8)]) (⟨[(C_City c_1),[.nils,.nils,.nils,i6 0,i6 0,.nils,.nils,.nils],(flat (w_9.map (AV.int .u64))),(C_band_tour x_14)],[]⟩) (by kernel_rfl) ⟨LGet.of hx_14 rfl,trivial⟩ rfl ?_
    refine Ex.seq ?_
    obtain ⟨l_15,hl_15,h⟩:=bE h
    refine regH 5 [(2,.sc (l_15.map A_band_tour)),(3,.eq (i6 ((l_15.length : Nat) : Int)))] [1,2,4,5,6,7,13,14,15,22,23,24] [LSlc (tours_2.map A_band_tour) none (some y_8) 7 (l_15.map A_band_tour),AV.int .i64 (((l_15.map A_band_tour).length : Nat) : Int) = AV.int .i64 ((l_15.length : Nat) : Int)] (mkS 50 [(1,.sl (tours_2.map A_band_tour) none),(2,.ptr 0 0),(4,.ptr 1 0),(5,.ms 2 k_3 1),(6,i6 y_8),(7,.ptr 3 0),(13,.sl (tours_2.map A_band_tour) none),(14,i6 ((tours_2.length : Nat) : Int)),(15,i6 y_8),(22,.sl (l_15.map A_band_tour) none),(23,i6 ((l_15.length : Nat) : Int)),(24,i6 0)]) (⟨[(C_City c_1),[.nils,.nils,.nils,i6 0,i6 0,.nils,.nils,.nils],(flat (w_9.map (AV.int .u64))),(C_band_tour x_14)],[]⟩) (by kernel_rfl) ⟨partI.ofR (f:=A_band_tour) (fun _ => rfl) hl_15,lenM _ _,trivial⟩ rfl ?_
    obtain ⟨K_18,hK_19,h⟩:=letE h
    refine Ex.blockJ (fun a S => ∃ (w_16 : List Int),K_18 w_16 = some r ∧ a = mkS 50 [(1,.sl (tours_2.map A_band_tour) none),(2,.ptr 0 0),(4,.ptr 1 0),(5,.ms 2 k_3 1),(13,.sl (tours_2.map A_band_tour) none),(14,i6 ((tours_2.length : Nat) : Int)),(15,i6 y_8)] ∧ S = ⟨[(C_City c_1),[.nils,.nils,.nils,i6 0,i6 0,.nils,.nils,.nils],(flat (w_16.map (AV.int .u64)))],[]⟩) ?_ ?_
    ·obtain ⟨B_23,hB_24,h⟩:=loop2I h
     refine Ex.loopF (fun k a S => ∃ (y_20 : Int),∃ (w_21 : List Int),loop2 B_23 k y_20 w_21 = some r ∧ a = mkS 50 [(1,.sl (tours_2.map A_band_tour) none),(2,.ptr 0 0),(4,.ptr 1 0),(5,.ms 2 k_3 1),(6,i6 y_8),(7,.ptr 3 0),(13,.sl (tours_2.map A_band_tour) none),(14,i6 ((tours_2.length : Nat) : Int)),(15,i6 y_8),(22,.sl (l_15.map A_band_tour) none),(23,i6 ((l_15.length : Nat) : Int)),(24,i6 y_20)] ∧ S = ⟨[(C_City c_1),[.nils,.nils,.nils,i6 0,i6 0,.nils,.nils,.nils],(flat (w_21.map (AV.int .u64))),(C_band_tour x_14)],[]⟩) N ⟨_,_,Forgets.refl _ _ _,0,w_9,h,rfl,rfl⟩ ?_
     rintro k a S ⟨y_20,w_21,h,rfl,rfl⟩
     cases k with
     | zero => exact (loop2Z h).elim
     | succ k =>
      replace h:=loop2S h hB_24
      refine Ex.seq (rg 1 [1,2,4,5,6,7,13,14,15,22,23,24,25] (mkS 50 [(1,.sl (tours_2.map A_band_tour) none),(2,.ptr 0 0),(4,.ptr 1 0),(5,.ms 2 k_3 1),(6,i6 y_8),(7,.ptr 3 0),(13,.sl (tours_2.map A_band_tour) none),(14,i6 ((tours_2.length : Nat) : Int)),(15,i6 y_8),(22,.sl (l_15.map A_band_tour) none),(23,i6 ((l_15.length : Nat) : Int)),(24,i6 y_20),(25,.bool (decide (y_20 < ((l_15.length : Nat) : Int))))]) ⟨[(C_City c_1),[.nils,.nils,.nils,i6 0,i6 0,.nils,.nils,.nils],(flat (w_21.map (AV.int .u64))),(C_band_tour x_14)],[]⟩ ?_)
      refine Ex.seq ?_
      rcases condI h with ⟨hc_25,h⟩ | ⟨hc_25,h⟩
      ·refine Ex.condT _ rfl hc_25 ?_
       refine Ex.skip ?_
       refine Ex.seq ?_
       obtain ⟨K_28,hK_29,h⟩:=letE h
       refine Ex.blockJ (fun a S => ∃ (w_26 : List Int),K_28 w_26 = some r ∧ a = mkS 50 [(1,.sl (tours_2.map A_band_tour) none),(2,.ptr 0 0),(4,.ptr 1 0),(5,.ms 2 k_3 1),(6,i6 y_8),(7,.ptr 3 0),(13,.sl (tours_2.map A_band_tour) none),(14,i6 ((tours_2.length : Nat) : Int)),(15,i6 y_8),(22,.sl (l_15.map A_band_tour) none),(23,i6 ((l_15.length : Nat) : Int)),(24,i6 y_20)] ∧ S = ⟨[(C_City c_1),[.nils,.nils,.nils,i6 0,i6 0,.nils,.nils,.nils],(flat (w_26.map (AV.int .u64))),(C_band_tour x_14)],[]⟩) ?_ ?_
       ·refine Ex.seq ?_
        obtain ⟨x_30,hx_30,h⟩:=bE h
        refine regH 6 [(1,.rop (C_band_tour x_30))] [1,2,4,5,6,7,8,9,13,14,15,22,23,24] [LGet (l_15.map A_band_tour) y_20 7 (C_band_tour x_30)] (mkS 50 [(1,.sl (tours_2.map A_band_tour) none),(2,.ptr 0 0),(4,.ptr 1 0),(5,.ms 2 k_3 1),(6,i6 y_8),(7,.ptr 3 0),(8,i6 y_20),(9,.ptr 4 0),(13,.sl (tours_2.map A_band_tour) none),(14,i6 ((tours_2.length : Nat) : Int)),(15,i6 y_8),(22,.sl (l_15.map A_band_tour) none),(23,i6 ((l_15.length : Nat) : Int)),(24,i6 y_20)]) (⟨[(C_City c_1),[.nils,.nils,.nils,i6 0,i6 0,.nils,.nils,.nils],(flat (w_21.map (AV.int .u64))),(C_band_tour x_14),(C_band_tour x_30)],[]⟩) (by kernel_rfl) ⟨LGet.of hx_30 rfl,trivial⟩ rfl ?_
        refine Ex.seq ?_
        obtain ⟨r_31,hr_31,h⟩:=bE h
        refine Ex.reg (rn 4 [1,2,4,5,6,7,8,13,14,15,22,23,24,29,30,32] (mkS 50 [(1,.sl (tours_2.map A_band_tour) none),(2,.ptr 0 0),(4,.ptr 1 0),(5,.ms 2 k_3 1),(6,i6 y_8),(7,.ptr 3 0),(8,i6 y_20),(13,.sl (tours_2.map A_band_tour) none),(14,i6 ((tours_2.length : Nat) : Int)),(15,i6 y_8),(22,.sl (l_15.map A_band_tour) none),(23,i6 ((l_15.length : Nat) : Int)),(24,i6 y_20),(29,(A_band_tour x_14)),(30,(A_band_tour x_30)),(32,i6 c_1.Break)]) ⟨[(C_City c_1),[.nils,.nils,.nils,i6 0,i6 0,.nils,.nils,.nils],(flat (w_21.map (AV.int .u64))),(C_band_tour x_14),(C_band_tour x_30)],[]⟩ ?_)
        refine ExO.callL [] [(A_band_tour x_14),(A_band_tour x_30),i6 c_1.Break] rfl rfl (a_band_verdict x_14 x_30 c_1.Break) rfl rfl (d_band_verdict N x_14 x_30 c_1.Break r_31 hr_31) (b_band_verdict _ _ _ _) rfl ?_
        refine rn 1 [1,2,4,5,6,7,8,13,14,15,22,23,24,34] (mkS 50 [(1,.sl (tours_2.map A_band_tour) none),(2,.ptr 0 0),(4,.ptr 1 0),(5,.ms 2 k_3 1),(6,i6 y_8),(7,.ptr 3 0),(8,i6 y_20),(13,.sl (tours_2.map A_band_tour) none),(14,i6 ((tours_2.length : Nat) : Int)),(15,i6 y_8),(22,.sl (l_15.map A_band_tour) none),(23,i6 ((l_15.length : Nat) : Int)),(24,i6 y_20),(34,.bool (r_31 != 2))]) ⟨[(C_City c_1),[.nils,.nils,.nils,i6 0,i6 0,.nils,.nils,.nils],(flat (w_21.map (AV.int .u64))),(C_band_tour x_14),(C_band_tour x_30)],[]⟩ ?_
        refine ExO.nil ?_
        rcases condI h with ⟨hc_32,h⟩ | ⟨hc_32,h⟩
        ·refine Ex.condT _ rfl hc_32 ?_
         obtain ⟨u_33,hu_33,h⟩:=bE h
         obtain ⟨x_34,hx_34,h⟩:=bE h
         obtain ⟨r_35,hr_35,h⟩:=bE h
         refine Ex.reg ?_
         refine runH 7 [(4,.adm),(5,.ld (.int .u64 x_34))] [1,2,4,5,6,7,13,14,15,22,23,24,35,36,40,41] [0 ≤ y_8 ∧ y_8 < ((k_3 : Nat) : Int),takeCells (flat (w_21.map (AV.int .u64))) (0 + Int.toNat y_8 * 1) none = some (.int .u64 x_34)] (mkS 50 [(1,.sl (tours_2.map A_band_tour) none),(2,.ptr 0 0),(4,.ptr 1 0),(5,.ms 2 k_3 1),(6,i6 y_8),(7,.ptr 3 0),(13,.sl (tours_2.map A_band_tour) none),(14,i6 ((tours_2.length : Nat) : Int)),(15,i6 y_8),(22,.sl (l_15.map A_band_tour) none),(23,i6 ((l_15.length : Nat) : Int)),(24,i6 y_20),(35,.ms 2 k_3 1),(36,i6 y_8),(40,.int .u64 x_34),(41,i6 y_20)]) (⟨[(C_City c_1),[.nils,.nils,.nils,i6 0,i6 0,.nils,.nils,.nils],(flat (w_21.map (AV.int .u64))),(C_band_tour x_14),(C_band_tour x_30)],[]⟩) (by kernel_rfl) ⟨idxI.of hu_33,ldFl (f:=(AV.int .u64)) (s:=1) w_21 _ 0 y_8 x_34 (.int .u64 x_34) (fun _ => rfl) hx_34 rfl (by omega),trivial⟩ ?_
         refine ExO.callL [] [.int .u64 x_34,i6 y_20] rfl rfl (a_band_choice_with x_34 y_20) rfl rfl (d_band_choice_with N x_34 y_20 r_35 hr_35) (b_band_choice_with _ _ _ _) rfl ?_
         obtain ⟨u_36,hu_36,h⟩:=bE h
         obtain ⟨z_38,hz_38,h⟩:=bE h
         refine runH 2 [(0,.adm),(1,.st (flat (z_38.map (AV.int .u64))))] [1,2,4,5,6,7,13,14,15,22,23,24] [0 ≤ y_8 ∧ y_8 < ((k_3 : Nat) : Int),0 + Int.toNat y_8 * 1 + 1 ≤ ((flat (w_21.map (AV.int .u64)))).length ∧ layAt (flat (w_21.map (AV.int .u64))) (0 + Int.toNat y_8 * 1) [.int .u64 r_35] = (flat (z_38.map (AV.int .u64)))] (mkS 50 [(1,.sl (tours_2.map A_band_tour) none),(2,.ptr 0 0),(4,.ptr 1 0),(5,.ms 2 k_3 1),(6,i6 y_8),(7,.ptr 3 0),(13,.sl (tours_2.map A_band_tour) none),(14,i6 ((tours_2.length : Nat) : Int)),(15,i6 y_8),(22,.sl (l_15.map A_band_tour) none),(23,i6 ((l_15.length : Nat) : Int)),(24,i6 y_20)]) (⟨[(C_City c_1),[.nils,.nils,.nils,i6 0,i6 0,.nils,.nils,.nils],(flat (z_38.map (AV.int .u64))),(C_band_tour x_14),(C_band_tour x_30)],[]⟩) (by kernel_rfl) ⟨idxI.of hu_36,stFl (f:=(AV.int .u64)) (s:=1) _ 0 1 y_8 (fun (y_37 : Int) => r_35) _ (fun _ => rfl) hz_38 rfl (by decide) (by omega) (fun _ => rfl),trivial⟩ ?_
         refine ExO.nil ?_
         (try simp only [reduceCtorEq,AEx.ex.injEq,Nat.reduceEqDiff,if_true,if_false])
         exact ⟨_,_,forgetA (m:=50) 4 [] [(1,.sl (tours_2.map A_band_tour) none),(2,.ptr 0 0),(4,.ptr 1 0),(5,.ms 2 k_3 1),(6,i6 y_8),(7,.ptr 3 0),(13,.sl (tours_2.map A_band_tour) none),(14,i6 ((tours_2.length : Nat) : Int)),(15,i6 y_8),(22,.sl (l_15.map A_band_tour) none),(23,i6 ((l_15.length : Nat) : Int)),(24,i6 y_20)] [(C_City c_1),[.nils,.nils,.nils,i6 0,i6 0,.nils,.nils,.nils],(flat (z_38.map (AV.int .u64))),(C_band_tour x_14)] [] (by simp [setAll]) (by simp) ⟨(reN (KL_band_tour _)),rfl,rfl,rfl,rfl,rfl,(reN (KL_band_tour _)),rfl,rfl,(reN (KL_band_tour _)),rfl,rfl,trivial⟩ (mapMC (show List.mapM (re 4 []) (C_City c_1) = some (C_City c_1) by simp) (mapMC (show List.mapM (re 4 []) [.nils,.nils,.nils,i6 0,i6 0,.nils,.nils,.nils] = some [.nils,.nils,.nils,i6 0,i6 0,.nils,.nils,.nils] by simp) (mapMC (flat_re (f:=(AV.int .u64)) (fun _ => rfl) _ _ _) (mapMC (show List.mapM (re 4 []) (C_band_tour x_14) = some (C_band_tour x_14) by simp) rfl)))) rfl (by decide),z_38,h,rfl,rfl⟩
        ·refine Ex.condF _ rfl hc_32 ?_
         refine Ex.skip ?_
         (try simp only [reduceCtorEq,AEx.ex.injEq,Nat.reduceEqDiff,if_true,if_false])
         exact ⟨_,_,forgetA (m:=50) 4 [] [(1,.sl (tours_2.map A_band_tour) none),(2,.ptr 0 0),(4,.ptr 1 0),(5,.ms 2 k_3 1),(6,i6 y_8),(7,.ptr 3 0),(13,.sl (tours_2.map A_band_tour) none),(14,i6 ((tours_2.length : Nat) : Int)),(15,i6 y_8),(22,.sl (l_15.map A_band_tour) none),(23,i6 ((l_15.length : Nat) : Int)),(24,i6 y_20)] [(C_City c_1),[.nils,.nils,.nils,i6 0,i6 0,.nils,.nils,.nils],(flat (w_21.map (AV.int .u64))),(C_band_tour x_14)] [] (by simp [setAll]) (by simp) ⟨(reN (KL_band_tour _)),rfl,rfl,rfl,rfl,rfl,(reN (KL_band_tour _)),rfl,rfl,(reN (KL_band_tour _)),rfl,rfl,trivial⟩ (mapMC (show List.mapM (re 4 []) (C_City c_1) = some (C_City c_1) by simp) (mapMC (show List.mapM (re 4 []) [.nils,.nils,.nils,i6 0,i6 0,.nils,.nils,.nils] = some [.nils,.nils,.nils,i6 0,i6 0,.nils,.nils,.nils] by simp) (mapMC (flat_re (f:=(AV.int .u64)) (fun _ => rfl) _ _ _) (mapMC (show List.mapM (re 4 []) (C_band_tour x_14) = some (C_band_tour x_14) by simp) rfl)))) rfl (by decide),w_21,h,rfl,rfl⟩
       ·rintro a S ⟨w_26,h,rfl,rfl⟩
        subst hK_29
        refine rg 2 [1,2,4,5,6,7,13,14,15,22,23,24] (mkS 50 [(1,.sl (tours_2.map A_band_tour) none),(2,.ptr 0 0),(4,.ptr 1 0),(5,.ms 2 k_3 1),(6,i6 y_8),(7,.ptr 3 0),(13,.sl (tours_2.map A_band_tour) none),(14,i6 ((tours_2.length : Nat) : Int)),(15,i6 y_8),(22,.sl (l_15.map A_band_tour) none),(23,i6 ((l_15.length : Nat) : Int)),(24,i6 (IntKind.i64.wrap (y_20 + 1)))]) ⟨[(C_City c_1),[.nils,.nils,.nils,i6 0,i6 0,.nils,.nils,.nils],(flat (w_26.map (AV.int .u64))),(C_band_tour x_14)],[]⟩ ?_
        dsimp only
        exact ⟨_,_,Forgets.refl _ _ _,k,Nat.lt_succ_self k,(IntKind.i64.wrap (y_20 + 1)),w_26,h,rfl,rfl⟩
      ·refine Ex.condF _ rfl hc_25 ?_
       refine Ex.exit ?_
       (try simp only [reduceCtorEq,AEx.ex.injEq,Nat.reduceEqDiff,if_true,if_false])
       exact ⟨_,_,forgetA (m:=50) 3 [] [(1,.sl (tours_2.map A_band_tour) none),(2,.ptr 0 0),(4,.ptr 1 0),(5,.ms 2 k_3 1),(13,.sl (tours_2.map A_band_tour) none),(14,i6 ((tours_2.length : Nat) : Int)),(15,i6 y_8)] [(C_City c_1),[.nils,.nils,.nils,i6 0,i6 0,.nils,.nils,.nils],(flat (w_21.map (AV.int .u64)))] [] (by simp [setAll]) (by simp) ⟨(reN (KL_band_tour _)),rfl,rfl,rfl,(reN (KL_band_tour _)),rfl,rfl,trivial⟩ (mapMC (show List.mapM (re 3 []) (C_City c_1) = some (C_City c_1) by simp) (mapMC (show List.mapM (re 3 []) [.nils,.nils,.nils,i6 0,i6 0,.nils,.nils,.nils] = some [.nils,.nils,.nils,i6 0,i6 0,.nils,.nils,.nils] by simp) (mapMC (flat_re (f:=(AV.int .u64)) (fun _ => rfl) _ _ _) rfl))) rfl (by decide),w_21,h,rfl,rfl⟩
    ·rintro a S ⟨w_16,h,rfl,rfl⟩
     subst hK_19
     refine rg 2 [1,2,4,5,13,14,15] (mkS 50 [(1,.sl (tours_2.map A_band_tour) none),(2,.ptr 0 0),(4,.ptr 1 0),(5,.ms 2 k_3 1),(13,.sl (tours_2.map A_band_tour) none),(14,i6 ((tours_2.length : Nat) : Int)),(15,i6 (IntKind.i64.wrap (y_8 + 1)))]) ⟨[(C_City c_1),[.nils,.nils,.nils,i6 0,i6 0,.nils,.nils,.nils],(flat (w_16.map (AV.int .u64)))],[]⟩ ?_
     dsimp only
     exact ⟨_,_,Forgets.refl _ _ _,k,Nat.lt_succ_self k,(IntKind.i64.wrap (y_8 + 1)),w_16,h,rfl,rfl⟩
   ·refine Ex.condF _ rfl hc_13 ?_
    refine Ex.exit ?_
    (try simp only [reduceCtorEq,AEx.ex.injEq,Nat.reduceEqDiff,if_true,if_false])
    exact ⟨_,_,forgetK [1,2,4,5],w_9,h,rfl,rfl⟩
 ·rintro a S ⟨w_4,h,rfl,rfl⟩
  subst hK_7
  refine Ex.seq (rg 5 [4] (mkS 50 [(4,.ptr 1 0)]) ⟨[(C_City c_1),[.sl (c_1.Town.Rooms.map (AV.int .i64)) none,.sl (c_1.Town.Streets.map A_Street) none,.sl (c_1.Town.Groups.map A_Group) none,i6 c_1.Town.Steps,i6 c_1.Break,.sl (c_1.Sleep.map (AV.int .i64)) none,.sl (tours_2.map A_band_tour) none,.ms 2 k_3 1],(flat (w_4.map (AV.int .u64)))],[]⟩ ?_)
  obtain ⟨u_39,hu_39,h⟩:=bE h
  refine Ex.forget (chillX (f:=(AV.int .u64)) 2 1 7 k_3 1 w_4 [.sl (c_1.Town.Rooms.map (AV.int .i64)) none,.sl (c_1.Town.Streets.map A_Street) none,.sl (c_1.Town.Groups.map A_Group) none,i6 c_1.Town.Steps,i6 c_1.Break,.sl (c_1.Sleep.map (AV.int .i64)) none,.sl (tours_2.map A_band_tour) none,.ms 2 k_3 1] hu_39 rfl (fun _ => rfl) rfl (by decide) rfl) ?_
  refine Ex.castA (a2:=mkS 50 [(4,.ptr 1 0)]) (S2:=⟨[(C_City c_1),[.sl (c_1.Town.Rooms.map (AV.int .i64)) none,.sl (c_1.Town.Streets.map A_Street) none,.sl (c_1.Town.Groups.map A_Group) none,i6 c_1.Town.Steps,i6 c_1.Break,.sl (c_1.Sleep.map (AV.int .i64)) none,.sl (tours_2.map A_band_tour) none,.sl (w_4.map (AV.int .u64)) none],[]],[]⟩) (by kernel_rfl) (by kernel_rfl) ?_
  refine Ex.ret ?_
  obtain rfl:=sJ h
  exact rt (.agg [.sl (c_1.Town.Rooms.map (AV.int .i64)) none,.sl (c_1.Town.Streets.map A_Street) none,.sl (c_1.Town.Groups.map A_Group) none,i6 c_1.Town.Steps,i6 c_1.Break,.sl (c_1.Sleep.map (AV.int .i64)) none,.sl (tours_2.map A_band_tour) none,.sl (w_4.map (AV.int .u64)) none])
structure T_band_request where
 requests_ : T_band_requests
 band_ : Int
 granted_ : Int
 deriving Inhabited
def C_band_request (x : T_band_request) : List AV:=[.sl (x.requests_.city_.Town.Rooms.map (AV.int .i64)) none,.sl (x.requests_.city_.Town.Streets.map A_Street) none,.sl (x.requests_.city_.Town.Groups.map A_Group) none,i6 x.requests_.city_.Town.Steps,i6 x.requests_.city_.Break,.sl (x.requests_.city_.Sleep.map (AV.int .i64)) none,.sl (x.requests_.tours_.map A_band_tour) none,.sl (x.requests_.crosses_.map (AV.int .u64)) none,i6 x.band_,.int .u64 x.granted_]
attribute [local simp] C_band_request
def A_band_request (x : T_band_request) : AV:=.agg (C_band_request x)
attribute [local simp] A_band_request
theorem KC_band_request (x : T_band_request) : cleanL (C_band_request x) = true:=by simp
theorem KA_band_request (x : T_band_request) : (A_band_request x).clean = true:=KC_band_request x
theorem KL_band_request (l : List T_band_request) : cleanL (l.map A_band_request) = true:=cleanM KA_band_request l
attribute [local simp] KL_band_request
theorem KB_band_request (x : T_band_request) (n : Nat) (σ : List Nat) : (C_band_request x).mapM (re n σ) = some (C_band_request x):=by simp
attribute [local simp] KB_band_request
def p_band_request_clash (N : Nat) (q_1 : T_band_request) : Option (Int):=((getI q_1.requests_.crosses_ q_1.band_).bind fun x_2 => ((some (IntKind.u64.wrap (((BitVec.ofInt (IntKind.bits .u64) x_2 &&& BitVec.ofInt (IntKind.bits .u64) q_1.granted_).toNat : Nat) : Int))).bind fun n_3 => (bif (n_3 != 0) then some 10 else some 0)))
def v_band_request_clash (r : Int) : AV:=i6 r
attribute [local simp] v_band_request_clash
theorem a_band_request_clash (q_1 : T_band_request) : [(A_band_request q_1)].mapM (ren []) = some [(A_band_request q_1)]:=by simp
theorem b_band_request_clash (r : Int) (n n2 m : Nat) : back n n2 m (v_band_request_clash r) = some (v_band_request_clash r):=by simp
theorem d_band_request_clash (N : Nat) (q_1 : T_band_request) (r : Int) (h : p_band_request_clash N q_1 = some r) : Does Tryd.prog 51 [(A_band_request q_1)] [] fun v c => v = v_band_request_clash r ∧ c = []:=by
 unfold p_band_request_clash at h
 refine Does.ofL comp51 _ _ rfl rfl ?_
 refine Ex.seq (rg 2 [1] (mkS 14 [(1,.ptr 0 0)]) ⟨[(C_band_request q_1)],[]⟩ ?_)
 refine Ex.seq (Ex.seq ?_)
 obtain ⟨x_2,hx_2,h⟩:=bE h
 refine Ex.drawE (a1:=mkS 14 [(1,.ptr 0 0),(3,.ptr 0 0),(4,.ptr 0 7),(5,.sl (q_1.requests_.crosses_.map (AV.int .u64)) none),(6,.ptr 0 8),(7,i6 q_1.band_),(8,.rop [.int .u64 x_2]),(9,.int .u64 x_2),(10,.ptr 0 9),(11,.int .u64 q_1.granted_)]) (noClr_ok _) [] [] [] ?_ ?_
 ·refine drS [0] 9 [(5, .rop [.int .u64 x_2])] [LGet (q_1.requests_.crosses_.map (AV.int .u64)) q_1.band_ 1 [.int .u64 x_2]] (mkS 14 [(1, .ptr 0 0), (3, .ptr 0 0), (4, .ptr 0 7), (5, .sl (q_1.requests_.crosses_.map (AV.int .u64)) none), (6, .ptr 0 8), (7, i6 q_1.band_), (8, .rop [.int .u64 x_2]), (9, .int .u64 x_2), (10, .ptr 0 9), (11, .int .u64 q_1.granted_)]) (by simp) (by kernel_rfl) ⟨LGet.of hx_2 rfl, trivial⟩ (by kernel_rfl) ?_
  exact DrO.nil rfl
 ·dsimp only [List.getLastD_cons,List.getLastD_nil]
  obtain ⟨n_3,hn_3,h⟩:=bE h
  refine runH 2 [(0,.eq (.int .u64 n_3))] [13] [AV.int .u64 (IntKind.u64.wrap (((BitVec.ofInt (IntKind.bits .u64) x_2 &&& BitVec.ofInt (IntKind.bits .u64) q_1.granted_).toNat : Nat) : Int)) = AV.int .u64 n_3] (mkS 14 [(13,.bool (n_3 != 0))]) (⟨[(C_band_request q_1)],[]⟩) (by kernel_rfl) ⟨congrArg (AV.int .u64) (Option.some.inj hn_3),trivial⟩ ?_
  refine ExO.nil ?_
  rcases condI h with ⟨hc_4,h⟩ | ⟨hc_4,h⟩
  ·refine Ex.condT _ rfl hc_4 ?_
   refine Ex.seq (rg 1 [2] (mkS 14 [(2,i6 10)]) ⟨[(C_band_request q_1)],[]⟩ ?_)
   refine Ex.ret ?_
   obtain rfl:=sJ h
   exact rt (i6 10)
  ·refine Ex.condF _ rfl hc_4 ?_
   refine Ex.skip ?_
   refine Ex.seq (rg 1 [2] (mkS 14 [(2,i6 0)]) ⟨[(C_band_request q_1)],[]⟩ ?_)
   refine Ex.ret ?_
   obtain rfl:=sJ h
   exact rt (i6 0)
def p_band_request_throng (N : Nat) (q_1 : T_band_request) : Option (Int):=((getI q_1.requests_.tours_ q_1.band_).bind fun x_2 => (letJ (fun (_ : Unit) => some 0) (fun k_3 => (loop1 (fun rec_7 (y_6 : Int) => (bif (decide (y_6 < ((x_2.squares_.length : Nat) : Int))) then ((getI x_2.squares_ y_6).bind fun x_11 => ((getI q_1.requests_.city_.Town.Rooms x_11).bind fun x_12 => (bif (decide (x_2.Band.People > x_12)) then some 13 else (rec_7 (IntKind.i64.wrap (y_6 + 1)))))) else (k_3 ()))) N 0))))
def v_band_request_throng (r : Int) : AV:=i6 r
attribute [local simp] v_band_request_throng
theorem a_band_request_throng (q_1 : T_band_request) : [(A_band_request q_1)].mapM (ren []) = some [(A_band_request q_1)]:=by simp
theorem b_band_request_throng (r : Int) (n n2 m : Nat) : back n n2 m (v_band_request_throng r) = some (v_band_request_throng r):=by simp
theorem d_band_request_throng (N : Nat) (q_1 : T_band_request) (r : Int) (h : p_band_request_throng N q_1 = some r) : Does Tryd.prog 52 [(A_band_request q_1)] [] fun v c => v = v_band_request_throng r ∧ c = []:=by
 unfold p_band_request_throng at h
 refine Does.ofL comp52 _ _ rfl rfl ?_
 refine Ex.seq (rg 2 [1] (mkS 33 [(1,.ptr 0 0)]) ⟨[(C_band_request q_1)],[]⟩ ?_)
 refine Ex.seq ?_
 obtain ⟨x_2,hx_2,h⟩:=bE h
 refine regH 9 [(5,.rop (C_band_tour x_2))] [1,3] [LGet (q_1.requests_.tours_.map A_band_tour) q_1.band_ 7 (C_band_tour x_2)] (mkS 33 [(1,.ptr 0 0),(3,.ptr 1 0)]) (⟨[(C_band_request q_1),(C_band_tour x_2)],[]⟩) (by kernel_rfl) ⟨LGet.of hx_2 rfl,trivial⟩ rfl ?_
 refine Ex.seq (Ex.seq ?_)
 refine regH 4 [(2,.eq (i6 ((x_2.squares_.length : Nat) : Int)))] [1,3,14,15,16] [AV.int .i64 (((x_2.squares_.map (AV.int .i64)).length : Nat) : Int) = AV.int .i64 ((x_2.squares_.length : Nat) : Int)] (mkS 33 [(1,.ptr 0 0),(3,.ptr 1 0),(14,.sl (x_2.squares_.map (AV.int .i64)) none),(15,i6 ((x_2.squares_.length : Nat) : Int)),(16,i6 0)]) (⟨[(C_band_request q_1),(C_band_tour x_2)],[]⟩) (by kernel_rfl) ⟨lenM _ _,trivial⟩ rfl ?_
 obtain ⟨K_4,hK_5,h⟩:=letE h
 refine Ex.blockJ (fun a S => K_4 () = some r ∧ a = mkS 33 [] ∧ S = ⟨[],[]⟩) ?_ ?_
 ·obtain ⟨B_8,hB_9,h⟩:=loop1I h
  refine Ex.loopF (fun k a S => ∃ (y_6 : Int),loop1 B_8 k y_6 = some r ∧ a = mkS 33 [(1,.ptr 0 0),(3,.ptr 1 0),(14,.sl (x_2.squares_.map (AV.int .i64)) none),(15,i6 ((x_2.squares_.length : Nat) : Int)),(16,i6 y_6)] ∧ S = ⟨[(C_band_request q_1),(C_band_tour x_2)],[]⟩) N ⟨_,_,Forgets.refl _ _ _,0,h,rfl,rfl⟩ ?_
  rintro k a S ⟨y_6,h,rfl,rfl⟩
  cases k with
  | zero => exact (loop1Z h).elim
  | succ k =>
   replace h:=loop1S h hB_9
   refine Ex.seq (rg 1 [1,3,14,15,16,17] (mkS 33 [(1,.ptr 0 0),(3,.ptr 1 0),(14,.sl (x_2.squares_.map (AV.int .i64)) none),(15,i6 ((x_2.squares_.length : Nat) : Int)),(16,i6 y_6),(17,.bool (decide (y_6 < ((x_2.squares_.length : Nat) : Int))))]) ⟨[(C_band_request q_1),(C_band_tour x_2)],[]⟩ ?_)
   refine Ex.seq ?_
   rcases condI h with ⟨hc_10,h⟩ | ⟨hc_10,h⟩
   ·refine Ex.condT _ rfl hc_10 ?_
    refine Ex.skip ?_
    refine Ex.seq ?_
    refine Ex.blockK ?_
    refine Ex.seq ?_
    obtain ⟨x_11,hx_11,h⟩:=bE h
    refine regH 3 [(0,.rop [i6 x_11])] [1,3,5,14,15,16] [LGet (x_2.squares_.map (AV.int .i64)) y_6 1 [i6 x_11]] (mkS 33 [(1,.ptr 0 0),(3,.ptr 1 0),(5,i6 x_11),(14,.sl (x_2.squares_.map (AV.int .i64)) none),(15,i6 ((x_2.squares_.length : Nat) : Int)),(16,i6 y_6)]) (⟨[(C_band_request q_1),(C_band_tour x_2)],[]⟩) (by kernel_rfl) ⟨LGet.of hx_11 rfl,trivial⟩ rfl ?_
    refine Ex.seq ?_
    obtain ⟨x_12,hx_12,h⟩:=bE h
    refine Ex.drawE (a1:=mkS 33 [(1,.ptr 0 0),(3,.ptr 1 0),(5,i6 x_11),(14,.sl (x_2.squares_.map (AV.int .i64)) none),(15,i6 ((x_2.squares_.length : Nat) : Int)),(16,i6 y_6),(20,.ptr 1 0),(21,.ptr 1 5),(22,i6 x_2.Band.People),(23,.ptr 0 0),(24,.ptr 0 0),(25,.ptr 0 0),(26,.ptr 0 0),(27,.sl (q_1.requests_.city_.Town.Rooms.map (AV.int .i64)) none),(28,i6 x_11),(29,.rop [i6 x_12]),(30,i6 x_12)]) (noClr_ok _) [] [] [] ?_ ?_
    ·refine drS [0, 1] 11 [(9, .rop [i6 x_12])] [LGet (q_1.requests_.city_.Town.Rooms.map (AV.int .i64)) x_11 1 [i6 x_12]] (mkS 33 [(1, .ptr 0 0), (3, .ptr 1 0), (5, i6 x_11), (14, .sl (x_2.squares_.map (AV.int .i64)) none), (15, i6 ((x_2.squares_.length : Nat) : Int)), (16, i6 y_6), (20, .ptr 1 0), (21, .ptr 1 5), (22, i6 x_2.Band.People), (23, .ptr 0 0), (24, .ptr 0 0), (25, .ptr 0 0), (26, .ptr 0 0), (27, .sl (q_1.requests_.city_.Town.Rooms.map (AV.int .i64)) none), (28, i6 x_11), (29, .rop [i6 x_12]), (30, i6 x_12)]) (by simp) (by kernel_rfl) ⟨LGet.of hx_12 rfl, trivial⟩ (by kernel_rfl) ?_
     exact DrO.nil rfl
    ·dsimp only [List.getLastD_cons,List.getLastD_nil]
     refine rn 1 [1,3,14,15,16,31] (mkS 33 [(1,.ptr 0 0),(3,.ptr 1 0),(14,.sl (x_2.squares_.map (AV.int .i64)) none),(15,i6 ((x_2.squares_.length : Nat) : Int)),(16,i6 y_6),(31,.bool (decide (x_2.Band.People > x_12)))]) ⟨[(C_band_request q_1),(C_band_tour x_2)],[]⟩ ?_
     refine ExO.nil ?_
     rcases condI h with ⟨hc_13,h⟩ | ⟨hc_13,h⟩
     ·refine Ex.condT _ rfl hc_13 ?_
      refine Ex.seq (rg 1 [2] (mkS 33 [(2,i6 13)]) ⟨[(C_band_request q_1),(C_band_tour x_2)],[]⟩ ?_)
      refine Ex.ret ?_
      obtain rfl:=sJ h
      exact rt (i6 13)
     ·refine Ex.condF _ rfl hc_13 ?_
      refine Ex.skip ?_
      refine rg 2 [1,3,14,15,16] (mkS 33 [(1,.ptr 0 0),(3,.ptr 1 0),(14,.sl (x_2.squares_.map (AV.int .i64)) none),(15,i6 ((x_2.squares_.length : Nat) : Int)),(16,i6 (IntKind.i64.wrap (y_6 + 1)))]) ⟨[(C_band_request q_1),(C_band_tour x_2)],[]⟩ ?_
      dsimp only
      exact ⟨_,_,Forgets.refl _ _ _,k,Nat.lt_succ_self k,(IntKind.i64.wrap (y_6 + 1)),h,rfl,rfl⟩
   ·refine Ex.condF _ rfl hc_10 ?_
    refine Ex.exit ?_
    (try simp only [reduceCtorEq,AEx.ex.injEq,Nat.reduceEqDiff,if_true,if_false])
    exact ⟨_,_,forgetA (m:=33) 0 [] [] [] [] (by simp [setAll]) (by simp) trivial (by simp) rfl (by decide),h,rfl,rfl⟩
 ·rintro a S ⟨h,rfl,rfl⟩
  subst hK_5
  refine Ex.seq (rg 1 [2] (mkS 33 [(2,i6 0)]) ⟨[],[]⟩ ?_)
  refine Ex.ret ?_
  obtain rfl:=sJ h
  exact rt (i6 0)
def v_math_bits_TrailingZeros32 (r : Int) : AV:=i6 r
attribute [local simp] v_math_bits_TrailingZeros32
def p_math_bits_TrailingZeros64 (N : Nat) (x_1 : Int) : Option (Int):=(bif (x_1 == 0) then some 64 else ((some (IntKind.u64.wrap (((BitVec.ofInt (IntKind.bits .u64) x_1 &&& BitVec.ofInt (IntKind.bits .u64) (IntKind.u64.wrap (0 - x_1))).toNat : Nat) : Int))).bind fun n_3 => ((some (Int.fdiv (IntKind.u64.wrap (n_3 * 285870213051353865)) ((2 : Int) ^ (min (Int.toNat 58) (IntKind.bits .u64))))).bind fun n_4 => ((idxI n_4 64).bind fun u_5 => ((([0,1,56,2,57,49,28,3,61,58,42,50,38,29,17,4,62,47,59,36,45,43,51,22,53,39,33,30,24,18,12,5,63,55,48,27,60,41,37,16,46,35,44,21,52,32,23,11,54,26,40,15,34,20,31,10,25,14,19,9,13,8,7,6] : List Int)[Int.toNat n_4]?).bind fun x_6 => some (IntKind.i64.wrap x_6))))))
def v_math_bits_TrailingZeros64 (r : Int) : AV:=i6 r
attribute [local simp] v_math_bits_TrailingZeros64
theorem a_math_bits_TrailingZeros64 (x_1 : Int) : [.int .u64 x_1].mapM (ren []) = some [.int .u64 x_1]:=by simp
theorem b_math_bits_TrailingZeros64 (r : Int) (n n2 m : Nat) : back n n2 m (v_math_bits_TrailingZeros64 r) = some (v_math_bits_TrailingZeros64 r):=by simp
theorem d_math_bits_TrailingZeros64 (N : Nat) (x_1 : Int) (r : Int) (h : p_math_bits_TrailingZeros64 N x_1 = some r) : Does Tryd.prog 68 [.int .u64 x_1] [] fun v c => v = v_math_bits_TrailingZeros64 r ∧ c = []:=by
 unfold p_math_bits_TrailingZeros64 at h
 refine Does.ofL comp68 _ _ rfl rfl ?_
 refine Ex.seq (rg 1 [0] (mkS 14 [(0,.int .u64 x_1)]) ⟨[],[]⟩ ?_)
 refine Ex.seq (Ex.seq ?_)
 refine rg 2 [0,4] (mkS 14 [(0,.int .u64 x_1),(4,.bool (x_1 == 0))]) ⟨[],[]⟩ ?_
 rcases condI h with ⟨hc_2,h⟩ | ⟨hc_2,h⟩
 ·refine Ex.condT _ rfl hc_2 ?_
  refine Ex.seq (rg 1 [2] (mkS 14 [(2,i6 64)]) ⟨[],[]⟩ ?_)
  refine Ex.ret ?_
  obtain rfl:=sJ h
  exact rt (i6 64)
 ·refine Ex.condF _ rfl hc_2 ?_
  refine Ex.skip ?_
  refine Ex.seq ?_
  obtain ⟨n_3,hn_3,h⟩:=bE h
  obtain ⟨n_4,hn_4,h⟩:=bE h
  obtain ⟨u_5,hu_5,h⟩:=bE h
  obtain ⟨x_6,hx_6,h⟩:=bE h
  refine regH 10 [(3,.eq (.int .u64 n_3)),(5,.eq (.int .u64 n_4)),(6,.adr),(7,.ld (.int .u8 x_6))] [2] [AV.int .u64 (IntKind.u64.wrap (((BitVec.ofInt (IntKind.bits .u64) x_1 &&& BitVec.ofInt (IntKind.bits .u64) (IntKind.u64.wrap (0 - x_1))).toNat : Nat) : Int)) = AV.int .u64 n_3,AV.int .u64 (Int.fdiv (IntKind.u64.wrap (n_3 * 285870213051353865)) ((2 : Int) ^ (min (Int.toNat 58) (IntKind.bits .u64)))) = AV.int .u64 n_4,0 ≤ n_4 ∧ n_4 < ((64 : Nat) : Int) ∧ Int.toNat n_4 * 1 ≤ (([0,1,56,2,57,49,28,3,61,58,42,50,38,29,17,4,62,47,59,36,45,43,51,22,53,39,33,30,24,18,12,5,63,55,48,27,60,41,37,16,46,35,44,21,52,32,23,11,54,26,40,15,34,20,31,10,25,14,19,9,13,8,7,6] : List Int).map (AV.int .u8)).length,takeCells ((([0,1,56,2,57,49,28,3,61,58,42,50,38,29,17,4,62,47,59,36,45,43,51,22,53,39,33,30,24,18,12,5,63,55,48,27,60,41,37,16,46,35,44,21,52,32,23,11,54,26,40,15,34,20,31,10,25,14,19,9,13,8,7,6] : List Int).map (AV.int .u8)).drop (Int.toNat n_4 * 1)) 0 none = some (.int .u8 x_6)] (mkS 14 [(2,i6 (IntKind.i64.wrap x_6))]) (⟨[],[]⟩) (by kernel_rfl) ⟨congrArg (AV.int .u64) (Option.some.inj hn_3),congrArg (AV.int .u64) (Option.some.inj hn_4),adrT ([0,1,56,2,57,49,28,3,61,58,42,50,38,29,17,4,62,47,59,36,45,43,51,22,53,39,33,30,24,18,12,5,63,55,48,27,60,41,37,16,46,35,44,21,52,32,23,11,54,26,40,15,34,20,31,10,25,14,19,9,13,8,7,6] : List Int) .u8 hu_5 (by decide),ldTab ([0,1,56,2,57,49,28,3,61,58,42,50,38,29,17,4,62,47,59,36,45,43,51,22,53,39,33,30,24,18,12,5,63,55,48,27,60,41,37,16,46,35,44,21,52,32,23,11,54,26,40,15,34,20,31,10,25,14,19,9,13,8,7,6] : List Int) .u8 hx_6,trivial⟩ rfl ?_
  refine Ex.ret ?_
  obtain rfl:=sJ h
  exact rt (i6 (IntKind.i64.wrap x_6))
def p_math_bits_TrailingZeros (N : Nat) (x_1 : Int) : Option (Int):=((p_math_bits_TrailingZeros64 N x_1).bind fun r_2 => some r_2)
def v_math_bits_TrailingZeros (r : Int) : AV:=i6 r
attribute [local simp] v_math_bits_TrailingZeros
theorem a_math_bits_TrailingZeros (x_1 : Int) : [.int .u64 x_1].mapM (ren []) = some [.int .u64 x_1]:=by simp
theorem b_math_bits_TrailingZeros (r : Int) (n n2 m : Nat) : back n n2 m (v_math_bits_TrailingZeros r) = some (v_math_bits_TrailingZeros r):=by simp
theorem d_math_bits_TrailingZeros (N : Nat) (x_1 : Int) (r : Int) (h : p_math_bits_TrailingZeros N x_1 = some r) : Does Tryd.prog 64 [.int .u64 x_1] [] fun v c => v = v_math_bits_TrailingZeros r ∧ c = []:=by
 unfold p_math_bits_TrailingZeros at h
 refine Does.ofL comp64 _ _ rfl rfl ?_
 refine Ex.seq (rg 1 [0] (mkS 8 [(0,.int .u64 x_1)]) ⟨[],[]⟩ ?_)
 refine Ex.seq ?_
 refine Ex.cond (b:=false) rfl ?_
 refine Ex.skip ?_
 refine Ex.seq ?_
 obtain ⟨r_2,hr_2,h⟩:=bE h
 refine Ex.reg (rn 1 [6] (mkS 8 [(6,.int .u64 x_1)]) ⟨[],[]⟩ ?_)
 refine ExO.callL [] [.int .u64 x_1] rfl rfl (a_math_bits_TrailingZeros64 x_1) rfl rfl (d_math_bits_TrailingZeros64 N x_1 r_2 hr_2) (b_math_bits_TrailingZeros64 _ _ _ _) rfl ?_
 refine rn 1 [2] (mkS 8 [(2,i6 r_2)]) ⟨[],[]⟩ ?_
 refine ExO.nil ?_
 refine Ex.ret ?_
 obtain rfl:=sJ h
 exact rt (i6 r_2)
def p_band_choice_bands (N : Nat) (x_1 : Int) : Option (Int):=some x_1
def v_band_choice_bands (r : Int) : AV:=.fn 63 [] [.rop [.int .u64 r]]
attribute [local simp] v_band_choice_bands
theorem a_band_choice_bands (x_1 : Int) : [.int .u64 x_1].mapM (ren []) = some [.int .u64 x_1]:=by simp
theorem b_band_choice_bands (r : Int) (n n2 m : Nat) : back n n2 m (v_band_choice_bands r) = some (v_band_choice_bands r):=by simp
theorem d_band_choice_bands (N : Nat) (x_1 : Int) (r : Int) (h : p_band_choice_bands N x_1 = some r) : Does Tryd.prog 59 [.int .u64 x_1] [] fun v c => v = v_band_choice_bands r ∧ c = []:=by
 unfold p_band_choice_bands at h
 refine Does.ofL comp59 _ _ rfl rfl ?_
 refine Ex.seq (rg 2 [1] (mkS 4 [(1,.ptr 0 0)]) ⟨[[.int .u64 x_1]],[]⟩ ?_)
 refine Ex.seq (rg 2 [2] (mkS 4 [(2,.fn 63 [] [.ptr 0 0])]) ⟨[[.int .u64 x_1]],[]⟩ ?_)
 refine Ex.forget (forgetK [2]) ?_
 refine Ex.castA (a2:=mkS 4 [(2,.fn 63 [] [.ptr 0 0])]) (S2:=⟨[[.int .u64 x_1]],[]⟩) (by kernel_rfl) (by kernel_rfl) ?_
 obtain rfl:=sJ h
 refine Ex.forget (chillP 2 0 [.int .u64 x_1] _ rfl rfl) ?_
 refine Ex.castA (a2:=mkS 4 [(2,.fn 63 [] [.rop [.int .u64 x_1]])]) (S2:=⟨[[]],[]⟩) (by kernel_rfl) (by kernel_rfl) ?_
 refine Ex.ret ?_
 exact rt (.fn 63 [] [.rop [.int .u64 x_1]])
def p_band_request_noise (N : Nat) (q_1 : T_band_request) : Option (Int):=((p_band_choice_with N q_1.granted_ q_1.band_).bind fun r_2 => ((p_band_choice_bands N r_2).bind fun r_3 => (letJ (fun (b_11 : List T_band_tour) => (letJ (fun (_ : Unit) => some 0) (fun k_41 => (loop1 (fun rec_45 (y_44 : Int) => (bif (decide (y_44 < ((q_1.requests_.city_.Sleep.length : Nat) : Int))) then ((getI q_1.requests_.city_.Sleep y_44).bind fun x_49 => ((p_band_nightOf N b_11 y_44).bind fun r_50 => ((p_band_night_sleep N r_50).bind fun r_51 => (bif (decide (r_51.2 < x_49)) then some 11 else (rec_45 (IntKind.i64.wrap (y_44 + 1))))))) else (k_41 ()))) N 0)))) (fun k_12 => (letJ (fun (b_15 : List T_band_tour) => (k_12 b_15)) (fun k_16 => (loop2 (fun rec_21 (rest_19 : Int) (b_20 : List T_band_tour) => (bif (rest_19 != 0) then ((p_math_bits_TrailingZeros N rest_19).bind fun r_25 => (letJ (fun (b_34 : List T_band_tour) => ((some (IntKind.u64.wrap (((BitVec.ofInt (IntKind.bits .u64) rest_19 &&& BitVec.ofInt (IntKind.bits .u64) (IntKind.u64.wrap (rest_19 - 1))).toNat : Nat) : Int))).bind fun n_40 => (rec_21 n_40 b_34))) (fun k_35 => ((getI q_1.requests_.tours_ r_25).bind fun x_38 => ((pushI b_20 ([x_38] : List T_band_tour)).bind fun l_39 => (k_35 l_39)))))) else (k_16 b_20))) N r_3 [])))))))
def v_band_request_noise (r : Int) : AV:=i6 r
attribute [local simp] v_band_request_noise
theorem a_band_request_noise (q_1 : T_band_request) : [(A_band_request q_1)].mapM (ren []) = some [(A_band_request q_1)]:=by simp
theorem b_band_request_noise (r : Int) (n n2 m : Nat) : back n n2 m (v_band_request_noise r) = some (v_band_request_noise r):=by simp
theorem d_band_request_noise (N : Nat) (q_1 : T_band_request) (r : Int) (h : p_band_request_noise N q_1 = some r) : Does Tryd.prog 53 [(A_band_request q_1)] [] fun v c => v = v_band_request_noise r ∧ c = []:=by
 unfold p_band_request_noise at h
 refine Does.ofL comp53 _ _ rfl rfl ?_
 refine Ex.seq (rg 2 [1,2] (mkS 46 [(1,.ptr 0 0),(2,i6 0)]) ⟨[(C_band_request q_1)],[]⟩ ?_)
 refine Ex.seq (rg 1 [1,2,3] (mkS 46 [(1,.ptr 0 0),(2,i6 0),(3,.ptr 1 0)]) ⟨[(C_band_request q_1),[.nils]],[]⟩ ?_)
 refine Ex.seq (Ex.seq ?_)
 obtain ⟨r_2,hr_2,h⟩:=bE h
 refine Ex.reg (rn 4 [1,2,3,10,12] (mkS 46 [(1,.ptr 0 0),(2,i6 0),(3,.ptr 1 0),(10,.int .u64 q_1.granted_),(12,i6 q_1.band_)]) ⟨[(C_band_request q_1),[.nils]],[]⟩ ?_)
 refine ExO.callL [] [.int .u64 q_1.granted_,i6 q_1.band_] rfl rfl (a_band_choice_with q_1.granted_ q_1.band_) rfl rfl (d_band_choice_with N q_1.granted_ q_1.band_ r_2 hr_2) (b_band_choice_with _ _ _ _) rfl ?_
 obtain ⟨r_3,hr_3,h⟩:=bE h
 refine ExO.callL [] [.int .u64 r_2] rfl rfl (a_band_choice_bands r_2) rfl rfl (d_band_choice_bands N r_2 r_3 hr_3) (b_band_choice_bands _ _ _ _) rfl ?_
 refine rn 0 [1,2,3,14] (mkS 46 [(1,.ptr 0 0),(2,i6 0),(3,.ptr 1 0),(14,.fn 63 [] [.rop [.int .u64 r_3]])]) ⟨[(C_band_request q_1),[.nils]],[]⟩ ?_
 refine ExO.nil ?_
 refine Ex.blockK ?_
 obtain ⟨K_13,hK_14,h⟩:=letE h
 refine Ex.rangeJ (fun k S => (k = 0 ∧ ∃ (b_11 : List T_band_tour),K_13 b_11 = some r ∧ S = ⟨[(C_band_request q_1),[.sl (b_11.map A_band_tour) (some 1)]],[(0,0),(b_11.length,7)]⟩)) 63 [.rop [.int .u64 r_3]] _ rfl comp63 rfl (by simp [setAll]) (by exact trivial) (mkS 16 [(1,.rop [.int .u64 r_3]),(2,.tup []),(3,.tup []),(4,.tup []),(5,.tup []),(6,.tup []),(7,.tup []),(8,.tup []),(9,.tup []),(10,.tup []),(11,.tup []),(12,.tup []),(13,.tup []),(14,.tup []),(15,.tup [])]) (⟨[(C_band_request q_1),[.nils]],[(0,0)]⟩) (fun _ => by kernel_rfl) (by kernel_rfl) ?_ ?_
 ·intro cx_5 Lp_4 hcn_6 hcm_7 hLt_8 hL_9 hup_10
  refine Ex.castA (a2:=mkS 16 [(0,.yld Lp_4.l 0),(1,.rop [.int .u64 r_3]),(2,.tup []),(3,.tup []),(4,.tup []),(5,.tup []),(6,.tup []),(7,.tup []),(8,.tup []),(9,.tup []),(10,.tup []),(11,.tup []),(12,.tup []),(13,.tup []),(14,.tup []),(15,.tup [])]) (S2:=⟨[(C_band_request q_1),[.nils]],[(0,0)]⟩) (by kernel_rfl) rfl ?_
  refine Ex.seq (rg 2 [0,3] (mkS 16 [(0,.yld Lp_4.l 0),(3,.int .u64 r_3)]) ⟨[(C_band_request q_1),[.nils]],[(0,0)]⟩ ?_)
  obtain ⟨K_17,hK_18,h⟩:=letE h
  refine Ex.blockJ (fun a S => ∃ (b_15 : List T_band_tour),K_17 b_15 = some r ∧ a = mkS 16 [] ∧ S = ⟨[(C_band_request q_1),[.sl (b_15.map A_band_tour) (some 1)]],[(0,0),(b_15.length,7)]⟩) ?_ ?_
  ·refine Ex.forget (nilB 1 0 7 [.nils] rfl rfl) ?_
   refine Ex.castA (a2:=mkS 16 [(0,.yld Lp_4.l 0),(3,.int .u64 r_3)]) (S2:=⟨[(C_band_request q_1),[.sl (([] : List T_band_tour).map A_band_tour) (some 1)]],[(0,0),(0,7)]⟩) (by kernel_rfl) (by kernel_rfl) ?_
   obtain ⟨B_22,hB_23,h⟩:=loop2I h
   refine Ex.loopF (fun k a S => ∃ (rest_19 : Int),∃ (b_20 : List T_band_tour),loop2 B_22 k rest_19 b_20 = some r ∧ a = mkS 16 [(0,.yld Lp_4.l 0),(3,.int .u64 rest_19)] ∧ S = ⟨[(C_band_request q_1),[.sl (b_20.map A_band_tour) (some 1)]],[(0,0),(b_20.length,7)]⟩) N ⟨_,_,Forgets.refl _ _ _,r_3,[],h,rfl,rfl⟩ ?_
   rintro k a S ⟨rest_19,b_20,h,rfl,rfl⟩
   cases k with
   | zero => exact (loop2Z h).elim
   | succ k =>
    replace h:=loop2S h hB_23
    refine Ex.seq (Ex.seq ?_)
    refine rg 2 [0,3,6] (mkS 16 [(0,.yld Lp_4.l 0),(3,.int .u64 rest_19),(6,.bool (rest_19 != 0))]) ⟨[(C_band_request q_1),[.sl (b_20.map A_band_tour) (some 1)]],[(0,0),(b_20.length,7)]⟩ ?_
    rcases condI h with ⟨hc_24,h⟩ | ⟨hc_24,h⟩
    ·refine Ex.condT _ rfl hc_24 ?_
     refine Ex.skip ?_
     refine Ex.seq ?_
     refine Ex.blockK ?_
     refine Ex.seq ?_
     obtain ⟨r_25,hr_25,h⟩:=bE h
     refine Ex.regI ?_
     refine runI 2 [] [0,3,11,12] [] (mkS 16 [(0,.yld Lp_4.l 0),(3,.int .u64 rest_19),(11,.yld Lp_4.l 0),(12,.int .u64 rest_19)]) (⟨[(C_band_request q_1),[.sl (b_20.map A_band_tour) (some 1)]],[(0,0),(b_20.length,7)]⟩) (by kernel_rfl) trivial ?_
     refine ExI.one ?_
     refine ExO.callL [] [.int .u64 rest_19] rfl rfl (a_math_bits_TrailingZeros rest_19) rfl rfl (d_math_bits_TrailingZeros N rest_19 r_25 hr_25) (b_math_bits_TrailingZeros _ _ _ _) rfl ?_
     refine ExO.nil ?_
     obtain ⟨K_36,hK_37,h⟩:=letE h
     refine ExI.yieldT 0 hLt_8 hL_9 [i6 r_25] rfl rfl rfl (by kernel_rfl) rfl rfl (leC hcn_6 (by simp [setAll])) ?_
     intro ca_26 cb_27 ha_28 hb_29 hma_30 hmb_31 hup_32 hbz_33
     refine Ex.castA (a2:=mkS 46 [(1,.ptr 0 0),(2,i6 0),(3,.ptr 1 0),(14,.fn 63 [] [.rop [.int .u64 r_3]]),(15,i6 r_25)]) (S2:=⟨[(C_band_request q_1),[.sl (b_20.map A_band_tour) (some 1)]],[(0,0),(b_20.length,7)]⟩) (by kernel_rfl) (by kernel_rfl) ?_
     refine Ex.two (fun z S => (z = AEx.norm ∧ ∃ (b_34 : List T_band_tour),K_36 b_34 = some r ∧ S = ⟨[(C_band_request q_1),[.sl (b_34.map A_band_tour) (some 1)]],[(0,0),(b_34.length,7)]⟩)) ?_ ?_
     ·refine rg 1 [1,3,4] (mkS 46 [(1,.ptr 0 0),(3,.ptr 1 0),(4,i6 r_25)]) ⟨[(C_band_request q_1),[.sl (b_20.map A_band_tour) (some 1)]],[(0,0),(b_20.length,7)]⟩ ?_
      refine ⟨rfl,rfl,?_⟩
      refine Ex.blockK ?_
      refine Ex.postF ?_
      obtain ⟨x_38,hx_38,h⟩:=bE h
      refine Ex.drawE (a1:=mkS 46 [(1,.ptr 0 0),(3,.ptr 1 0),(4,i6 r_25),(16,.sl (b_20.map A_band_tour) (some 1)),(17,.ptr 0 0),(18,.ptr 0 6),(19,.sl (q_1.requests_.tours_.map A_band_tour) none),(20,i6 r_25),(21,.rop (C_band_tour x_38)),(22,(A_band_tour x_38)),(23,.sl (([x_38] : List T_band_tour).map A_band_tour) (some 2))]) (noClr_ok _) [] [(1,7)] [] ?_ ?_
      ·refine drS [0, 1] 7 [(5, .rop (C_band_tour x_38))] [LGet (q_1.requests_.tours_.map A_band_tour) r_25 7 (C_band_tour x_38)] (mkS 46 [(1, .ptr 0 0), (3, .ptr 1 0), (4, i6 r_25), (16, .sl (b_20.map A_band_tour) (some 1)), (17, .ptr 0 0), (18, .ptr 0 6), (19, .sl (q_1.requests_.tours_.map A_band_tour) none), (20, i6 r_25), (21, .rop (C_band_tour x_38)), (22, (A_band_tour x_38))]) (by simp) (by kernel_rfl) ⟨LGet.of hx_38 rfl, trivial⟩ (by kernel_rfl) ?_
       refine drR 2 7 (([x_38] : List T_band_tour).map A_band_tour) rfl rfl (fun _ => by kernel_rfl) (by simp) rfl rfl ?_
       exact DrO.nil rfl
      ·dsimp only [List.getLastD_cons,List.getLastD_nil]
       obtain ⟨l_39,hl_39,h⟩:=bE h
       refine runH 2 [(0,.app (l_39.map A_band_tour) l_39.length)] [] [LApp b_20.length (b_20.map A_band_tour) (([x_38] : List T_band_tour).map A_band_tour) 7 (l_39.map A_band_tour) l_39.length] (mkS 46 []) (⟨[(C_band_request q_1),[.sl (l_39.map A_band_tour) (some 1)]],[(0,0),(l_39.length,7),(1,7)]⟩) (by kernel_rfl) ⟨LApp.of hl_39 (fun _ => rfl),trivial⟩ ?_
       refine ExO.nil ?_
       refine ⟨mkS 46 [],⟨[(C_band_request q_1),[.sl (l_39.map A_band_tour) (some 1)]],[(0,0),(l_39.length,7),(1,7)]⟩,Forgets.refl _ _ _,?_⟩
       (try simp only [reduceCtorEq,AEx.ex.injEq,Nat.reduceEqDiff,if_true,if_false])
       exact ⟨_,_,forgetA (m:=46) 2 [0,1] [] [(C_band_request q_1),[.sl (l_39.map A_band_tour) (some 1)]] [(0,0),(l_39.length,7)] (leC hb_29 (by simp [setAll])) (by simp) trivial (by simp) rfl (by decide) (sig0 2 hmb_31 rfl),⟨by first | rfl | trivial,l_39,h,rfl⟩⟩
     ·rintro z a2 S (⟨rfl,b_34,h,rfl⟩)
      subst hK_37
      refine runI 1 [] [0,3,15] [] (mkS 16 [(0,.yld Lp_4.l 0),(3,.int .u64 rest_19),(15,.bool false)]) (⟨[(C_band_request q_1),[.sl (b_34.map A_band_tour) (some 1)]],[(0,0),(b_34.length,7)]⟩) (by kernel_rfl) trivial ?_
      refine ExI.nil ?_
      refine Ex.cond (b:=false) rfl ?_
      refine Ex.skip ?_
      obtain ⟨n_40,hn_40,h⟩:=bE h
      refine regH 5 [(3,.eq (.int .u64 n_40))] [0,3] [AV.int .u64 (IntKind.u64.wrap (((BitVec.ofInt (IntKind.bits .u64) rest_19 &&& BitVec.ofInt (IntKind.bits .u64) (IntKind.u64.wrap (rest_19 - 1))).toNat : Nat) : Int)) = AV.int .u64 n_40] (mkS 16 [(0,.yld Lp_4.l 0),(3,.int .u64 n_40)]) (⟨[(C_band_request q_1),[.sl (b_34.map A_band_tour) (some 1)]],[(0,0),(b_34.length,7)]⟩) (by kernel_rfl) ⟨congrArg (AV.int .u64) (Option.some.inj hn_40),trivial⟩ rfl ?_
      dsimp only
      exact ⟨_,_,Forgets.refl _ _ _,k,Nat.lt_succ_self k,n_40,b_34,h,rfl,rfl⟩
    ·refine Ex.condF _ rfl hc_24 ?_
     refine Ex.exit ?_
     (try simp only [reduceCtorEq,AEx.ex.injEq,Nat.reduceEqDiff,if_true,if_false])
     exact ⟨_,_,forgetK [],b_20,h,rfl,rfl⟩
  ·rintro a S ⟨b_15,h,rfl,rfl⟩
   subst hK_18
   exact ⟨_,_,Forgets.refl _ _ _,.inl rfl,0,rfl,⟨by first | rfl | trivial,b_15,h,rfl⟩⟩
 ·rintro k S (⟨rfl,b_11,h,rfl⟩)
  subst hK_14
  refine Ex.seq (Ex.seq ?_)
  refine regH 6 [(4,.eq (i6 ((q_1.requests_.city_.Sleep.length : Nat) : Int)))] [3,28,29,30] [AV.int .i64 (((q_1.requests_.city_.Sleep.map (AV.int .i64)).length : Nat) : Int) = AV.int .i64 ((q_1.requests_.city_.Sleep.length : Nat) : Int)] (mkS 46 [(3,.ptr 1 0),(28,.sl (q_1.requests_.city_.Sleep.map (AV.int .i64)) none),(29,i6 ((q_1.requests_.city_.Sleep.length : Nat) : Int)),(30,i6 0)]) (⟨[(C_band_request q_1),[.sl (b_11.map A_band_tour) (some 1)]],[(0,0),(b_11.length,7)]⟩) (by kernel_rfl) ⟨lenM _ _,trivial⟩ rfl ?_
  obtain ⟨K_42,hK_43,h⟩:=letE h
  refine Ex.blockJ (fun a S => K_42 () = some r ∧ a = mkS 46 [] ∧ S = ⟨[],[]⟩) ?_ ?_
  ·obtain ⟨B_46,hB_47,h⟩:=loop1I h
   refine Ex.loopF (fun k a S => ∃ (y_44 : Int),loop1 B_46 k y_44 = some r ∧ a = mkS 46 [(3,.ptr 1 0),(28,.sl (q_1.requests_.city_.Sleep.map (AV.int .i64)) none),(29,i6 ((q_1.requests_.city_.Sleep.length : Nat) : Int)),(30,i6 y_44)] ∧ S = ⟨[(C_band_request q_1),[.sl (b_11.map A_band_tour) (some 0)]],[(b_11.length,7)]⟩) N ⟨_,_,forgetA (m:=46) 2 [1] [(3,.ptr 1 0),(28,.sl (q_1.requests_.city_.Sleep.map (AV.int .i64)) none),(29,i6 ((q_1.requests_.city_.Sleep.length : Nat) : Int)),(30,i6 0)] [(C_band_request q_1),[.sl (b_11.map A_band_tour) (some 0)]] [(b_11.length,7)] (by simp [setAll]) (by simp) ⟨rfl,(reN (cleanI _ _)),rfl,rfl,trivial⟩ (by simp) rfl (by decide),0,h,rfl,rfl⟩ ?_
   rintro k a S ⟨y_44,h,rfl,rfl⟩
   cases k with
   | zero => exact (loop1Z h).elim
   | succ k =>
    replace h:=loop1S h hB_47
    refine Ex.seq (rg 1 [3,28,29,30,31] (mkS 46 [(3,.ptr 1 0),(28,.sl (q_1.requests_.city_.Sleep.map (AV.int .i64)) none),(29,i6 ((q_1.requests_.city_.Sleep.length : Nat) : Int)),(30,i6 y_44),(31,.bool (decide (y_44 < ((q_1.requests_.city_.Sleep.length : Nat) : Int))))]) ⟨[(C_band_request q_1),[.sl (b_11.map A_band_tour) (some 0)]],[(b_11.length,7)]⟩ ?_)
    refine Ex.seq ?_
    rcases condI h with ⟨hc_48,h⟩ | ⟨hc_48,h⟩
    ·refine Ex.condT _ rfl hc_48 ?_
     refine Ex.skip ?_
     refine Ex.seq ?_
     refine Ex.blockK ?_
     refine Ex.seq ?_
     obtain ⟨x_49,hx_49,h⟩:=bE h
     refine regH 5 [(1,.rop [i6 x_49])] [3,5,6,28,29,30] [LGet (q_1.requests_.city_.Sleep.map (AV.int .i64)) y_44 1 [i6 x_49]] (mkS 46 [(3,.ptr 1 0),(5,i6 y_44),(6,i6 x_49),(28,.sl (q_1.requests_.city_.Sleep.map (AV.int .i64)) none),(29,i6 ((q_1.requests_.city_.Sleep.length : Nat) : Int)),(30,i6 y_44)]) (⟨[(C_band_request q_1),[.sl (b_11.map A_band_tour) (some 0)]],[(b_11.length,7)]⟩) (by kernel_rfl) ⟨LGet.of hx_49 rfl,trivial⟩ rfl ?_
     refine Ex.seq ?_
     obtain ⟨r_50,hr_50,h⟩:=bE h
     refine Ex.reg (rn 2 [3,6,28,29,30,36,37] (mkS 46 [(3,.ptr 1 0),(6,i6 x_49),(28,.sl (q_1.requests_.city_.Sleep.map (AV.int .i64)) none),(29,i6 ((q_1.requests_.city_.Sleep.length : Nat) : Int)),(30,i6 y_44),(36,.sl (b_11.map A_band_tour) (some 0)),(37,i6 y_44)]) ⟨[(C_band_request q_1),[.sl (b_11.map A_band_tour) (some 0)]],[(b_11.length,7)]⟩ ?_)
     refine ExO.callL [] [.sl (b_11.map A_band_tour) (some 0),i6 y_44] rfl rfl (a_band_nightOf b_11 y_44) rfl rfl (d_band_nightOf N b_11 y_44 r_50 hr_50) (b_band_nightOf _ _ _ _) rfl ?_
     obtain ⟨r_51,hr_51,h⟩:=bE h
     refine ExO.callL [] [.agg (flat (r_50.map AV.bool))] rfl rfl (by simp; try rfl) rfl rfl (d_band_night_sleep N r_50 r_51 hr_51) (b_band_night_sleep _ _ _ _) rfl ?_
     refine rn 5 [3,6,8,28,29,30] (mkS 46 [(3,.ptr 1 0),(6,i6 x_49),(8,i6 r_51.2),(28,.sl (q_1.requests_.city_.Sleep.map (AV.int .i64)) none),(29,i6 ((q_1.requests_.city_.Sleep.length : Nat) : Int)),(30,i6 y_44)]) ⟨[(C_band_request q_1),[.sl (b_11.map A_band_tour) (some 0)]],[(b_11.length,7)]⟩ ?_
     refine ExO.nil ?_
     refine Ex.seq (rg 3 [3,28,29,30,44] (mkS 46 [(3,.ptr 1 0),(28,.sl (q_1.requests_.city_.Sleep.map (AV.int .i64)) none),(29,i6 ((q_1.requests_.city_.Sleep.length : Nat) : Int)),(30,i6 y_44),(44,.bool (decide (r_51.2 < x_49)))]) ⟨[(C_band_request q_1),[.sl (b_11.map A_band_tour) (some 0)]],[(b_11.length,7)]⟩ ?_)
     rcases condI h with ⟨hc_52,h⟩ | ⟨hc_52,h⟩
     ·refine Ex.condT _ rfl hc_52 ?_
      refine Ex.seq (rg 1 [2] (mkS 46 [(2,i6 11)]) ⟨[(C_band_request q_1),[.sl (b_11.map A_band_tour) (some 0)]],[(b_11.length,7)]⟩ ?_)
      refine Ex.ret ?_
      obtain rfl:=sJ h
      exact rt (i6 11)
     ·refine Ex.condF _ rfl hc_52 ?_
      refine Ex.skip ?_
      refine rg 2 [3,28,29,30] (mkS 46 [(3,.ptr 1 0),(28,.sl (q_1.requests_.city_.Sleep.map (AV.int .i64)) none),(29,i6 ((q_1.requests_.city_.Sleep.length : Nat) : Int)),(30,i6 (IntKind.i64.wrap (y_44 + 1)))]) ⟨[(C_band_request q_1),[.sl (b_11.map A_band_tour) (some 0)]],[(b_11.length,7)]⟩ ?_
      dsimp only
      exact ⟨_,_,Forgets.refl _ _ _,k,Nat.lt_succ_self k,(IntKind.i64.wrap (y_44 + 1)),h,rfl,rfl⟩
    ·refine Ex.condF _ rfl hc_48 ?_
     refine Ex.exit ?_
     (try simp only [reduceCtorEq,AEx.ex.injEq,Nat.reduceEqDiff,if_true,if_false])
     exact ⟨_,_,forgetA (m:=46) 0 [] [] [] [] (by simp [setAll]) (by simp) trivial (by simp) rfl (by decide),h,rfl,rfl⟩
  ·rintro a S ⟨h,rfl,rfl⟩
   subst hK_43
   refine Ex.seq (rg 1 [2] (mkS 46 [(2,i6 0)]) ⟨[],[]⟩ ?_)
   refine Ex.ret ?_
   obtain rfl:=sJ h
   exact rt (i6 0)
def p_band_firstOf_band_request_clash_band_request_throng_band_request_noise (N : Nat) (a_1 : T_band_request) (a_2 : T_band_request) (a_3 : T_band_request) : Option (Int):=(letJ (fun (_ : Unit) => some 0) (fun k_4 => ((p_band_request_clash N a_1).bind fun r_7 => (bif (r_7 != 0) then some r_7 else ((p_band_request_throng N a_2).bind fun r_9 => (bif (r_9 != 0) then some r_9 else ((p_band_request_noise N a_3).bind fun r_11 => (bif (r_11 != 0) then some r_11 else (k_4 ())))))))))
def v_band_firstOf_band_request_clash_band_request_throng_band_request_noise (r : Int) : AV:=i6 r
attribute [local simp] v_band_firstOf_band_request_clash_band_request_throng_band_request_noise
theorem b_band_firstOf_band_request_clash_band_request_throng_band_request_noise (r : Int) (n n2 m : Nat) : back n n2 m (v_band_firstOf_band_request_clash_band_request_throng_band_request_noise r) = some (v_band_firstOf_band_request_clash_band_request_throng_band_request_noise r):=by simp
theorem d_band_firstOf_band_request_clash_band_request_throng_band_request_noise (N : Nat) (a_1 : T_band_request) (a_2 : T_band_request) (a_3 : T_band_request) (r : Int) (h : p_band_firstOf_band_request_clash_band_request_throng_band_request_noise N a_1 a_2 a_3 = some r) : Does Tryd.prog 50 [.sl [.fn 51 [(A_band_request a_1)] [],.fn 52 [(A_band_request a_2)] [],.fn 53 [(A_band_request a_3)] []] none] [] fun v c => v = v_band_firstOf_band_request_clash_band_request_throng_band_request_noise r ∧ c = []:=by
 unfold p_band_firstOf_band_request_clash_band_request_throng_band_request_noise at h
 refine Does.ofL comp50 _ _ rfl rfl ?_
 refine Ex.seq (rg 1 [0] (mkS 18 [(0,.sl [.fn 51 [(A_band_request a_1)] [],.fn 52 [(A_band_request a_2)] [],.fn 53 [(A_band_request a_3)] []] none)]) ⟨[],[]⟩ ?_)
 refine Ex.seq (Ex.seq ?_)
 refine rg 3 [6,7,8] (mkS 18 [(6,.sl [.fn 51 [(A_band_request a_1)] [],.fn 52 [(A_band_request a_2)] [],.fn 53 [(A_band_request a_3)] []] none),(7,i6 3),(8,i6 0)]) ⟨[],[]⟩ ?_
 obtain ⟨K_5,hK_6,h⟩:=letE h
 refine Ex.blockJ (fun a S => K_5 () = some r ∧ a = mkS 18 [] ∧ S = ⟨[],[]⟩) ?_ ?_
 ·refine Ex.unroll 32 ?_
  refine Unr.step ?_
  refine Ex.seq (rg 1 [6,7,8,9] (mkS 18 [(6,.sl [.fn 51 [(A_band_request a_1)] [],.fn 52 [(A_band_request a_2)] [],.fn 53 [(A_band_request a_3)] []] none),(7,i6 3),(8,i6 0),(9,.bool true)]) ⟨[],[]⟩ ?_)
  refine Ex.seq ?_
  refine Ex.cond (b:=true) rfl ?_
  refine Ex.skip ?_
  refine Ex.seq ?_
  refine Ex.blockK ?_
  refine Ex.seq (rg 3 [4,6,7,8] (mkS 18 [(4,.fn 51 [(A_band_request a_1)] []),(6,.sl [.fn 51 [(A_band_request a_1)] [],.fn 52 [(A_band_request a_2)] [],.fn 53 [(A_band_request a_3)] []] none),(7,i6 3),(8,i6 0)]) ⟨[],[]⟩ ?_)
  refine Ex.seq ?_
  obtain ⟨r_7,hr_7,h⟩:=bE h
  refine Ex.reg (rn 1 [6,7,8,12] (mkS 18 [(6,.sl [.fn 51 [(A_band_request a_1)] [],.fn 52 [(A_band_request a_2)] [],.fn 53 [(A_band_request a_3)] []] none),(7,i6 3),(8,i6 0),(12,.fn 51 [(A_band_request a_1)] [])]) ⟨[],[]⟩ ?_)
  refine ExO.callL [] [(A_band_request a_1)] rfl rfl (a_band_request_clash a_1) rfl rfl (d_band_request_clash N a_1 r_7 hr_7) (b_band_request_clash _ _ _ _) rfl ?_
  refine rn 1 [5,6,7,8] (mkS 18 [(5,i6 r_7),(6,.sl [.fn 51 [(A_band_request a_1)] [],.fn 52 [(A_band_request a_2)] [],.fn 53 [(A_band_request a_3)] []] none),(7,i6 3),(8,i6 0)]) ⟨[],[]⟩ ?_
  refine ExO.nil ?_
  refine Ex.seq (rg 2 [5,6,7,8,15] (mkS 18 [(5,i6 r_7),(6,.sl [.fn 51 [(A_band_request a_1)] [],.fn 52 [(A_band_request a_2)] [],.fn 53 [(A_band_request a_3)] []] none),(7,i6 3),(8,i6 0),(15,.bool (r_7 != 0))]) ⟨[],[]⟩ ?_)
  rcases condI h with ⟨hc_8,h⟩ | ⟨hc_8,h⟩
  ·refine Ex.condT _ rfl hc_8 ?_
   refine Ex.seq (rg 2 [2] (mkS 18 [(2,i6 r_7)]) ⟨[],[]⟩ ?_)
   refine Ex.ret ?_
   obtain rfl:=sJ h
   exact rt (i6 r_7)
  ·refine Ex.condF _ rfl hc_8 ?_
   refine Ex.skip ?_
   refine rg 2 [6,7,8] (mkS 18 [(6,.sl [.fn 51 [(A_band_request a_1)] [],.fn 52 [(A_band_request a_2)] [],.fn 53 [(A_band_request a_3)] []] none),(7,i6 3),(8,i6 1)]) ⟨[],[]⟩ ?_
   dsimp only
   refine Unr.step ?_
   refine Ex.seq (rg 1 [6,7,8,9] (mkS 18 [(6,.sl [.fn 51 [(A_band_request a_1)] [],.fn 52 [(A_band_request a_2)] [],.fn 53 [(A_band_request a_3)] []] none),(7,i6 3),(8,i6 1),(9,.bool true)]) ⟨[],[]⟩ ?_)
   refine Ex.seq ?_
   refine Ex.cond (b:=true) rfl ?_
   refine Ex.skip ?_
   refine Ex.seq ?_
   refine Ex.blockK ?_
   refine Ex.seq (rg 3 [4,6,7,8] (mkS 18 [(4,.fn 52 [(A_band_request a_2)] []),(6,.sl [.fn 51 [(A_band_request a_1)] [],.fn 52 [(A_band_request a_2)] [],.fn 53 [(A_band_request a_3)] []] none),(7,i6 3),(8,i6 1)]) ⟨[],[]⟩ ?_)
   refine Ex.seq ?_
   obtain ⟨r_9,hr_9,h⟩:=bE h
   refine Ex.reg (rn 1 [6,7,8,12] (mkS 18 [(6,.sl [.fn 51 [(A_band_request a_1)] [],.fn 52 [(A_band_request a_2)] [],.fn 53 [(A_band_request a_3)] []] none),(7,i6 3),(8,i6 1),(12,.fn 52 [(A_band_request a_2)] [])]) ⟨[],[]⟩ ?_)
   refine ExO.callL [] [(A_band_request a_2)] rfl rfl (a_band_request_throng a_2) rfl rfl (d_band_request_throng N a_2 r_9 hr_9) (b_band_request_throng _ _ _ _) rfl ?_
   refine rn 1 [5,6,7,8] (mkS 18 [(5,i6 r_9),(6,.sl [.fn 51 [(A_band_request a_1)] [],.fn 52 [(A_band_request a_2)] [],.fn 53 [(A_band_request a_3)] []] none),(7,i6 3),(8,i6 1)]) ⟨[],[]⟩ ?_
   refine ExO.nil ?_
   refine Ex.seq (rg 2 [5,6,7,8,15] (mkS 18 [(5,i6 r_9),(6,.sl [.fn 51 [(A_band_request a_1)] [],.fn 52 [(A_band_request a_2)] [],.fn 53 [(A_band_request a_3)] []] none),(7,i6 3),(8,i6 1),(15,.bool (r_9 != 0))]) ⟨[],[]⟩ ?_)
   rcases condI h with ⟨hc_10,h⟩ | ⟨hc_10,h⟩
   ·refine Ex.condT _ rfl hc_10 ?_
    refine Ex.seq (rg 2 [2] (mkS 18 [(2,i6 r_9)]) ⟨[],[]⟩ ?_)
    refine Ex.ret ?_
    obtain rfl:=sJ h
    exact rt (i6 r_9)
   ·refine Ex.condF _ rfl hc_10 ?_
    refine Ex.skip ?_
    refine rg 2 [6,7,8] (mkS 18 [(6,.sl [.fn 51 [(A_band_request a_1)] [],.fn 52 [(A_band_request a_2)] [],.fn 53 [(A_band_request a_3)] []] none),(7,i6 3),(8,i6 2)]) ⟨[],[]⟩ ?_
    dsimp only
    refine Unr.step ?_
    refine Ex.seq (rg 1 [6,7,8,9] (mkS 18 [(6,.sl [.fn 51 [(A_band_request a_1)] [],.fn 52 [(A_band_request a_2)] [],.fn 53 [(A_band_request a_3)] []] none),(7,i6 3),(8,i6 2),(9,.bool true)]) ⟨[],[]⟩ ?_)
    refine Ex.seq ?_
    refine Ex.cond (b:=true) rfl ?_
    refine Ex.skip ?_
    refine Ex.seq ?_
    refine Ex.blockK ?_
    refine Ex.seq (rg 3 [4,6,7,8] (mkS 18 [(4,.fn 53 [(A_band_request a_3)] []),(6,.sl [.fn 51 [(A_band_request a_1)] [],.fn 52 [(A_band_request a_2)] [],.fn 53 [(A_band_request a_3)] []] none),(7,i6 3),(8,i6 2)]) ⟨[],[]⟩ ?_)
    refine Ex.seq ?_
    obtain ⟨r_11,hr_11,h⟩:=bE h
    refine Ex.reg (rn 1 [6,7,8,12] (mkS 18 [(6,.sl [.fn 51 [(A_band_request a_1)] [],.fn 52 [(A_band_request a_2)] [],.fn 53 [(A_band_request a_3)] []] none),(7,i6 3),(8,i6 2),(12,.fn 53 [(A_band_request a_3)] [])]) ⟨[],[]⟩ ?_)
    refine ExO.callL [] [(A_band_request a_3)] rfl rfl (a_band_request_noise a_3) rfl rfl (d_band_request_noise N a_3 r_11 hr_11) (b_band_request_noise _ _ _ _) rfl ?_
    refine rn 1 [5,6,7,8] (mkS 18 [(5,i6 r_11),(6,.sl [.fn 51 [(A_band_request a_1)] [],.fn 52 [(A_band_request a_2)] [],.fn 53 [(A_band_request a_3)] []] none),(7,i6 3),(8,i6 2)]) ⟨[],[]⟩ ?_
    refine ExO.nil ?_
    refine Ex.seq (rg 2 [5,6,7,8,15] (mkS 18 [(5,i6 r_11),(6,.sl [.fn 51 [(A_band_request a_1)] [],.fn 52 [(A_band_request a_2)] [],.fn 53 [(A_band_request a_3)] []] none),(7,i6 3),(8,i6 2),(15,.bool (r_11 != 0))]) ⟨[],[]⟩ ?_)
    rcases condI h with ⟨hc_12,h⟩ | ⟨hc_12,h⟩
    ·refine Ex.condT _ rfl hc_12 ?_
     refine Ex.seq (rg 2 [2] (mkS 18 [(2,i6 r_11)]) ⟨[],[]⟩ ?_)
     refine Ex.ret ?_
     obtain rfl:=sJ h
     exact rt (i6 r_11)
    ·refine Ex.condF _ rfl hc_12 ?_
     refine Ex.skip ?_
     refine rg 2 [6,7,8] (mkS 18 [(6,.sl [.fn 51 [(A_band_request a_1)] [],.fn 52 [(A_band_request a_2)] [],.fn 53 [(A_band_request a_3)] []] none),(7,i6 3),(8,i6 3)]) ⟨[],[]⟩ ?_
     dsimp only
     refine Unr.step ?_
     refine Ex.seq (rg 1 [6,7,8,9] (mkS 18 [(6,.sl [.fn 51 [(A_band_request a_1)] [],.fn 52 [(A_band_request a_2)] [],.fn 53 [(A_band_request a_3)] []] none),(7,i6 3),(8,i6 3),(9,.bool false)]) ⟨[],[]⟩ ?_)
     refine Ex.seq ?_
     refine Ex.cond (b:=false) rfl ?_
     refine Ex.exit ?_
     (try simp only [reduceCtorEq,AEx.ex.injEq,Nat.reduceEqDiff,if_true,if_false])
     exact ⟨_,_,forgetK [],h,rfl,rfl⟩
 ·rintro a S ⟨h,rfl,rfl⟩
  subst hK_6
  refine Ex.seq (rg 1 [2] (mkS 18 [(2,i6 0)]) ⟨[],[]⟩ ?_)
  refine Ex.ret ?_
  obtain rfl:=sJ h
  exact rt (i6 0)
def p_band_requests_wrong (N : Nat) (r_1 : T_band_requests) (band_2 : Int) (granted_3 : Int) : Option (Int):=((p_band_firstOf_band_request_clash_band_request_throng_band_request_noise N (⟨r_1,band_2,granted_3⟩ : T_band_request) (⟨r_1,band_2,granted_3⟩ : T_band_request) (⟨r_1,band_2,granted_3⟩ : T_band_request)).bind fun r_4 => some r_4)
def v_band_requests_wrong (r : Int) : AV:=i6 r
attribute [local simp] v_band_requests_wrong
theorem a_band_requests_wrong (r_1 : T_band_requests) (band_2 : Int) (granted_3 : Int) : [(A_band_requests r_1),i6 band_2,.int .u64 granted_3].mapM (ren []) = some [(A_band_requests r_1),i6 band_2,.int .u64 granted_3]:=by simp
theorem b_band_requests_wrong (r : Int) (n n2 m : Nat) : back n n2 m (v_band_requests_wrong r) = some (v_band_requests_wrong r):=by simp
theorem d_band_requests_wrong (N : Nat) (r_1 : T_band_requests) (band_2 : Int) (granted_3 : Int) (r : Int) (h : p_band_requests_wrong N r_1 band_2 granted_3 = some r) : Does Tryd.prog 41 [(A_band_requests r_1),i6 band_2,.int .u64 granted_3] [] fun v c => v = v_band_requests_wrong r ∧ c = []:=by
 unfold p_band_requests_wrong at h
 refine Does.ofL comp41 _ _ rfl rfl ?_
 refine Ex.seq (rg 2 [1,2,3] (mkS 20 [(1,i6 band_2),(2,.int .u64 granted_3),(3,.ptr 0 0)]) ⟨[(C_band_requests r_1)],[]⟩ ?_)
 refine Ex.seq (rg 6 [7] (mkS 20 [(7,.ptr 1 0)]) ⟨[(C_band_requests r_1),[.sl (r_1.city_.Town.Rooms.map (AV.int .i64)) none,.sl (r_1.city_.Town.Streets.map A_Street) none,.sl (r_1.city_.Town.Groups.map A_Group) none,i6 r_1.city_.Town.Steps,i6 r_1.city_.Break,.sl (r_1.city_.Sleep.map (AV.int .i64)) none,.sl (r_1.tours_.map A_band_tour) none,.sl (r_1.crosses_.map (AV.int .u64)) none,i6 band_2,.int .u64 granted_3]],[]⟩ ?_)
 refine Ex.seq ?_
 obtain ⟨r_4,hr_4,h⟩:=bE h
 refine Ex.reg (rn 7 [18] (mkS 20 [(18,.sl [.fn 51 [.agg [.sl (r_1.city_.Town.Rooms.map (AV.int .i64)) none,.sl (r_1.city_.Town.Streets.map A_Street) none,.sl (r_1.city_.Town.Groups.map A_Group) none,i6 r_1.city_.Town.Steps,i6 r_1.city_.Break,.sl (r_1.city_.Sleep.map (AV.int .i64)) none,.sl (r_1.tours_.map A_band_tour) none,.sl (r_1.crosses_.map (AV.int .u64)) none,i6 band_2,.int .u64 granted_3]] [],.fn 52 [.agg [.sl (r_1.city_.Town.Rooms.map (AV.int .i64)) none,.sl (r_1.city_.Town.Streets.map A_Street) none,.sl (r_1.city_.Town.Groups.map A_Group) none,i6 r_1.city_.Town.Steps,i6 r_1.city_.Break,.sl (r_1.city_.Sleep.map (AV.int .i64)) none,.sl (r_1.tours_.map A_band_tour) none,.sl (r_1.crosses_.map (AV.int .u64)) none,i6 band_2,.int .u64 granted_3]] [],.fn 53 [.agg [.sl (r_1.city_.Town.Rooms.map (AV.int .i64)) none,.sl (r_1.city_.Town.Streets.map A_Street) none,.sl (r_1.city_.Town.Groups.map A_Group) none,i6 r_1.city_.Town.Steps,i6 r_1.city_.Break,.sl (r_1.city_.Sleep.map (AV.int .i64)) none,.sl (r_1.tours_.map A_band_tour) none,.sl (r_1.crosses_.map (AV.int .u64)) none,i6 band_2,.int .u64 granted_3]] []] (some 0))]) ⟨[(C_band_requests r_1),[.sl (r_1.city_.Town.Rooms.map (AV.int .i64)) none,.sl (r_1.city_.Town.Streets.map A_Street) none,.sl (r_1.city_.Town.Groups.map A_Group) none,i6 r_1.city_.Town.Steps,i6 r_1.city_.Break,.sl (r_1.city_.Sleep.map (AV.int .i64)) none,.sl (r_1.tours_.map A_band_tour) none,.sl (r_1.crosses_.map (AV.int .u64)) none,i6 band_2,.int .u64 granted_3]],[(3,1)]⟩ ?_)
 refine ExO.callL [] [.sl [.fn 51 [.agg [.sl (r_1.city_.Town.Rooms.map (AV.int .i64)) none,.sl (r_1.city_.Town.Streets.map A_Street) none,.sl (r_1.city_.Town.Groups.map A_Group) none,i6 r_1.city_.Town.Steps,i6 r_1.city_.Break,.sl (r_1.city_.Sleep.map (AV.int .i64)) none,.sl (r_1.tours_.map A_band_tour) none,.sl (r_1.crosses_.map (AV.int .u64)) none,i6 band_2,.int .u64 granted_3]] [],.fn 52 [.agg [.sl (r_1.city_.Town.Rooms.map (AV.int .i64)) none,.sl (r_1.city_.Town.Streets.map A_Street) none,.sl (r_1.city_.Town.Groups.map A_Group) none,i6 r_1.city_.Town.Steps,i6 r_1.city_.Break,.sl (r_1.city_.Sleep.map (AV.int .i64)) none,.sl (r_1.tours_.map A_band_tour) none,.sl (r_1.crosses_.map (AV.int .u64)) none,i6 band_2,.int .u64 granted_3]] [],.fn 53 [.agg [.sl (r_1.city_.Town.Rooms.map (AV.int .i64)) none,.sl (r_1.city_.Town.Streets.map A_Street) none,.sl (r_1.city_.Town.Groups.map A_Group) none,i6 r_1.city_.Town.Steps,i6 r_1.city_.Break,.sl (r_1.city_.Sleep.map (AV.int .i64)) none,.sl (r_1.tours_.map A_band_tour) none,.sl (r_1.crosses_.map (AV.int .u64)) none,i6 band_2,.int .u64 granted_3]] []] (some 0)] rfl rfl (by simp; try rfl) rfl rfl (d_band_firstOf_band_request_clash_band_request_throng_band_request_noise N (⟨r_1,band_2,granted_3⟩ : T_band_request) (⟨r_1,band_2,granted_3⟩ : T_band_request) (⟨r_1,band_2,granted_3⟩ : T_band_request) r_4 hr_4) (b_band_firstOf_band_request_clash_band_request_throng_band_request_noise _ _ _ _) rfl ?_
 refine rn 1 [6] (mkS 20 [(6,i6 r_4)]) ⟨[(C_band_requests r_1),[.sl (r_1.city_.Town.Rooms.map (AV.int .i64)) none,.sl (r_1.city_.Town.Streets.map A_Street) none,.sl (r_1.city_.Town.Groups.map A_Group) none,i6 r_1.city_.Town.Steps,i6 r_1.city_.Break,.sl (r_1.city_.Sleep.map (AV.int .i64)) none,.sl (r_1.tours_.map A_band_tour) none,.sl (r_1.crosses_.map (AV.int .u64)) none,i6 band_2,.int .u64 granted_3]],[(3,1)]⟩ ?_
 refine ExO.nil ?_
 refine Ex.ret ?_
 obtain rfl:=sJ h
 exact rt (i6 r_4)
def p_band_Grant (N : Nat) (c_1 : T_City) (l_2 : (List T_Band)) : Option ((List Int) × Int):=((p_band_toursOf N c_1 l_2).bind fun r_3 => (bif (r_3.2 != 0) then some ([],r_3.2) else ((p_band_requestsOf N c_1 r_3.1).bind fun r_5 => (letJ (fun (answers_6 : List Int) => some (answers_6,0)) (fun k_7 => (loop3 (fun rec_13 (granted_10 : Int) (answers_11 : List Int) (y_12 : Int) => (bif (decide (y_12 < ((r_3.1.length : Nat) : Int))) then (letJ (fun (granted_17 : Int) (answers_18 : List Int) => (rec_13 granted_17 answers_18 (IntKind.i64.wrap (y_12 + 1)))) (fun k_19 => ((p_band_requests_wrong N r_5 y_12 granted_10).bind fun r_22 => (bif (r_22 == 0) then ((p_band_choice_with N granted_10 y_12).bind fun r_24 => ((pushI answers_11 ([r_22] : List Int)).bind fun l_25 => (k_19 r_24 l_25))) else ((pushI answers_11 ([r_22] : List Int)).bind fun l_26 => (k_19 granted_10 l_26)))))) else (k_7 answers_11))) N 0 [] 0))))))
def v_band_Grant (r : (List Int) × Int) : AV:=.tup [.sl (r.1.map (AV.int .i64)) none,i6 r.2]
attribute [local simp] v_band_Grant
theorem a_band_Grant (c_1 : T_City) (l_2 : (List T_Band)) : [(A_City c_1),.sl (l_2.map A_Band) none].mapM (ren []) = some [(A_City c_1),.sl (l_2.map A_Band) none]:=by simp
theorem b_band_Grant (r : (List Int) × Int) (n n2 m : Nat) : back n n2 m (v_band_Grant r) = some (v_band_Grant r):=by simp
theorem d_band_Grant (N : Nat) (c_1 : T_City) (l_2 : (List T_Band)) (r : (List Int) × Int) (h : p_band_Grant N c_1 l_2 = some r) : Does Tryd.prog 25 [(A_City c_1),.sl (l_2.map A_Band) none] [] fun v c => v = v_band_Grant r ∧ c = []:=by
 unfold p_band_Grant at h
 refine Does.ofL comp25 _ _ rfl rfl ?_
 refine Ex.seq (rg 3 [1,2] (mkS 45 [(1,.sl (l_2.map A_Band) none),(2,.ptr 0 0)]) ⟨[(C_City c_1)],[]⟩ ?_)
 refine Ex.seq ?_
 obtain ⟨r_3,hr_3,h⟩:=bE h
 refine Ex.reg (rn 2 [2,14,15] (mkS 45 [(2,.ptr 0 0),(14,(A_City c_1)),(15,.sl (l_2.map A_Band) none)]) ⟨[(C_City c_1)],[]⟩ ?_)
 refine ExO.callL [] [(A_City c_1),.sl (l_2.map A_Band) none] rfl rfl (a_band_toursOf c_1 l_2) rfl rfl (d_band_toursOf N c_1 l_2 r_3 hr_3) (b_band_toursOf _ _ _ _) rfl ?_
 refine rn 5 [2,6,7] (mkS 45 [(2,.ptr 0 0),(6,.sl (r_3.1.map A_band_tour) none),(7,i6 r_3.2)]) ⟨[(C_City c_1)],[]⟩ ?_
 refine ExO.nil ?_
 refine Ex.seq (Ex.seq ?_)
 refine rg 2 [2,6,7,20] (mkS 45 [(2,.ptr 0 0),(6,.sl (r_3.1.map A_band_tour) none),(7,i6 r_3.2),(20,.bool (r_3.2 != 0))]) ⟨[(C_City c_1)],[]⟩ ?_
 rcases condI h with ⟨hc_4,h⟩ | ⟨hc_4,h⟩
 ·refine Ex.condT _ rfl hc_4 ?_
  refine Ex.seq (rg 3 [4,5] (mkS 45 [(4,.nils),(5,i6 r_3.2)]) ⟨[(C_City c_1)],[]⟩ ?_)
  refine Ex.ret ?_
  obtain rfl:=sJ h
  exact rt (.tup [.nils,i6 r_3.2])
 ·refine Ex.condF _ rfl hc_4 ?_
  refine Ex.skip ?_
  refine Ex.seq ?_
  obtain ⟨r_5,hr_5,h⟩:=bE h
  refine Ex.reg (rn 2 [6,22,23] (mkS 45 [(6,.sl (r_3.1.map A_band_tour) none),(22,(A_City c_1)),(23,.sl (r_3.1.map A_band_tour) none)]) ⟨[(C_City c_1)],[]⟩ ?_)
  refine ExO.callL [] [(A_City c_1),.sl (r_3.1.map A_band_tour) none] rfl rfl (a_band_requestsOf c_1 r_3.1) rfl rfl (d_band_requestsOf N c_1 r_3.1 r_5 hr_5) (b_band_requestsOf _ _ _ _) rfl ?_
  refine rn 2 [6,8] (mkS 45 [(6,.sl (r_3.1.map A_band_tour) none),(8,.ptr 1 0)]) ⟨[(C_City c_1),(C_band_requests r_5)],[]⟩ ?_
  refine ExO.nil ?_
  refine Ex.seq (rg 1 [6,8,9] (mkS 45 [(6,.sl (r_3.1.map A_band_tour) none),(8,.ptr 1 0),(9,.int .u64 0)]) ⟨[(C_City c_1),(C_band_requests r_5)],[]⟩ ?_)
  refine Ex.seq (rg 1 [6,8,9,10] (mkS 45 [(6,.sl (r_3.1.map A_band_tour) none),(8,.ptr 1 0),(9,.int .u64 0),(10,.nils)]) ⟨[(C_City c_1),(C_band_requests r_5)],[]⟩ ?_)
  refine Ex.seq (Ex.seq ?_)
  refine regH 3 [(1,.eq (i6 ((r_3.1.length : Nat) : Int)))] [8,9,10,26,27] [AV.int .i64 (((r_3.1.map A_band_tour).length : Nat) : Int) = AV.int .i64 ((r_3.1.length : Nat) : Int)] (mkS 45 [(8,.ptr 1 0),(9,.int .u64 0),(10,.nils),(26,i6 ((r_3.1.length : Nat) : Int)),(27,i6 0)]) (⟨[(C_City c_1),(C_band_requests r_5)],[]⟩) (by kernel_rfl) ⟨lenM _ _,trivial⟩ rfl ?_
  obtain ⟨K_8,hK_9,h⟩:=letE h
  refine Ex.blockJ (fun a S => ∃ (answers_6 : List Int),K_8 answers_6 = some r ∧ a = mkS 45 [(10,.sl (answers_6.map (AV.int .i64)) (some 0))] ∧ S = ⟨[],[(answers_6.length,1)]⟩) ?_ ?_
  ·refine Ex.forget (nilK 10 1 rfl) ?_
   refine Ex.castA (a2:=mkS 45 [(8,.ptr 1 0),(9,.int .u64 0),(10,.sl (([] : List Int).map (AV.int .i64)) (some 0)),(26,i6 ((r_3.1.length : Nat) : Int)),(27,i6 0)]) (S2:=⟨[(C_City c_1),(C_band_requests r_5)],[(0,1)]⟩) (by kernel_rfl) (by kernel_rfl) ?_
   obtain ⟨B_14,hB_15,h⟩:=loop3I h
   refine Ex.loopF (fun k a S => ∃ (granted_10 : Int),∃ (answers_11 : List Int),∃ (y_12 : Int),loop3 B_14 k granted_10 answers_11 y_12 = some r ∧ a = mkS 45 [(8,.ptr 1 0),(9,.int .u64 granted_10),(10,.sl (answers_11.map (AV.int .i64)) (some 0)),(26,i6 ((r_3.1.length : Nat) : Int)),(27,i6 y_12)] ∧ S = ⟨[(C_City c_1),(C_band_requests r_5)],[(answers_11.length,1)]⟩) N ⟨_,_,Forgets.refl _ _ _,0,[],0,h,rfl,rfl⟩ ?_
   rintro k a S ⟨granted_10,answers_11,y_12,h,rfl,rfl⟩
   cases k with
   | zero => exact (loop3Z h).elim
   | succ k =>
    replace h:=loop3S h hB_15
    refine Ex.seq (rg 1 [8,9,10,26,27,28] (mkS 45 [(8,.ptr 1 0),(9,.int .u64 granted_10),(10,.sl (answers_11.map (AV.int .i64)) (some 0)),(26,i6 ((r_3.1.length : Nat) : Int)),(27,i6 y_12),(28,.bool (decide (y_12 < ((r_3.1.length : Nat) : Int))))]) ⟨[(C_City c_1),(C_band_requests r_5)],[(answers_11.length,1)]⟩ ?_)
    refine Ex.seq ?_
    rcases condI h with ⟨hc_16,h⟩ | ⟨hc_16,h⟩
    ·refine Ex.condT _ rfl hc_16 ?_
     refine Ex.skip ?_
     refine Ex.seq ?_
     obtain ⟨K_20,hK_21,h⟩:=letE h
     refine Ex.blockJ (fun a S => ∃ (granted_17 : Int),∃ (answers_18 : List Int),K_20 granted_17 answers_18 = some r ∧ a = mkS 45 [(8,.ptr 1 0),(9,.int .u64 granted_17),(10,.sl (answers_18.map (AV.int .i64)) (some 0)),(26,i6 ((r_3.1.length : Nat) : Int)),(27,i6 y_12)] ∧ S = ⟨[(C_City c_1),(C_band_requests r_5)],[(answers_18.length,1)]⟩) ?_ ?_
     ·refine Ex.seq (rg 2 [8,9,10,11,26,27] (mkS 45 [(8,.ptr 1 0),(9,.int .u64 granted_10),(10,.sl (answers_11.map (AV.int .i64)) (some 0)),(11,i6 y_12),(26,i6 ((r_3.1.length : Nat) : Int)),(27,i6 y_12)]) ⟨[(C_City c_1),(C_band_requests r_5)],[(answers_11.length,1)]⟩ ?_)
      refine Ex.seq ?_
      obtain ⟨r_22,hr_22,h⟩:=bE h
      refine Ex.reg (rn 3 [8,9,10,11,26,27,30,31,32] (mkS 45 [(8,.ptr 1 0),(9,.int .u64 granted_10),(10,.sl (answers_11.map (AV.int .i64)) (some 0)),(11,i6 y_12),(26,i6 ((r_3.1.length : Nat) : Int)),(27,i6 y_12),(30,(A_band_requests r_5)),(31,i6 y_12),(32,.int .u64 granted_10)]) ⟨[(C_City c_1),(C_band_requests r_5)],[(answers_11.length,1)]⟩ ?_)
      refine ExO.callL [] [(A_band_requests r_5),i6 y_12,.int .u64 granted_10] rfl rfl (a_band_requests_wrong r_5 y_12 granted_10) rfl rfl (d_band_requests_wrong N r_5 y_12 granted_10 r_22 hr_22) (b_band_requests_wrong _ _ _ _) rfl ?_
      refine rn 1 [8,9,10,11,12,26,27] (mkS 45 [(8,.ptr 1 0),(9,.int .u64 granted_10),(10,.sl (answers_11.map (AV.int .i64)) (some 0)),(11,i6 y_12),(12,i6 r_22),(26,i6 ((r_3.1.length : Nat) : Int)),(27,i6 y_12)]) ⟨[(C_City c_1),(C_band_requests r_5)],[(answers_11.length,1)]⟩ ?_
      refine ExO.nil ?_
      refine Ex.seq (Ex.seq ?_)
      refine rg 2 [8,9,10,11,12,26,27,35] (mkS 45 [(8,.ptr 1 0),(9,.int .u64 granted_10),(10,.sl (answers_11.map (AV.int .i64)) (some 0)),(11,i6 y_12),(12,i6 r_22),(26,i6 ((r_3.1.length : Nat) : Int)),(27,i6 y_12),(35,.bool (r_22 == 0))]) ⟨[(C_City c_1),(C_band_requests r_5)],[(answers_11.length,1)]⟩ ?_
      rcases condI h with ⟨hc_23,h⟩ | ⟨hc_23,h⟩
      ·refine Ex.condT _ rfl hc_23 ?_
       obtain ⟨r_24,hr_24,h⟩:=bE h
       refine Ex.reg (rn 2 [8,10,12,26,27,36,37] (mkS 45 [(8,.ptr 1 0),(10,.sl (answers_11.map (AV.int .i64)) (some 0)),(12,i6 r_22),(26,i6 ((r_3.1.length : Nat) : Int)),(27,i6 y_12),(36,.int .u64 granted_10),(37,i6 y_12)]) ⟨[(C_City c_1),(C_band_requests r_5)],[(answers_11.length,1)]⟩ ?_)
       refine ExO.callL [] [.int .u64 granted_10,i6 y_12] rfl rfl (a_band_choice_with granted_10 y_12) rfl rfl (d_band_choice_with N granted_10 y_12 r_24 hr_24) (b_band_choice_with _ _ _ _) rfl ?_
       refine rn 1 [8,9,10,12,26,27] (mkS 45 [(8,.ptr 1 0),(9,.int .u64 r_24),(10,.sl (answers_11.map (AV.int .i64)) (some 0)),(12,i6 r_22),(26,i6 ((r_3.1.length : Nat) : Int)),(27,i6 y_12)]) ⟨[(C_City c_1),(C_band_requests r_5)],[(answers_11.length,1)]⟩ ?_
       refine ExO.nil ?_
       obtain ⟨l_25,hl_25,h⟩:=bE h
       refine regH 5 [(3,.app (l_25.map (AV.int .i64)) l_25.length)] [8,9,10,26,27] [LApp answers_11.length (answers_11.map (AV.int .i64)) (([r_22] : List Int).map (AV.int .i64)) 1 (l_25.map (AV.int .i64)) l_25.length] (mkS 45 [(8,.ptr 1 0),(9,.int .u64 r_24),(10,.sl (l_25.map (AV.int .i64)) (some 0)),(26,i6 ((r_3.1.length : Nat) : Int)),(27,i6 y_12)]) (⟨[(C_City c_1),(C_band_requests r_5)],[(l_25.length,1),(1,1)]⟩) (by kernel_rfl) ⟨LApp.of hl_25 (fun _ => rfl),trivial⟩ rfl ?_
       (try simp only [reduceCtorEq,AEx.ex.injEq,Nat.reduceEqDiff,if_true,if_false])
       exact ⟨_,_,forgetA (m:=45) 2 [0] [(8,.ptr 1 0),(9,.int .u64 r_24),(10,.sl (l_25.map (AV.int .i64)) (some 0)),(26,i6 ((r_3.1.length : Nat) : Int)),(27,i6 y_12)] [(C_City c_1),(C_band_requests r_5)] [(l_25.length,1)] (by simp [setAll]) (by simp) ⟨rfl,rfl,(reT (cleanI _ _) rfl),rfl,rfl,trivial⟩ (by simp) rfl (by decide),r_24,l_25,h,rfl,rfl⟩
      ·refine Ex.condF _ rfl hc_23 ?_
       refine Ex.skip ?_
       obtain ⟨l_26,hl_26,h⟩:=bE h
       refine regH 5 [(3,.app (l_26.map (AV.int .i64)) l_26.length)] [8,9,10,26,27] [LApp answers_11.length (answers_11.map (AV.int .i64)) (([r_22] : List Int).map (AV.int .i64)) 1 (l_26.map (AV.int .i64)) l_26.length] (mkS 45 [(8,.ptr 1 0),(9,.int .u64 granted_10),(10,.sl (l_26.map (AV.int .i64)) (some 0)),(26,i6 ((r_3.1.length : Nat) : Int)),(27,i6 y_12)]) (⟨[(C_City c_1),(C_band_requests r_5)],[(l_26.length,1),(1,1)]⟩) (by kernel_rfl) ⟨LApp.of hl_26 (fun _ => rfl),trivial⟩ rfl ?_
       (try simp only [reduceCtorEq,AEx.ex.injEq,Nat.reduceEqDiff,if_true,if_false])
       exact ⟨_,_,forgetA (m:=45) 2 [0] [(8,.ptr 1 0),(9,.int .u64 granted_10),(10,.sl (l_26.map (AV.int .i64)) (some 0)),(26,i6 ((r_3.1.length : Nat) : Int)),(27,i6 y_12)] [(C_City c_1),(C_band_requests r_5)] [(l_26.length,1)] (by simp [setAll]) (by simp) ⟨rfl,rfl,(reT (cleanI _ _) rfl),rfl,rfl,trivial⟩ (by simp) rfl (by decide),granted_10,l_26,h,rfl,rfl⟩
     ·rintro a S ⟨granted_17,answers_18,h,rfl,rfl⟩
      subst hK_21
      refine rg 2 [8,9,10,26,27] (mkS 45 [(8,.ptr 1 0),(9,.int .u64 granted_17),(10,.sl (answers_18.map (AV.int .i64)) (some 0)),(26,i6 ((r_3.1.length : Nat) : Int)),(27,i6 (IntKind.i64.wrap (y_12 + 1)))]) ⟨[(C_City c_1),(C_band_requests r_5)],[(answers_18.length,1)]⟩ ?_
      dsimp only
      exact ⟨_,_,Forgets.refl _ _ _,k,Nat.lt_succ_self k,granted_17,answers_18,(IntKind.i64.wrap (y_12 + 1)),h,rfl,rfl⟩
    ·refine Ex.condF _ rfl hc_16 ?_
     refine Ex.exit ?_
     (try simp only [reduceCtorEq,AEx.ex.injEq,Nat.reduceEqDiff,if_true,if_false])
     exact ⟨_,_,forgetA (m:=45) 0 [0] [(10,.sl (answers_11.map (AV.int .i64)) (some 0))] [] [(answers_11.length,1)] (by simp [setAll]) (by simp) ⟨(reT (cleanI _ _) rfl),trivial⟩ (by simp) rfl (by decide),answers_11,h,rfl,rfl⟩
  ·rintro a S ⟨answers_6,h,rfl,rfl⟩
   subst hK_9
   refine Ex.seq (rg 3 [4,5] (mkS 45 [(4,.sl (answers_6.map (AV.int .i64)) (some 0)),(5,i6 0)]) ⟨[],[(answers_6.length,1)]⟩ ?_)
   refine Ex.ret ?_
   obtain rfl:=sJ h
   exact rt (.tup [.sl (answers_6.map (AV.int .i64)) (some 0),i6 0])
def p_bl7_quarter (N : Nat)  : Option (T_City):=some (⟨(⟨[110,80,50],[(⟨0,1⟩ : T_Street),(⟨1,2⟩ : T_Street),(⟨0,2⟩ : T_Street)],[],6⟩ : T_Town),5,[590,500,0]⟩ : T_City)
def v_bl7_quarter (r : T_City) : AV:=(A_City r)
attribute [local simp] v_bl7_quarter
theorem a_bl7_quarter  : [].mapM (ren []) = some []:=by simp
theorem b_bl7_quarter (r : T_City) (n n2 m : Nat) : back n n2 m (v_bl7_quarter r) = some (v_bl7_quarter r):=by simp
theorem d_bl7_quarter (N : Nat)  (r : T_City) (h : p_bl7_quarter N  = some r) : Does Tryd.prog 26 [] [] fun v c => v = v_bl7_quarter r ∧ c = []:=by
 unfold p_bl7_quarter at h
 refine Does.ofL comp26 _ _ rfl rfl ?_
 refine Ex.seq (rg 1 [0] (mkS 9 [(0,.ptr 0 0)]) ⟨[[.nils,.nils,.nils,i6 0,i6 0,.nils]],[]⟩ ?_)
 refine Ex.seq (rg 9 [0] (mkS 9 [(0,.ptr 0 0)]) ⟨[[.sl (([110,80,50] : List Int).map (AV.int .i64)) (some 0),.sl (([(⟨0,1⟩ : T_Street),(⟨1,2⟩ : T_Street),(⟨0,2⟩ : T_Street)] : List T_Street).map A_Street) (some 1),.nils,i6 6,i6 5,.sl (([590,500,0] : List Int).map (AV.int .i64)) (some 2)]],[(3,1),(3,2),(3,1)]⟩ ?_)
 refine Ex.ret ?_
 obtain rfl:=sJ h
 exact rt (.agg [.sl (([110,80,50] : List Int).map (AV.int .i64)) (some 0),.sl (([(⟨0,1⟩ : T_Street),(⟨1,2⟩ : T_Street),(⟨0,2⟩ : T_Street)] : List T_Street).map A_Street) (some 1),.nils,i6 6,i6 5,.sl (([590,500,0] : List Int).map (AV.int .i64)) (some 2)])
def p_bl7_span (N : Nat) (low_1 : Int) (high_2 : Int) : Option (T_Span):=some (⟨low_1,high_2⟩ : T_Span)
def v_bl7_span (r : T_Span) : AV:=(A_Span r)
attribute [local simp] v_bl7_span
theorem a_bl7_span (low_1 : Int) (high_2 : Int) : [i6 low_1,i6 high_2].mapM (ren []) = some [i6 low_1,i6 high_2]:=by simp
theorem b_bl7_span (r : T_Span) (n n2 m : Nat) : back n n2 m (v_bl7_span r) = some (v_bl7_span r):=by simp
theorem d_bl7_span (N : Nat) (low_1 : Int) (high_2 : Int) (r : T_Span) (h : p_bl7_span N low_1 high_2 = some r) : Does Tryd.prog 43 [i6 low_1,i6 high_2] [] fun v c => v = v_bl7_span r ∧ c = []:=by
 unfold p_bl7_span at h
 refine Does.ofL comp43 _ _ rfl rfl ?_
 refine Ex.seq (rg 1 [0,1,4] (mkS 8 [(0,i6 low_1),(1,i6 high_2),(4,.ptr 0 0)]) ⟨[[i6 0,i6 0]],[]⟩ ?_)
 refine Ex.seq (rg 4 [4] (mkS 8 [(4,.ptr 0 0)]) ⟨[[i6 low_1,i6 high_2]],[]⟩ ?_)
 refine Ex.ret ?_
 obtain rfl:=sJ h
 exact rt (.agg [i6 low_1,i6 high_2])
def p_bl7_bands (N : Nat)  : Option ((List T_Band)):=((p_bl7_span N 100 110).bind fun r_1 => ((p_bl7_span N 120 120).bind fun r_2 => ((p_bl7_span N 300 300).bind fun r_3 => ((p_bl7_span N 650 650).bind fun r_4 => some ([(⟨0,[0,1],r_1,20,50⟩ : T_Band),(⟨2,[1],r_2,30,40⟩ : T_Band),(⟨1,[],r_3,10,90⟩ : T_Band),(⟨0,[],r_4,10,1⟩ : T_Band)])))))
def v_bl7_bands (r : (List T_Band)) : AV:=.sl (r.map A_Band) none
attribute [local simp] v_bl7_bands
theorem a_bl7_bands  : [].mapM (ren []) = some []:=by simp
theorem b_bl7_bands (r : (List T_Band)) (n n2 m : Nat) : back n n2 m (v_bl7_bands r) = some (v_bl7_bands r):=by simp
theorem d_bl7_bands (N : Nat)  (r : (List T_Band)) (h : p_bl7_bands N  = some r) : Does Tryd.prog 27 [] [] fun v c => v = v_bl7_bands r ∧ c = []:=by
 unfold p_bl7_bands at h
 refine Does.ofL comp27 _ _ rfl rfl ?_
 refine Ex.seq (rg 1 [] (mkS 12 []) ⟨[],[]⟩ ?_)
 refine Ex.seq ?_
 refine Ex.postF ?_
 obtain ⟨r_1,hr_1,h⟩:=bE h
 refine Ex.reg (rn 1 [1] (mkS 12 [(1,.sl (([0,1] : List Int).map (AV.int .i64)) (some 0))]) ⟨[],[(2,1)]⟩ ?_)
 refine ExO.callL [] [i6 100,i6 110] rfl rfl (a_bl7_span 100 110) rfl rfl (d_bl7_span N 100 110 r_1 hr_1) (b_bl7_span _ _ _ _) rfl ?_
 obtain ⟨r_2,hr_2,h⟩:=bE h
 refine rn 2 [3,4] (mkS 12 [(3,.agg [i6 0,.sl (([0,1] : List Int).map (AV.int .i64)) (some 0),i6 r_1.Lo,i6 r_1.Hi,i6 20,i6 50]),(4,.sl (([1] : List Int).map (AV.int .i64)) (some 1))]) ⟨[],[(2,1),(1,1)]⟩ ?_
 refine ExO.callL [] [i6 120,i6 120] rfl rfl (a_bl7_span 120 120) rfl rfl (d_bl7_span N 120 120 r_2 hr_2) (b_bl7_span _ _ _ _) rfl ?_
 obtain ⟨r_3,hr_3,h⟩:=bE h
 refine rn 1 [3,6] (mkS 12 [(3,.agg [i6 0,.sl (([0,1] : List Int).map (AV.int .i64)) (some 0),i6 r_1.Lo,i6 r_1.Hi,i6 20,i6 50]),(6,.agg [i6 2,.sl (([1] : List Int).map (AV.int .i64)) (some 1),i6 r_2.Lo,i6 r_2.Hi,i6 30,i6 40])]) ⟨[],[(2,1),(1,1)]⟩ ?_
 refine ExO.callL [] [i6 300,i6 300] rfl rfl (a_bl7_span 300 300) rfl rfl (d_bl7_span N 300 300 r_3 hr_3) (b_bl7_span _ _ _ _) rfl ?_
 obtain ⟨r_4,hr_4,h⟩:=bE h
 refine rn 1 [3,6,8] (mkS 12 [(3,.agg [i6 0,.sl (([0,1] : List Int).map (AV.int .i64)) (some 0),i6 r_1.Lo,i6 r_1.Hi,i6 20,i6 50]),(6,.agg [i6 2,.sl (([1] : List Int).map (AV.int .i64)) (some 1),i6 r_2.Lo,i6 r_2.Hi,i6 30,i6 40]),(8,.agg [i6 1,.nils,i6 r_3.Lo,i6 r_3.Hi,i6 10,i6 90])]) ⟨[],[(2,1),(1,1)]⟩ ?_
 refine ExO.callL [] [i6 650,i6 650] rfl rfl (a_bl7_span 650 650) rfl rfl (d_bl7_span N 650 650 r_4 hr_4) (b_bl7_span _ _ _ _) rfl ?_
 refine rn 3 [0] (mkS 12 [(0,.sl [.agg [i6 0,.sl (([0,1] : List Int).map (AV.int .i64)) (some 0),i6 r_1.Lo,i6 r_1.Hi,i6 20,i6 50],.agg [i6 2,.sl (([1] : List Int).map (AV.int .i64)) (some 1),i6 r_2.Lo,i6 r_2.Hi,i6 30,i6 40],.agg [i6 1,.nils,i6 r_3.Lo,i6 r_3.Hi,i6 10,i6 90],.agg [i6 0,.nils,i6 r_4.Lo,i6 r_4.Hi,i6 10,i6 1]] (some 2))]) ⟨[],[(2,1),(1,1),(4,6)]⟩ ?_
 refine ExO.nil ?_
 refine ⟨mkS 12 [(0,.sl (([(⟨0,[0,1],r_1,20,50⟩ : T_Band),(⟨2,[1],r_2,30,40⟩ : T_Band),(⟨1,[],r_3,10,90⟩ : T_Band),(⟨0,[],r_4,10,1⟩ : T_Band)] : List T_Band).map A_Band) (some 2))],⟨[],[(2,1),(1,1),(4,6)]⟩,Forgets.castR (by kernel_rfl) rfl (fadeE 0 [.agg [i6 0,.sl (([0,1] : List Int).map (AV.int .i64)) (some 0),i6 r_1.Lo,i6 r_1.Hi,i6 20,i6 50],.agg [i6 2,.sl (([1] : List Int).map (AV.int .i64)) (some 1),i6 r_2.Lo,i6 r_2.Hi,i6 30,i6 40],.agg [i6 1,.nils,i6 r_3.Lo,i6 r_3.Hi,i6 10,i6 90],.agg [i6 0,.nils,i6 r_4.Lo,i6 r_4.Hi,i6 10,i6 1]] (some 2) rfl),?_⟩
 refine Ex.ret ?_
 obtain rfl:=sJ h
 exact rt (.sl (([(⟨0,[0,1],r_1,20,50⟩ : T_Band),(⟨2,[1],r_2,30,40⟩ : T_Band),(⟨1,[],r_3,10,90⟩ : T_Band),(⟨0,[],r_4,10,1⟩ : T_Band)] : List T_Band).map A_Band) (some 2))
def p_bl7_later (N : Nat) (start_1 : Int) : Option (T_Band):=((p_bl7_bands N).bind fun r_2 => ((getI r_2 1).bind fun x_3 => ((p_bl7_span N start_1 start_1).bind fun r_4 => some (⟨x_3.First,x_3.Path,r_4,x_3.Stay,x_3.People⟩ : T_Band))))
def v_bl7_later (r : T_Band) : AV:=(A_Band r)
attribute [local simp] v_bl7_later
theorem b_bl7_later (r : T_Band) (n n2 m : Nat) : back n n2 m (v_bl7_later r) = some (v_bl7_later r):=by simp
theorem d_bl7_later (N : Nat) (start_1 : Int) (r : T_Band) (h : p_bl7_later N start_1 = some r) : Does Tryd.prog 28 [i6 start_1] [] fun v c => v = v_bl7_later r ∧ c = []:=by
 unfold p_bl7_later at h
 refine Does.ofL comp28 _ _ rfl rfl ?_
 refine Ex.seq (rg 1 [0,2] (mkS 12 [(0,i6 start_1),(2,.ptr 0 0)]) ⟨[[i6 0,.nils,i6 0,i6 0,i6 0,i6 0]],[]⟩ ?_)
 refine Ex.seq ?_
 obtain ⟨r_2,hr_2,h⟩:=bE h
 refine Ex.reg ?_
 refine ExO.callL [] [] rfl rfl (a_bl7_bands) rfl rfl (d_bl7_bands N r_2 hr_2) (b_bl7_bands _ _ _ _) rfl ?_
 obtain ⟨x_3,hx_3,h⟩:=bE h
 refine runH 4 [(0,.rop (C_Band x_3))] [0,2,3] [LGet (r_2.map A_Band) 1 6 (C_Band x_3)] (mkS 12 [(0,i6 start_1),(2,.ptr 0 0),(3,.ptr 1 0)]) (⟨[[i6 0,.nils,i6 0,i6 0,i6 0,i6 0],(C_Band x_3)],[]⟩) (by kernel_rfl) ⟨LGet.of hx_3 rfl,trivial⟩ ?_
 refine ExO.nil ?_
 refine Ex.seq ?_
 obtain ⟨r_4,hr_4,h⟩:=bE h
 refine Ex.reg (rn 2 [2,3,7,8] (mkS 12 [(2,.ptr 0 0),(3,.ptr 1 0),(7,i6 start_1),(8,i6 start_1)]) ⟨[[i6 0,.nils,i6 0,i6 0,i6 0,i6 0],(C_Band x_3)],[]⟩ ?_)
 refine ExO.callL [] [i6 start_1,i6 start_1] rfl rfl (a_bl7_span start_1 start_1) rfl rfl (d_bl7_span N start_1 start_1 r_4 hr_4) (b_bl7_span _ _ _ _) rfl ?_
 refine rn 2 [2,3] (mkS 12 [(2,.ptr 0 0),(3,.ptr 1 0)]) ⟨[[i6 0,.nils,i6 0,i6 0,i6 0,i6 0],[i6 x_3.First,.sl (x_3.Path.map (AV.int .i64)) none,i6 r_4.Lo,i6 r_4.Hi,i6 x_3.Stay,i6 x_3.People]],[]⟩ ?_
 refine ExO.nil ?_
 refine Ex.seq (rg 2 [2] (mkS 12 [(2,.ptr 0 0)]) ⟨[[i6 x_3.First,.sl (x_3.Path.map (AV.int .i64)) none,i6 r_4.Lo,i6 r_4.Hi,i6 x_3.Stay,i6 x_3.People],[i6 x_3.First,.sl (x_3.Path.map (AV.int .i64)) none,i6 r_4.Lo,i6 r_4.Hi,i6 x_3.Stay,i6 x_3.People]],[]⟩ ?_)
 refine Ex.ret ?_
 obtain rfl:=sJ h
 exact rt (.agg [i6 x_3.First,.sl (x_3.Path.map (AV.int .i64)) none,i6 r_4.Lo,i6 r_4.Hi,i6 x_3.Stay,i6 x_3.People])
def p_bl7_awake (N : Nat)  : Option (Bool):=((p_bl7_quarter N).bind fun r_1 => ((p_bl7_bands N).bind fun r_2 => ((p_band_Grant N r_1 r_2).bind fun r_3 => ((p_bl7_quarter N).bind fun r_4 => ((p_bl7_bands N).bind fun r_5 => ((getI r_5 0).bind fun x_6 => ((p_bl7_later N 60).bind fun r_7 => ((p_band_Cross N r_4 x_6 r_7).bind fun r_8 => ((p_bl7_quarter N).bind fun r_10 => ((p_bl7_bands N).bind fun r_11 => ((partI r_11 0 1).bind fun l_12 => ((p_band_Sleep N r_10 l_12 0).bind fun r_13 => (bif (r_3.2 == 0) then (bif (r_8.2 == 0) then (bif (r_13.2.2 == 0) then ((p_bk_EqErrors N r_3.1 [0,10,13,11]).bind fun r_17 => (bif r_17 then (bif (r_8.1 == 3) then (bif (r_13.1 == 130) then some (r_13.2.1 == 590) else some false) else some false) else some false)) else some false) else some false) else some false)))))))))))))
def v_bl7_awake (r : Bool) : AV:=.bool r
attribute [local simp] v_bl7_awake
theorem a_bl7_awake  : [].mapM (ren []) = some []:=by simp
theorem b_bl7_awake (r : Bool) (n n2 m : Nat) : back n n2 m (v_bl7_awake r) = some (v_bl7_awake r):=by simp
theorem d_bl7_awake (N : Nat)  (r : Bool) (h : p_bl7_awake N  = some r) : Does Tryd.prog 12 [] [] fun v c => v = v_bl7_awake r ∧ c = []:=by
 unfold p_bl7_awake at h
 refine Does.ofL comp12 _ _ rfl rfl ?_
 refine Ex.seq (rg 1 [] (mkS 58 []) ⟨[],[]⟩ ?_)
 refine Ex.seq ?_
 obtain ⟨r_1,hr_1,h⟩:=bE h
 refine Ex.reg ?_
 refine ExO.callL [] [] rfl rfl (a_bl7_quarter) rfl rfl (d_bl7_quarter N r_1 hr_1) (b_bl7_quarter _ _ _ _) rfl ?_
 obtain ⟨r_2,hr_2,h⟩:=bE h
 refine ExO.callL [] [] rfl rfl (a_bl7_bands) rfl rfl (d_bl7_bands N r_2 hr_2) (b_bl7_bands _ _ _ _) rfl ?_
 obtain ⟨r_3,hr_3,h⟩:=bE h
 refine ExO.callL [] [(A_City r_1),.sl (r_2.map A_Band) none] rfl rfl (a_band_Grant r_1 r_2) rfl rfl (d_band_Grant N r_1 r_2 r_3 hr_3) (b_band_Grant _ _ _ _) rfl ?_
 refine rn 5 [1,2] (mkS 58 [(1,.sl (r_3.1.map (AV.int .i64)) none),(2,i6 r_3.2)]) ⟨[],[]⟩ ?_
 refine ExO.nil ?_
 refine Ex.seq ?_
 obtain ⟨r_4,hr_4,h⟩:=bE h
 obtain ⟨r_5,hr_5,h⟩:=bE h
 obtain ⟨x_6,hx_6,h⟩:=bE h
 obtain ⟨r_7,hr_7,h⟩:=bE h
 obtain ⟨r_8,hr_8,h⟩:=bE h
 have hT_9 : DoesA Tryd.prog [⟨26,[],[],(v_bl7_quarter r_4),[]⟩,⟨27,[],[],(v_bl7_bands r_5),[]⟩,⟨28,[i6 60],[],(v_bl7_later r_7),[]⟩,⟨9,[(A_City r_4),(A_Band x_6),(A_Band r_7)],[],(v_band_Cross r_8),[]⟩] ∧ ConsA [⟨26,[],[],(v_bl7_quarter r_4),[]⟩,⟨27,[],[],(v_bl7_bands r_5),[]⟩,⟨28,[i6 60],[],(v_bl7_later r_7),[]⟩,⟨9,[(A_City r_4),(A_Band x_6),(A_Band r_7)],[],(v_band_Cross r_8),[]⟩]:=⟨⟨(d_bl7_quarter N r_4 hr_4),rfl,(d_bl7_bands N r_5 hr_5),rfl,(d_bl7_later N 60 r_7 hr_7),rfl,(d_band_Cross N r_4 x_6 r_7 r_8 hr_8),rfl,trivial⟩,⟨⟨ConsR.ne rfl,ConsR.ne rfl,ConsR.ne rfl,trivial⟩,⟨ConsR.ne rfl,ConsR.ne rfl,trivial⟩,⟨ConsR.ne rfl,trivial⟩,trivial,trivial⟩⟩
 refine Ex.drawE (a1:=mkS 58 [(1,.sl (r_3.1.map (AV.int .i64)) none),(2,i6 r_3.2),(3,i6 r_8.1),(14,.tup [i6 r_8.1,i6 r_8.2]),(15,(A_City r_4)),(16,.sl (r_5.map A_Band) none),(17,.rop (C_Band x_6)),(18,(A_Band x_6)),(19,(A_Band r_7)),(20,.tup [i6 r_8.1,i6 r_8.2]),(21,i6 r_8.1),(22,i6 r_8.2)]) (tabO_ok hT_9.1) [] [] [] ?_ ?_
 ·refine drC hT_9.2 0 _ [] (v_bl7_quarter r_4) rfl rfl rfl rfl rfl (fun _ => rfl) rfl (by simp; try rfl) (fun _ => b_bl7_quarter _ _ _ _) ?_
  refine drC hT_9.2 1 _ [] (v_bl7_bands r_5) rfl rfl rfl rfl rfl (fun _ => rfl) rfl (by simp; try rfl) (fun _ => b_bl7_bands _ _ _ _) ?_
  refine drS [] 2 [(0,.rop (C_Band x_6))] [LGet (r_5.map A_Band) 0 6 (C_Band x_6)] (mkS 58 [(1,.sl (r_3.1.map (AV.int .i64)) none),(2,i6 r_3.2),(15,(A_City r_4)),(16,.sl (r_5.map A_Band) none),(17,.rop (C_Band x_6)),(18,(A_Band x_6))]) (by simp) (by kernel_rfl) ⟨LGet.of hx_6 rfl,trivial⟩ (by kernel_rfl) ?_
  refine drC hT_9.2 2 _ [i6 60] (v_bl7_later r_7) rfl rfl rfl rfl rfl (fun _ => rfl) rfl (by simp; try rfl) (fun _ => b_bl7_later _ _ _ _) ?_
  refine drC hT_9.2 3 _ [(A_City r_4),(A_Band x_6),(A_Band r_7)] (v_band_Cross r_8) rfl rfl rfl rfl rfl (fun _ => rfl) rfl (by simp; try rfl) (fun _ => b_band_Cross _ _ _ _) ?_
  refine drS [] 4 [] [] (mkS 58 [(1,.sl (r_3.1.map (AV.int .i64)) none),(2,i6 r_3.2),(3,i6 r_8.1),(14,.tup [i6 r_8.1,i6 r_8.2]),(15,(A_City r_4)),(16,.sl (r_5.map A_Band) none),(17,.rop (C_Band x_6)),(18,(A_Band x_6)),(19,(A_Band r_7)),(20,.tup [i6 r_8.1,i6 r_8.2]),(21,i6 r_8.1),(22,i6 r_8.2)]) (by simp) (by kernel_rfl) trivial (by kernel_rfl) ?_
  exact DrO.nil rfl
 ·dsimp only [List.getLastD_cons,List.getLastD_nil]
  refine rn 1 [1,2,3,4] (mkS 58 [(1,.sl (r_3.1.map (AV.int .i64)) none),(2,i6 r_3.2),(3,i6 r_8.1),(4,i6 r_8.2)]) ⟨[],[]⟩ ?_
  refine ExO.nil ?_
  refine Ex.seq ?_
  obtain ⟨r_10,hr_10,h⟩:=bE h
  refine Ex.reg ?_
  refine ExO.callL [] [] rfl rfl (a_bl7_quarter) rfl rfl (d_bl7_quarter N r_10 hr_10) (b_bl7_quarter _ _ _ _) rfl ?_
  obtain ⟨r_11,hr_11,h⟩:=bE h
  refine ExO.callL [] [] rfl rfl (a_bl7_bands) rfl rfl (d_bl7_bands N r_11 hr_11) (b_bl7_bands _ _ _ _) rfl ?_
  obtain ⟨l_12,hl_12,h⟩:=bE h
  obtain ⟨r_13,hr_13,h⟩:=bE h
  refine runH 1 [(0,.sc (l_12.map A_Band))] [1,2,3,4,24,26] [LSlc (r_11.map A_Band) none (some 1) 6 (l_12.map A_Band)] (mkS 58 [(1,.sl (r_3.1.map (AV.int .i64)) none),(2,i6 r_3.2),(3,i6 r_8.1),(4,i6 r_8.2),(24,(A_City r_10)),(26,.sl (l_12.map A_Band) none)]) (⟨[],[]⟩) (by kernel_rfl) ⟨partI.ofR (f:=A_Band) (fun _ => rfl) hl_12,trivial⟩ ?_
  refine ExO.callL [] [(A_City r_10),.sl (l_12.map A_Band) none,i6 0] rfl rfl (a_band_Sleep r_10 l_12 0) rfl rfl (d_band_Sleep N r_10 l_12 0 r_13 hr_13) (b_band_Sleep _ _ _ _) rfl ?_
  refine rn 7 [1,2,3,4,5,6,7] (mkS 58 [(1,.sl (r_3.1.map (AV.int .i64)) none),(2,i6 r_3.2),(3,i6 r_8.1),(4,i6 r_8.2),(5,i6 r_13.1),(6,i6 r_13.2.1),(7,i6 r_13.2.2)]) ⟨[],[]⟩ ?_
  refine ExO.nil ?_
  refine Ex.seq ?_
  rcases condI h with ⟨hc_14,h⟩ | ⟨hc_14,h⟩
  ·rcases condI h with ⟨hc_15,h⟩ | ⟨hc_15,h⟩
   ·rcases condI h with ⟨hc_16,h⟩ | ⟨hc_16,h⟩
    ·obtain ⟨r_17,hr_17,h⟩:=bE h
     refine Ex.reg ?_
     refine runH 13 [(2,.eq (.bool true)),(6,.eq (.bool true)),(10,.eq (.bool true))] [3,5,6,41,42,43] [AV.bool (r_3.2 == 0) = AV.bool true,AV.bool (r_8.2 == 0) = AV.bool true,AV.bool (r_13.2.2 == 0) = AV.bool true] (mkS 58 [(3,i6 r_8.1),(5,i6 r_13.1),(6,i6 r_13.2.1),(41,.bool true),(42,.sl (r_3.1.map (AV.int .i64)) none),(43,.sl (([0,10,13,11] : List Int).map (AV.int .i64)) (some 0))]) (⟨[],[(4,1)]⟩) (by kernel_rfl) ⟨congrArg AV.bool hc_14,congrArg AV.bool hc_15,congrArg AV.bool hc_16,trivial⟩ ?_
     refine ExO.callL [] [.sl (r_3.1.map (AV.int .i64)) none,.sl (([0,10,13,11] : List Int).map (AV.int .i64)) (some 0)] rfl rfl (a_bk_EqErrors r_3.1 [0,10,13,11]) rfl rfl (d_bk_EqErrors N r_3.1 [0,10,13,11] r_17 hr_17) (b_bk_EqErrors _ _ _ _) rfl ?_
     rcases condI h with ⟨hc_18,h⟩ | ⟨hc_18,h⟩
     ·rcases condI h with ⟨hc_19,h⟩ | ⟨hc_19,h⟩
      ·rcases condI h with ⟨hc_20,h⟩ | ⟨hc_20,h⟩
       ·refine runH 14 [(1, .eq (.bool true)), (5, .eq (.bool true)), (9, .eq (.bool true))] [0] [AV.bool r_17 = AV.bool true, AV.bool (r_8.1 == 3) = AV.bool true, AV.bool (r_13.1 == 130) = AV.bool true] (mkS 58 [(0, .bool (r_13.2.1 == 590))]) (⟨[], [(4, 1)]⟩) (by kernel_rfl) ⟨congrArg AV.bool hc_18, congrArg AV.bool hc_19, congrArg AV.bool hc_20, trivial⟩ ?_
        refine ExO.nil ?_
        refine Ex.ret ?_
        obtain rfl:=sJ h
        exact rt (.bool (r_13.2.1 == 590))
       ·refine runH 14 [(1, .eq (.bool true)), (5, .eq (.bool true)), (9, .eq (.bool false))] [0] [AV.bool r_17 = AV.bool true, AV.bool (r_8.1 == 3) = AV.bool true, AV.bool (r_13.1 == 130) = AV.bool false] (mkS 58 [(0, .bool false)]) (⟨[], [(4, 1)]⟩) (by kernel_rfl) ⟨congrArg AV.bool hc_18, congrArg AV.bool hc_19, congrArg AV.bool hc_20, trivial⟩ ?_
        refine ExO.nil ?_
        refine Ex.ret ?_
        obtain rfl:=sJ h
        exact rt (.bool false)
      ·refine runH 14 [(1, .eq (.bool true)), (5, .eq (.bool false))] [0] [AV.bool r_17 = AV.bool true, AV.bool (r_8.1 == 3) = AV.bool false] (mkS 58 [(0, .bool false)]) (⟨[], [(4, 1)]⟩) (by kernel_rfl) ⟨congrArg AV.bool hc_18, congrArg AV.bool hc_19, trivial⟩ ?_
       refine ExO.nil ?_
       refine Ex.ret ?_
       obtain rfl:=sJ h
       exact rt (.bool false)
     ·refine runH 14 [(1, .eq (.bool false))] [0] [AV.bool r_17 = AV.bool false] (mkS 58 [(0, .bool false)]) (⟨[], [(4, 1)]⟩) (by kernel_rfl) ⟨congrArg AV.bool hc_18, trivial⟩ ?_
      refine ExO.nil ?_
      refine Ex.ret ?_
      obtain rfl:=sJ h
      exact rt (.bool false)
    ·refine regH 28 [(2, .eq (.bool true)), (6, .eq (.bool true)), (10, .eq (.bool false))] [0] [AV.bool (r_3.2 == 0) = AV.bool true, AV.bool (r_8.2 == 0) = AV.bool true, AV.bool (r_13.2.2 == 0) = AV.bool false] (mkS 58 [(0, .bool false)]) (⟨[], []⟩) (by kernel_rfl) ⟨congrArg AV.bool hc_14, congrArg AV.bool hc_15, congrArg AV.bool hc_16, trivial⟩ rfl ?_
     refine Ex.ret ?_
     obtain rfl:=sJ h
     exact rt (.bool false)
   ·refine regH 28 [(2, .eq (.bool true)), (6, .eq (.bool false))] [0] [AV.bool (r_3.2 == 0) = AV.bool true, AV.bool (r_8.2 == 0) = AV.bool false] (mkS 58 [(0, .bool false)]) (⟨[], []⟩) (by kernel_rfl) ⟨congrArg AV.bool hc_14, congrArg AV.bool hc_15, trivial⟩ rfl ?_
    refine Ex.ret ?_
    obtain rfl:=sJ h
    exact rt (.bool false)
  ·refine regH 28 [(2, .eq (.bool false))] [0] [AV.bool (r_3.2 == 0) = AV.bool false] (mkS 58 [(0, .bool false)]) (⟨[], []⟩) (by kernel_rfl) ⟨congrArg AV.bool hc_14, trivial⟩ rfl ?_
   refine Ex.ret ?_
   obtain rfl:=sJ h
   exact rt (.bool false)
end Go.Proofs.YthfpmjnmaifgaaaDoor
end
section
namespace Go.Proofs.YthfpmjnmaifgaaaDoor
open Go.RowKit

def NW (w : List Bool) (P : Nat → Prop) : Prop:=w.length = 720 ∧ ∀ m : Nat,m < 720 → ∃ b,w[m]? = some b ∧ (b = true ↔ P m)
theorem NW.congr {w : List Bool} {P Q : Nat → Prop} (h : NW w P) (k : ∀ m,m < 720 → (P m ↔ Q m)) : NW w Q :=
 ⟨h.1,fun m hm => by obtain ⟨b,h1,h2⟩:=h.2 m hm; exact ⟨b,h1,h2.trans (k m hm)⟩⟩
theorem with_c (N : Nat) (hN : 1000 < N) (w : List Bool) (P : Nat → Prop) (h : NW w P) (lo hi : Int) (h0 : 0 ≤ lo) (h1 : lo ≤ hi + 1) (h2 : hi ≤ 719) : ∃ w',p_band_night_with N w ⟨lo,hi⟩ = some w' ∧ NW w' (fun m => P m ∨ lo ≤ (m : Int) ∧ (m : Int) ≤ hi):=by
 unfold p_band_night_with
 let T : Option (List Bool) → Prop:=fun x => ∃ w',x = some w' ∧ NW w' (fun m => P m ∨ lo ≤ (m : Int) ∧ (m : Int) ≤ hi)
 show T _
 refine letJ_gen T _ _ (fun K1 hK1 => ?_)
 refine loop2_T T (fun x (w : List Bool) => lo ≤ x ∧ x ≤ hi + 1 ∧ NW w (fun m => P m ∨ lo ≤ (m : Int) ∧ (m : Int) < x)) (fun x w => (hi + 1 - x).toNat) ?_ N lo w ⟨Int.le_refl _,h1,h.congr fun m _ => ⟨.inl,fun hh => hh.elim id fun h => by omega⟩⟩ (by omega)
 rintro rec x w ⟨x0,x1,hw⟩ ih
 by_cases hx : x ≤ hi
 ·rw [dT hx,cond_true]
  have hix : idxI x 720 = some ():=by unfold idxI; rw [if_pos (by omega)]
  obtain ⟨k,rfl⟩ : ∃ k : Nat,x = (k : Int):=⟨x.toNat,by omega⟩
  obtain ⟨b,hb,_⟩:=hw.2 k (by omega)
  have hset : setI w (k : Int) (fun (y : Bool) => true) = some (w.set k true):=by
   unfold setI; rw [Int.toNat_natCast,hb]; rfl
  rw [hix,Option.bind_some,hset,Option.bind_some,w64 (x:=(k : Int) + 1) (by omega) (by omega)]
  refine ih _ _ ⟨by omega,by omega,by rw [List.length_set]; exact hw.1,fun m hm => ?_⟩ (by omega)
  obtain ⟨b',hb',hb2⟩:=hw.2 m hm
  by_cases he : k = m
  ·subst he
   exact ⟨true,by rw [List.getElem?_set_self (by rw [hw.1]; omega)],⟨fun _ => .inr ⟨x0,by omega⟩,fun _ => rfl⟩⟩
  ·refine ⟨b', by rw [List.getElem?_set_ne he]; exact hb', ?_⟩
   rw [hb2]
   constructor
   ·rintro (h | h)
    ·exact .inl h
    ·exact .inr ⟨h.1,by omega⟩
   ·rintro (h | h)
    ·exact .inl h
    ·exact .inr ⟨h.1,by omega⟩
 ·rw [dF hx,cond_false,hK1]
  have hl:=hw.1
  have e1 : lenI w 720 = some ():=by unfold lenI; rw [if_pos hl]
  have e2 : len2 (List.replicate 720 false) w 720 = some ():=by unfold len2; rw [if_pos ⟨List.length_replicate,hl⟩]
  dsimp only
  rw [e1,Option.bind_some,e2]
  refine ⟨w,rfl,hw.congr fun m _ => ?_⟩
  constructor
  ·rintro (h | h)
   ·exact .inl h
   ·exact .inr ⟨h.1,by omega⟩
  ·rintro (h | h)
   ·exact .inl h
   ·exact .inr ⟨h.1,by omega⟩
def Heard (t : T_band_tour) (q : Int) (m : Nat) : Prop:=∃ k : Nat,k < t.squares_.length ∧ t.squares_[k]? = some q ∧ t.Band.Start.Lo + (k : Int) * t.Band.Stay ≤ (m : Int) ∧ (m : Int) < t.Band.Start.Hi + (k : Int) * t.Band.Stay + t.Band.Stay
theorem night_c (N : Nat) (hN : 1000 < N) (ts : List T_band_tour) (q : Int) (hl : ts.length ≤ 100) (h : ∀ t ∈ ts,∃ c,GoodT c t) : ∃ w,p_band_nightOf N ts q = some w ∧ NW w (fun m => ∃ t ∈ ts,Heard t q m):=by
 unfold p_band_nightOf
 have e0 : len2 (List.replicate 720 false) (List.replicate 720 false) 720 = some ():=by unfold len2; rw [if_pos ⟨List.length_replicate,List.length_replicate⟩]
 rw [e0,Option.bind_some]
 let T : Option (List Bool) → Prop:=fun x => ∃ w,x = some w ∧ NW w (fun m => ∃ t ∈ ts,Heard t q m)
 show T _
 refine letJ_gen T _ _ (fun K1 hK1 => ?_)
 refine loop2_T T (fun y (w : List Bool) => ∃ j : Nat,y = (j : Int) ∧ j ≤ ts.length ∧ NW w (fun m => ∃ (i : Nat) (t : T_band_tour),i < j ∧ ts[i]? = some t ∧ Heard t q m)) (fun y w => ts.length - y.toNat) ?_ N 0 _ ⟨0,rfl,Nat.zero_le _,List.length_replicate,fun m hm => ⟨false,by rw [List.getElem?_replicate,if_pos hm],⟨fun hh => (by cases hh),fun ⟨i,t,hi,_⟩ => absurd hi (Nat.not_lt_zero _)⟩⟩⟩ (by simp; omega)
 rintro rec y w ⟨j,rfl,hj,hw⟩ ih
 by_cases hjl : j < ts.length
 ·have hx : ts[j]? = some ts[j]:=List.getElem?_eq_getElem hjl
  generalize htj : ts[j] = t at hx
  obtain ⟨c,hg⟩:=h t (List.mem_of_getElem? hx)
  have g0:=hg.s0; have g1:=hg.s1; have g2:=hg.en; have gm:=hg.mul; have gl:=hg.wk.len; have gp:=hg.pl; have y0:=hg.y0; have y1:=hg.y1
  rw [ltD hjl,cond_true,getD_at hx,Option.bind_some]
  have hspan : (⟨t.Band.Start.Lo,t.Band.Start.Hi⟩ : T_Span) = t.Band.Start:=rfl
  have hvs:=visits_c N hN c t hg t.Band.Start.Lo t.Band.Start.Hi (by omega) (by omega) (by omega) (by omega)
  rw [hspan] at hvs
  rw [hvs,Option.bind_some]
  have hvl : (visL t t.Band.Start.Lo t.Band.Start.Hi).length = t.squares_.length:=by simp [visL]
  refine letJ_gen T _ _ (fun K2 hK2 => ?_)
  refine loop2_T T (fun z (w : List Bool) => ∃ k : Nat,z = (k : Int) ∧ k ≤ t.squares_.length ∧ NW w (fun m => (∃ (i : Nat) (t : T_band_tour),i < j ∧ ts[i]? = some t ∧ Heard t q m) ∨ ∃ k' : Nat,k' < k ∧ k' < t.squares_.length ∧ t.squares_[k']? = some q ∧ t.Band.Start.Lo + (k' : Int) * t.Band.Stay ≤ (m : Int) ∧ (m : Int) < t.Band.Start.Hi + (k' : Int) * t.Band.Stay + t.Band.Stay)) (fun z w => t.squares_.length - z.toNat) ?_ N 0 w ⟨0,rfl,Nat.zero_le _,hw.congr fun m _ => ⟨.inl,fun hh => hh.elim id fun ⟨k,hk,_⟩ => absurd hk (Nat.not_lt_zero _)⟩⟩ (by simp; omega)
  rintro rec2 z w2 ⟨k,rfl,hk,hw2⟩ ih2
  rw [hvl]
  by_cases hkl : k < t.squares_.length
  ·rw [ltD hkl,cond_true]
   have hv : (visL t t.Band.Start.Lo t.Band.Start.Hi)[k]? = some (vis t t.Band.Start.Lo t.Band.Start.Hi k):=by simp [visL,hkl]
   simp only [letJ_eq]
   rw [getD_at hv,Option.bind_some,nadd1 k (by omega)]
   have hqk : t.squares_[k]? = some t.squares_[k]:=List.getElem?_eq_getElem hkl
   obtain ⟨m0,m1,m2,m3⟩:=hg.kmul k hkl
   have hsqk : (vis t t.Band.Start.Lo t.Band.Start.Hi k).square_ = t.squares_[k]:=by simp [vis,hqk]
   rw [hsqk]
   by_cases he : t.squares_[k] = q
   ·rw [show (t.squares_[k] == q) = true from by simpa using he, cond_true]
    have e1 : lenI w2 720 = some ():=by unfold lenI; rw [if_pos hw2.1]
    rw [e1,Option.bind_some]
    obtain ⟨w3,e3,hw3⟩:=with_c N hN w2 _ hw2 (t.Band.Start.Lo + (k : Int) * t.Band.Stay) (t.Band.Start.Hi + ((k : Int) + 1) * t.Band.Stay - 1) (by omega) (by omega) (by omega)
    have hsp : (vis t t.Band.Start.Lo t.Band.Start.Hi k).Span = ⟨t.Band.Start.Lo + (k : Int) * t.Band.Stay,t.Band.Start.Hi + ((k : Int) + 1) * t.Band.Stay - 1⟩:=rfl
    rw [hsp,e3,Option.bind_some]
    have e2 : len2 w2 w3 720 = some ():=by unfold len2; rw [if_pos ⟨hw2.1,hw3.1⟩]
    rw [e2,Option.bind_some]
    refine ih2 _ _ ⟨k + 1,rfl,by omega,hw3.congr fun m _ => ?_⟩ (by omega)
    constructor
    ·rintro ((h | ⟨k',h1,h2⟩) | h)
     ·exact .inl h
     ·exact .inr ⟨k',by omega,h2⟩
     ·exact .inr ⟨k,by omega,hkl,by rw [hqk,he],h.1,by omega⟩
    ·rintro (h | ⟨k',h1,h2,h3,h4,h5⟩)
     ·exact .inl (.inl h)
     ·by_cases hkk : k' = k
      ·subst hkk; exact .inr ⟨h4,by omega⟩
      ·exact .inl (.inr ⟨k',by omega,h2,h3,h4,h5⟩)
   ·rw [show (t.squares_[k] == q) = false from by simpa using he, cond_false]
    refine ih2 _ _ ⟨k + 1,rfl,by omega,hw2.congr fun m _ => ?_⟩ (by omega)
    constructor
    ·rintro (h | ⟨k',h1,h2⟩)
     ·exact .inl h
     ·exact .inr ⟨k',by omega,h2⟩
    ·rintro (h | ⟨k',h1,h2,h3,h4⟩)
     ·exact .inl h
     ·by_cases hkk : k' = k
      ·subst hkk; rw [hqk] at h3; exact absurd (Option.some.inj h3) he
      ·exact .inr ⟨k',by omega,h2,h3,h4⟩
  ·have : k = t.squares_.length := by omega
   subst this
   rw [ltE,cond_false,hK2,nadd1 j (by omega)]
   refine ih _ _ ⟨j + 1,rfl,by omega,hw2.congr fun m _ => ?_⟩ (by omega)
   constructor
   ·rintro (⟨i,t',h1,h2,h3⟩ | ⟨k',h1,h2⟩)
    ·exact ⟨i,t',by omega,h2,h3⟩
    ·exact ⟨j,t,by omega,hx,⟨k',h2⟩⟩
   ·rintro ⟨i,t',h1,h2,h3⟩
    by_cases hij : i = j
    ·subst hij
     rw [hx] at h2; cases h2
     obtain ⟨k',g1,g2⟩:=h3
     exact .inr ⟨k',g1,g1,g2⟩
    ·exact .inl ⟨i,t',by omega,h2,h3⟩
 ·have : j = ts.length := by omega
  subst this
  rw [ltE,cond_false,hK1]
  have hwl:=hw.1
  have e1 : lenI w 720 = some ():=by unfold lenI; rw [if_pos hwl]
  have e2 : len2 (List.replicate 720 false) w 720 = some ():=by unfold len2; rw [if_pos ⟨List.length_replicate,hwl⟩]
  dsimp only
  rw [e1,Option.bind_some,e2]
  refine ⟨w,rfl,hw.congr fun m _ => ?_⟩
  constructor
  ·rintro ⟨i,t,_,h2,h3⟩
   exact ⟨t,List.mem_of_getElem? h2,h3⟩
  ·rintro ⟨t,ht,h3⟩
   obtain ⟨i,hi,rfl⟩:=List.mem_iff_getElem.1 ht
   exact ⟨i,_,hi,List.getElem?_eq_getElem hi,h3⟩
noncomputable def runP (P : Nat → Prop) : Nat → Nat
 | 0 => 0
 | m + 1 => by
  classical
  exact if P m then 0 else runP P m + 1
theorem runP_t {P : Nat → Prop} {m : Nat} (h : P m) : runP P (m + 1) = 0:=by simp [runP,h]
theorem runP_f {P : Nat → Prop} {m : Nat} (h : ¬ P m) : runP P (m + 1) = runP P m + 1:=by simp [runP,h]
theorem runP_le (P : Nat → Prop) : ∀ m,runP P m ≤ m
 | 0 => Nat.le_refl _
 | m + 1 => by
  by_cases h : P m
  ·rw [runP_t h]; omega
  ·rw [runP_f h]; have:=runP_le P m; omega
theorem runP_mono {P Q : Nat → Prop} (h : ∀ m,Q m → P m) : ∀ m,runP P m ≤ runP Q m
 | 0 => Nat.le_refl _
 | m + 1 => by
  by_cases hp : P m
  ·rw [runP_t hp]; omega
  ·rw [runP_f hp,runP_f fun hq => hp (h m hq)]
   have:=runP_mono h m; omega
structure SleepOf (P : Nat → Prop) (from_ many : Nat) : Prop where
 le : ∀ m,m ≤ 720 → runP P m ≤ many
 zero : many = 0 → from_ = 0
 at_ : 0 < many → from_ + many ≤ 720 ∧ runP P (from_ + many) = many ∧ ∀ m,m < from_ + many → runP P m < many
theorem sleep_c (N : Nat) (hN : 1000 < N) (w : List Bool) (P : Nat → Prop) (h : NW w P) : ∃ from_ many : Nat,p_band_night_sleep N w = some ((from_ : Int),(many : Int)) ∧ SleepOf P from_ many:=by
 unfold p_band_night_sleep
 have e1 : lenI w 720 = some ():=by unfold lenI; rw [if_pos h.1]
 rw [e1,Option.bind_some]
 let T : Option (Int × Int) → Prop:=fun x => ∃ from_ many : Nat,x = some ((from_ : Int),(many : Int)) ∧ SleepOf P from_ many
 show T _
 refine letJ_gen T _ _ (fun K1 hK1 => ?_)
 refine loop4_T T (fun f m r y => ∃ f' m' j : Nat,f = (f' : Int) ∧ m = (m' : Int) ∧ y = (j : Int) ∧ j ≤ 720 ∧ r = (runP P j : Int) ∧ (∀ k,k ≤ j → runP P k ≤ m') ∧ (m' = 0 → f' = 0) ∧ (0 < m' → f' + m' ≤ j ∧ runP P (f' + m') = m' ∧ ∀ k,k < f' + m' → runP P k < m')) (fun f m r y => 720 - y.toNat) ?_ N 0 0 0 0 ⟨0,0,0,rfl,rfl,rfl,by omega,rfl,fun k hk => by rw [Nat.le_zero.1 hk]; exact Nat.le_refl _,fun _ => rfl,fun hh => absurd hh (Nat.lt_irrefl _)⟩ (by omega)
 rintro rec f m r y ⟨f',m',j,rfl,rfl,rfl,hj,rfl,hle,hz,hat⟩ ih
 by_cases hj2 : j < 720
 ·rw [dT (show ((j : Int) < 720) by omega), cond_true]
  simp only [letJ_eq]
  obtain ⟨b,hb,hbP⟩:=h.2 j hj2
  have hga : getA w (j : Int) 720 = some b:=by unfold getA; rw [if_pos (by omega),Int.toNat_natCast,hb]
  rw [hga,Option.bind_some,nadd1 j (by omega)]
  have hrl:=runP_le P j
  have step : ∀ r' : Nat,runP P (j + 1) = r' → T (bif (decide ((r' : Int) > (m' : Int))) then (rec (IntKind.i64.wrap ((IntKind.i64.wrap ((j : Int) - (r' : Int))) + 1)) (r' : Int) (r' : Int) ((j + 1 : Nat) : Int)) else (rec (f' : Int) (m' : Int) (r' : Int) ((j + 1 : Nat) : Int))):=by
   intro r' hr'
   have hr'l:=runP_le P (j + 1)
   rw [hr'] at hr'l
   by_cases hgt : (r' : Int) > (m' : Int)
   ·rw [dT hgt, cond_true, w64 (x := (j : Int) - (r' : Int)) (by omega) (by omega), w64 (x := (j : Int) - (r' : Int) + 1) (by omega) (by omega)]
    have e2 : (j : Int) - (r' : Int) + 1 = ((j + 1 - r' : Nat) : Int):=by omega
    rw [e2]
    refine ih _ _ _ _ ⟨j + 1 - r',r',j + 1,rfl,rfl,rfl,by omega,by rw [hr'],fun k hk => ?_,fun hh => by omega,fun _ => ⟨by omega,by rw [show j + 1 - r' + r' = j + 1 by omega]; exact hr',fun k hk => ?_⟩⟩ (by omega)
    ·by_cases hk2 : k = j + 1
     ·subst hk2; omega
     ·have:=hle k (by omega); omega
    ·have:=hle k (by omega); omega
   ·rw [dF hgt,cond_false]
    refine ih _ _ _ _ ⟨f',m',j + 1,rfl,rfl,rfl,by omega,by rw [hr'],fun k hk => ?_,hz,fun hh => ?_⟩ (by omega)
    ·by_cases hk2 : k = j + 1
     ·subst hk2; omega
     ·exact hle k (by omega)
    ·obtain ⟨g1,g2,g3⟩:=hat hh
     exact ⟨by omega,g2,g3⟩
  cases b with
  | true =>
   rw [cond_true]
   exact step 0 (runP_t (hbP.1 rfl))
  | false =>
   rw [cond_false,w64 (x:=(runP P j : Int) + 1) (by omega) (by omega)]
   have:=step (runP P j + 1) (runP_f fun hp => by have:=hbP.2 hp; cases this)
   rw [show ((runP P j + 1 : Nat) : Int) = (runP P j : Int) + 1 by omega] at this
   exact this
 ·have : j = 720 := by omega
  subst this
  rw [dF (show ¬ (((720 : Nat) : Int) < 720) by omega),cond_false,hK1]
  exact ⟨f',m',rfl,⟨fun k hk => hle k hk,hz,hat⟩⟩
theorem sleepT_c (N : Nat) (hN : 1000 < N) (ts : List T_band_tour) (q : Int) (hl : ts.length ≤ 100) (h : ∀ t ∈ ts,∃ c,GoodT c t) : ∃ (w : List Bool) (from_ many : Nat),p_band_nightOf N ts q = some w ∧ p_band_night_sleep N w = some ((from_ : Int),(many : Int)) ∧ SleepOf (fun m => ∃ t ∈ ts,Heard t q m) from_ many:=by
 obtain ⟨w,e,hw⟩:=night_c N hN ts q hl h
 obtain ⟨f,m,e2,hs⟩:=sleep_c N hN w _ hw
 exact ⟨w,f,m,e,e2,hs⟩
theorem sleepF_c (N : Nat) (hN : 1000 < N) (c : T_City) (hc : GoodC c) (ts : List T_band_tour) (hl : ts.length ≤ 10) (h : ∀ t ∈ ts,GoodT c t) (q : Nat) (hq : q < c.Town.Rooms.length) : ∃ from_ many : Nat,p_band_Sleep N c (ts.map (·.Band)) (q : Int) = some ((from_ : Int),(many : Int),0) ∧ SleepOf (fun m => ∃ t ∈ ts,Heard t (q : Int) m) from_ many:=by
 unfold p_band_Sleep
 have hr:=hc.tw.r2
 rw [tours_c N hN c hc ts hl h,Option.bind_some,w64 (by omega) (by omega),bw_p,wi_t (by omega) (by omega),Option.bind_some]
 simp only [bne_self_eq_false,cond_false,Bool.not_true]
 obtain ⟨w,f,m,e1,e2,hs⟩:=sleepT_c N hN ts (q : Int) (by omega) fun t ht => ⟨c,h t ht⟩
 rw [e1,Option.bind_some,e2]
 exact ⟨f,m,rfl,hs⟩
end Go.Proofs.YthfpmjnmaifgaaaDoor
end
section
namespace Go.Proofs.YthfpmjnmaifgaaaDoor
open Go.RowKit
attribute [local simp] ren ren1 AV.plain AV.plain1 AV.clean cleanL cleanI cleanBo cleanSt cleanII plFB clFB faFB KL_bk_Drum KL_Span KL_Street KL_Group KL_Town KL_City KL_Band KL_band_tour KL_band_visit KL_band_requests KL_band_request A_bk_Drum C_bk_Drum A_Span C_Span A_Street C_Street A_Group C_Group A_Town C_Town A_City C_City A_Band C_Band A_band_tour C_band_tour A_band_visit C_band_visit A_band_requests C_band_requests A_band_request C_band_request back back1 AV.okCells AV.cells AV.scalar re re1 List.idxOf? List.findIdx? List.findIdx?.go KB_bk_Drum KB_Span KB_Street KB_Group KB_Town KB_City KB_Band KB_band_tour KB_band_visit KB_band_requests KB_band_request chillS chillV fadeS fadeV
def p_bk_Ints (N : Nat) (l_1 : (List Int)) : Option ((List Int)):=((pushI ([] : List Int) l_1).bind fun l_2 => some l_2)
def v_bk_Ints (r : (List Int)) : AV:=.sl (r.map (AV.int .i64)) none
attribute [local simp] v_bk_Ints
theorem a_bk_Ints (l_1 : (List Int)) : [.sl (l_1.map (AV.int .i64)) none].mapM (ren []) = some [.sl (l_1.map (AV.int .i64)) none]:=by simp
theorem b_bk_Ints (r : (List Int)) (n n2 m : Nat) : back n n2 m (v_bk_Ints r) = some (v_bk_Ints r):=by simp
theorem d_bk_Ints (N : Nat) (l_1 : (List Int)) (r : (List Int)) (h : p_bk_Ints N l_1 = some r) : Does Tryd.prog 18 [.sl (l_1.map (AV.int .i64)) none] [] fun v c => v = v_bk_Ints r ∧ c = []:=by
 unfold p_bk_Ints at h
 refine Does.ofL comp18 _ _ rfl rfl ?_
 refine Ex.seq (rg 1 [0] (mkS 6 [(0,.sl (l_1.map (AV.int .i64)) none)]) ⟨[],[]⟩ ?_)
 refine Ex.seq ?_
 obtain ⟨l_2,hl_2,h⟩:=bE h
 refine regH 4 [(2,.apps (l_1.map (AV.int .i64)) (l_2.map (AV.int .i64)) l_2.length)] [2] [LApps 0 (([] : List Int).map (AV.int .i64)) (l_1.map (AV.int .i64)) (l_1.map (AV.int .i64)) 1 (l_2.map (AV.int .i64)) l_2.length] (mkS 6 [(2,.sl (l_2.map (AV.int .i64)) (some 0))]) (⟨[],[(l_2.length,1)]⟩) (by kernel_rfl) ⟨LApps.of hl_2 (fun _ => rfl) (fun _ => rfl) (fun _ => rfl),trivial⟩ rfl ?_
 refine Ex.ret ?_
 obtain rfl:=sJ h
 exact rt (.sl (l_2.map (AV.int .i64)) (some 0))
def p_bk_OwnBands (N : Nat) (l_1 : (List T_Band)) : Option ((List T_Band)):=(letJ (fun (w_2 : List T_Band) => ((lenI w_2 w_2.length).bind fun u_15 => some w_2)) (fun k_3 => (loop2 (fun rec_8 (i_6 : Int) (w_7 : List T_Band) => (bif (decide (i_6 < ((l_1.length : Nat) : Int))) then ((getI l_1 i_6).bind fun x_12 => ((p_bk_Ints N x_12.Path).bind fun r_13 => ((pushI w_7 ([(⟨x_12.First,r_13,x_12.Start,x_12.Stay,x_12.People⟩ : T_Band)] : List T_Band)).bind fun l_14 => (rec_8 (IntKind.i64.wrap (i_6 + 1)) l_14)))) else (k_3 w_7))) N 0 [])))
def v_bk_OwnBands (r : (List T_Band)) : AV:=.sl (r.map A_Band) none
attribute [local simp] v_bk_OwnBands
theorem m_bk_OwnBands (N : Nat) (l_1 : (List T_Band)) (r : (List T_Band)) (h : p_bk_OwnBands N l_1 = some r) : Does Tryd.prog 7 [.sl (l_1.map A_Band) none] [] fun v c => v = .ms 0 r.length 6 ∧ c = [(flat (r.map A_Band))]:=by
 unfold p_bk_OwnBands at h
 refine Does.ofM comp7 _ _ rfl ?_
 refine Ex.seq (rg 1 [0] (mkS 25 [(0,.sl (l_1.map A_Band) none)]) ⟨[],[]⟩ ?_)
 refine Ex.seq (rg 1 [0,3] (mkS 25 [(0,.sl (l_1.map A_Band) none),(3,.nils)]) ⟨[],[]⟩ ?_)
 refine Ex.seq (Ex.seq ?_)
 refine rg 1 [0,3,4] (mkS 25 [(0,.sl (l_1.map A_Band) none),(3,.nils),(4,i6 0)]) ⟨[],[]⟩ ?_
 obtain ⟨K_4,hK_5,h⟩:=letE h
 refine Ex.blockJ (fun a S => ∃ (w_2 : List T_Band),K_4 w_2 = some r ∧ a = mkS 25 [(3,.mg 0 w_2.length 6)] ∧ S = ⟨[(flat (w_2.map A_Band))],[]⟩) ?_ ?_
 ·refine Ex.forget (nilG 3 6 rfl) ?_
  refine Ex.castA (a2:=mkS 25 [(0,.sl (l_1.map A_Band) none),(3,.mg 0 (([] : List T_Band).length) 6),(4,i6 0)]) (S2:=⟨[(flat (([] : List T_Band).map A_Band))],[]⟩) (by kernel_rfl) (by kernel_rfl) ?_
  obtain ⟨B_9,hB_10,h⟩:=loop2I h
  refine Ex.loopF (fun k a S => ∃ (i_6 : Int),∃ (w_7 : List T_Band),loop2 B_9 k i_6 w_7 = some r ∧ a = mkS 25 [(0,.sl (l_1.map A_Band) none),(3,.mg 0 w_7.length 6),(4,i6 i_6)] ∧ S = ⟨[(flat (w_7.map A_Band))],[]⟩) N ⟨_,_,Forgets.refl _ _ _,0,[],h,rfl,rfl⟩ ?_
  rintro k a S ⟨i_6,w_7,h,rfl,rfl⟩
  cases k with
  | zero => exact (loop2Z h).elim
  | succ k =>
   replace h:=loop2S h hB_10
   refine Ex.seq (Ex.seq ?_)
   refine regH 4 [(2,.eq (i6 ((l_1.length : Nat) : Int)))] [0,3,4,9] [AV.int .i64 (((l_1.map A_Band).length : Nat) : Int) = AV.int .i64 ((l_1.length : Nat) : Int)] (mkS 25 [(0,.sl (l_1.map A_Band) none),(3,.mg 0 w_7.length 6),(4,i6 i_6),(9,.bool (decide (i_6 < ((l_1.length : Nat) : Int))))]) (⟨[(flat (w_7.map A_Band))],[]⟩) (by kernel_rfl) ⟨lenM _ _,trivial⟩ rfl ?_
   rcases condI h with ⟨hc_11,h⟩ | ⟨hc_11,h⟩
   ·refine Ex.condT _ rfl hc_11 ?_
    refine Ex.skip ?_
    refine Ex.seq ?_
    refine Ex.blockK ?_
    refine Ex.seq ?_
    obtain ⟨x_12,hx_12,h⟩:=bE h
    refine regH 6 [(2,.rop (C_Band x_12))] [0,3,4,5] [LGet (l_1.map A_Band) i_6 6 (C_Band x_12)] (mkS 25 [(0,.sl (l_1.map A_Band) none),(3,.mg 0 w_7.length 6),(4,i6 i_6),(5,.ptr 1 0)]) (⟨[(flat (w_7.map A_Band)),(C_Band x_12)],[]⟩) (by kernel_rfl) ⟨LGet.of hx_12 rfl,trivial⟩ rfl ?_
    refine Ex.seq ?_
    obtain ⟨r_13,hr_13,h⟩:=bE h
    refine Ex.reg (rn 2 [0,3,4,5,17] (mkS 25 [(0,.sl (l_1.map A_Band) none),(3,.mg 0 w_7.length 6),(4,i6 i_6),(5,.ptr 1 0),(17,.sl (x_12.Path.map (AV.int .i64)) none)]) ⟨[(flat (w_7.map A_Band)),(C_Band x_12)],[]⟩ ?_)
    refine ExO.callL [] [.sl (x_12.Path.map (AV.int .i64)) none] rfl rfl (a_bk_Ints x_12.Path) rfl rfl (d_bk_Ints N x_12.Path r_13 hr_13) (b_bk_Ints _ _ _ _) rfl ?_
    refine rn 2 [0,3,4,5] (mkS 25 [(0,.sl (l_1.map A_Band) none),(3,.mg 0 w_7.length 6),(4,i6 i_6),(5,.ptr 1 0)]) ⟨[(flat (w_7.map A_Band)),[i6 x_12.First,.sl (r_13.map (AV.int .i64)) none,i6 x_12.Start.Lo,i6 x_12.Start.Hi,i6 x_12.Stay,i6 x_12.People]],[]⟩ ?_
    refine ExO.nil ?_
    refine Ex.postF ?_
    obtain ⟨l_14,hl_14,h⟩:=bE h
    refine Ex.reg (rn 3 [0,4,20,22] (mkS 25 [(0,.sl (l_1.map A_Band) none),(4,i6 i_6),(20,.mg 0 w_7.length 6),(22,.sl (([(⟨x_12.First,r_13,x_12.Start,x_12.Stay,x_12.People⟩ : T_Band)] : List T_Band).map A_Band) (some 0))]) ⟨[(flat (w_7.map A_Band)),[i6 x_12.First,.sl (r_13.map (AV.int .i64)) none,i6 x_12.Start.Lo,i6 x_12.Start.Hi,i6 x_12.Stay,i6 x_12.People]],[(1,6)]⟩ ?_)
    refine ExO.forget (forgetA (m:=25) 1 [0] [(0,.sl (l_1.map A_Band) none),(4,i6 i_6),(20,.mg 0 w_7.length 6),(22,.sl (([(⟨x_12.First,r_13,x_12.Start,x_12.Stay,x_12.People⟩ : T_Band)] : List T_Band).map A_Band) (some 0))] [(flat (w_7.map A_Band))] [(1,6)] (by simp [setAll]) (by simp) ⟨(reN (KL_Band _)),rfl,rfl,(reT (KL_Band _) rfl),trivial⟩ (mapMC (flat_reB (f:=A_Band) KB_Band _ _ _) rfl) rfl (by decide)) ?_
    refine ExO.castA (a2:=mkS 25 [(0,.sl (l_1.map A_Band) none),(4,i6 i_6),(20,.mg 0 w_7.length 6),(22,.sl (([(⟨x_12.First,r_13,x_12.Start,x_12.Stay,x_12.People⟩ : T_Band)] : List T_Band).map A_Band) (some 0))]) (S2:=⟨[(flat (w_7.map A_Band))],[(1,6)]⟩) (by kernel_rfl) (by kernel_rfl) ?_
    refine ExO.appL (f:=A_Band) 6 w_7 ([(⟨x_12.First,r_13,x_12.Start,x_12.Stay,x_12.People⟩ : T_Band)] : List T_Band) [] [(0,.sl (l_1.map A_Band) none),(4,i6 i_6)] [] [] [] hl_14 (fun _ => rfl) (fun _ => (by simp)) (fun _ => (by simp)) (fun _ => (by simp)) (by simp) rfl rfl rfl rfl rfl (by decide) (by simp [setAll]) ⟨(reN (KL_Band _)),rfl,trivial⟩ (by simp) rfl (by decide) (fun _ h => absurd h (Nat.not_lt_zero _)) ?_
    refine rn 1 [0,3,4] (mkS 25 [(0,.sl (l_1.map A_Band) none),(3,.mg 0 l_14.length 6),(4,i6 i_6)]) ⟨[(flat (l_14.map A_Band))],[]⟩ ?_
    refine ExO.nil ?_
    refine ⟨mkS 25 [(0,.sl (l_1.map A_Band) none),(3,.mg 0 l_14.length 6),(4,i6 i_6)],⟨[(flat (l_14.map A_Band))],[]⟩,Forgets.refl _ _ _,?_⟩
    refine rg 3 [0,3,4] (mkS 25 [(0,.sl (l_1.map A_Band) none),(3,.mg 0 l_14.length 6),(4,i6 (IntKind.i64.wrap (i_6 + 1)))]) ⟨[(flat (l_14.map A_Band))],[]⟩ ?_
    dsimp only
    exact ⟨_,_,Forgets.refl _ _ _,k,Nat.lt_succ_self k,(IntKind.i64.wrap (i_6 + 1)),l_14,h,rfl,rfl⟩
   ·refine Ex.condF _ rfl hc_11 ?_
    refine Ex.exit ?_
    (try simp only [reduceCtorEq,AEx.ex.injEq,Nat.reduceEqDiff,if_true,if_false])
    exact ⟨_,_,forgetK [3],w_7,h,rfl,rfl⟩
 ·rintro a S ⟨w_2,h,rfl,rfl⟩
  subst hK_5
  refine Ex.seq (rg 2 [2] (mkS 25 [(2,.mg 0 w_2.length 6)]) ⟨[(flat (w_2.map A_Band))],[]⟩ ?_)
  obtain ⟨u_15,hu_15,h⟩:=bE h
  refine Ex.forget (mgS 2 0 w_2.length 6 rfl) ?_
  refine Ex.castA (a2:=mkS 25 [(2,.ms 0 w_2.length 6)]) (S2:=⟨[(flat (w_2.map A_Band))],[]⟩) (by kernel_rfl) (by kernel_rfl) ?_
  obtain rfl:=sJ h
  refine Ex.ret ?_
  exact ⟨.inr rfl,.ms 0 w_2.length 6,by kernel_rfl,by kernel_rfl,[],by kernel_rfl⟩
def p_bl7_BandNarrow (N : Nat) (nums_1 : (List Int)) : Option (Bool):=((p_bk_DrumOf N nums_1).bind fun r_2 => ((p_bk_CityOf N r_2).bind fun r_3 => ((p_bk_BandsOf N r_3.2 r_3.1 4).bind fun r_4 => ((p_bk_OwnBands N r_4.1).bind fun r_5 => (letJ (fun (b_6 : Int) (w_7 : List T_Band) => (letJ (fun (_ : Unit) => ((p_bk_Drum_Roll N (⟨b_6⟩ : T_bk_Drum) ((r_3.1.Sleep.length : Nat) : Int)).bind fun r_58 => ((p_band_Sleep N r_3.1 r_4.1 r_58.1).bind fun r_59 => ((lenI w_7 r_5.length).bind fun u_60 => ((p_band_Sleep N r_3.1 w_7 r_58.1).bind fun r_61 => (bif (r_59.2.2 == 0) then (bif (r_61.2.2 == 0) then (bif (decide (r_61.2.1 ≥ r_59.2.1)) then ((p_bl7_awake N).bind fun r_65 => some r_65) else some false) else some false) else some false)))))) (fun k_24 => (loop1 (fun rec_28 (i_27 : Int) => (bif (decide (i_27 < ((r_4.1.length : Nat) : Int))) then (letJ (fun (_ : Unit) => (rec_28 (IntKind.i64.wrap (i_27 + 1)))) (fun k_32 => (loop1 (fun rec_36 (k_35 : Int) => (bif (decide (k_35 < i_27)) then ((getI r_4.1 i_27).bind fun x_40 => ((getI r_4.1 k_35).bind fun x_41 => ((p_band_Cross N r_3.1 x_40 x_41).bind fun r_42 => ((idxI i_27 r_5.length).bind fun u_44 => ((w_7[Int.toNat i_27]?).bind fun x_45 => ((idxI k_35 r_5.length).bind fun u_46 => ((w_7[Int.toNat k_35]?).bind fun x_47 => ((p_band_Cross N r_3.1 x_45 x_47).bind fun r_48 => (letJ (fun (y_50 : Bool) => (bif y_50 then some false else (rec_36 (IntKind.i64.wrap (k_35 + 1))))) (fun k_51 => (bif (r_42.2 != 0) then (k_51 true) else (bif (r_48.2 != 0) then (k_51 true) else (bif (r_42.1 != 3) then (k_51 (r_42.1 != r_48.1)) else (k_51 false)))))))))))))) else (k_32 ()))) N 0))) else (k_24 ()))) N 0)))) (fun k_8 => (loop3 (fun rec_14 (i_11 : Int) (b_12 : Int) (w_13 : List T_Band) => (bif (decide (i_11 < ((r_5.length : Nat) : Int))) then ((idxI i_11 r_5.length).bind fun u_18 => ((w_13[Int.toNat i_11]?).bind fun x_19 => ((p_bk_Drum_Less N (⟨b_12⟩ : T_bk_Drum) x_19.Start).bind fun r_20 => ((idxI i_11 r_5.length).bind fun u_21 => ((setI w_13 i_11 (fun (y_22 : T_Band) => (⟨y_22.First,y_22.Path,r_20.1,y_22.Stay,y_22.People⟩ : T_Band))).bind fun z_23 => (rec_14 (IntKind.i64.wrap (i_11 + 1)) r_20.2.beat_ z_23)))))) else (k_8 b_12 w_13))) N 0 r_4.2.beat_ r_5)))))))
def v_bl7_BandNarrow (r : Bool) : AV:=.bool r
attribute [local simp] v_bl7_BandNarrow
theorem d_bl7_BandNarrow (N : Nat) (nums_1 : (List Int)) (r : Bool) (h : p_bl7_BandNarrow N nums_1 = some r) : Does Tryd.prog 3 [.sl (nums_1.map (AV.int .i64)) none] [] fun v c => v = v_bl7_BandNarrow r ∧ c = []:=by
 unfold p_bl7_BandNarrow at h
 refine Does.ofL comp3 _ _ rfl rfl ?_
 refine Ex.seq (rg 1 [0] (mkS 134 [(0,.sl (nums_1.map (AV.int .i64)) none)]) ⟨[],[]⟩ ?_)
 refine Ex.seq ?_
 obtain ⟨r_2,hr_2,h⟩:=bE h
 refine Ex.reg (rn 1 [21] (mkS 134 [(21,.sl (nums_1.map (AV.int .i64)) none)]) ⟨[],[]⟩ ?_)
 refine ExO.callL (v':=.ptr 0 0) [] [.sl (nums_1.map (AV.int .i64)) none] rfl rfl (a_bk_DrumOf nums_1) rfl rfl (d_bk_DrumOf N nums_1 r_2 hr_2) rfl (by simp) ?_
 refine rn 1 [3] (mkS 134 [(3,.ptr 0 0)]) ⟨[(C_bk_Drum r_2)],[]⟩ ?_
 refine ExO.nil ?_
 refine Ex.seq ?_
 obtain ⟨r_3,hr_3,h⟩:=bE h
 refine Ex.reg (rn 1 [3,23] (mkS 134 [(3,.ptr 0 0),(23,.ptr 0 0)]) ⟨[(C_bk_Drum r_2)],[]⟩ ?_)
 refine ExO.callL [0] [.ptr 0 0] rfl rfl (by simp; try rfl) rfl (by simp) (d_bk_CityOf N r_2 r_3 hr_3) (b_bk_CityOf _ _ _ _) (by simp) ?_
 refine rn 2 [3,4] (mkS 134 [(3,.ptr 0 0),(4,.ptr 1 0)]) ⟨[(C_bk_Drum r_3.2),(C_City r_3.1)],[]⟩ ?_
 refine ExO.nil ?_
 refine Ex.seq ?_
 obtain ⟨r_4,hr_4,h⟩:=bE h
 refine Ex.reg (rn 2 [3,4,25,26] (mkS 134 [(3,.ptr 0 0),(4,.ptr 1 0),(25,.ptr 0 0),(26,(A_City r_3.1))]) ⟨[(C_bk_Drum r_3.2),(C_City r_3.1)],[]⟩ ?_)
 refine ExO.callL [0] [.ptr 0 0,(A_City r_3.1),i6 4] rfl rfl (by simp; try rfl) rfl (by simp) (d_bk_BandsOf N r_3.2 r_3.1 4 r_4 hr_4) (b_bk_BandsOf _ _ _ _) (by simp) ?_
 refine rn 1 [3,4,5] (mkS 134 [(3,.ptr 0 0),(4,.ptr 1 0),(5,.sl (r_4.1.map A_Band) none)]) ⟨[(C_bk_Drum r_4.2),(C_City r_3.1)],[]⟩ ?_
 refine ExO.nil ?_
 refine Ex.seq ?_
 obtain ⟨r_5,hr_5,h⟩:=bE h
 refine Ex.reg (rn 1 [3,4,5,28] (mkS 134 [(3,.ptr 0 0),(4,.ptr 1 0),(5,.sl (r_4.1.map A_Band) none),(28,.sl (r_4.1.map A_Band) none)]) ⟨[(C_bk_Drum r_4.2),(C_City r_3.1)],[]⟩ ?_)
 refine ExO.callL (v':=.ms 2 r_5.length 6) [] [.sl (r_4.1.map A_Band) none] rfl rfl (by simp; try rfl) rfl (by simp) (m_bk_OwnBands N r_4.1 r_5 hr_5) rfl (allC (flat_cleanC (f:=A_Band) KC_Band _) rfl) ?_
 refine rn 1 [3,4,5,6] (mkS 134 [(3,.ptr 0 0),(4,.ptr 1 0),(5,.sl (r_4.1.map A_Band) none),(6,.ms 2 r_5.length 6)]) ⟨[(C_bk_Drum r_4.2),(C_City r_3.1),(flat (r_5.map A_Band))],[]⟩ ?_
 refine ExO.nil ?_
 refine Ex.seq (Ex.seq ?_)
 refine rg 1 [3,4,5,6,7] (mkS 134 [(3,.ptr 0 0),(4,.ptr 1 0),(5,.sl (r_4.1.map A_Band) none),(6,.ms 2 r_5.length 6),(7,i6 0)]) ⟨[(C_bk_Drum r_4.2),(C_City r_3.1),(flat (r_5.map A_Band))],[]⟩ ?_
 obtain ⟨K_9,hK_10,h⟩:=letE h
 refine Ex.blockJ (fun a S => ∃ (b_6 : Int),∃ (w_7 : List T_Band),K_9 b_6 w_7 = some r ∧ a = mkS 134 [(3,.ptr 0 0),(4,.ptr 1 0),(5,.sl (r_4.1.map A_Band) none),(6,.ms 2 r_5.length 6)] ∧ S = ⟨[[.int .u64 b_6],(C_City r_3.1),(flat (w_7.map A_Band))],[]⟩) ?_ ?_
 ·obtain ⟨B_15,hB_16,h⟩:=loop3I h
  refine Ex.loopF (fun k a S => ∃ (i_11 : Int),∃ (b_12 : Int),∃ (w_13 : List T_Band),loop3 B_15 k i_11 b_12 w_13 = some r ∧ a = mkS 134 [(3,.ptr 0 0),(4,.ptr 1 0),(5,.sl (r_4.1.map A_Band) none),(6,.ms 2 r_5.length 6),(7,i6 i_11)] ∧ S = ⟨[[.int .u64 b_12],(C_City r_3.1),(flat (w_13.map A_Band))],[]⟩) N ⟨_,_,Forgets.refl _ _ _,0,r_4.2.beat_,r_5,h,rfl,rfl⟩ ?_
  rintro k a S ⟨i_11,b_12,w_13,h,rfl,rfl⟩
  cases k with
  | zero => exact (loop3Z h).elim
  | succ k =>
   replace h:=loop3S h hB_16
   refine Ex.seq (Ex.seq ?_)
   refine rg 4 [3,4,5,6,7,33] (mkS 134 [(3,.ptr 0 0),(4,.ptr 1 0),(5,.sl (r_4.1.map A_Band) none),(6,.ms 2 r_5.length 6),(7,i6 i_11),(33,.bool (decide (i_11 < ((r_5.length : Nat) : Int))))]) ⟨[[.int .u64 b_12],(C_City r_3.1),(flat (w_13.map A_Band))],[]⟩ ?_
   rcases condI h with ⟨hc_17,h⟩ | ⟨hc_17,h⟩
   ·refine Ex.condT _ rfl hc_17 ?_
    refine Ex.skip ?_
    refine Ex.seq ?_
    refine Ex.blockK ?_
    obtain ⟨u_18,hu_18,h⟩:=bE h
    obtain ⟨x_19,hx_19,h⟩:=bE h
    obtain ⟨r_20,hr_20,h⟩:=bE h
    refine Ex.reg ?_
    refine runH 8 [(5,.adm),(7,.ld ((A_Span x_19.Start)))] [3,4,5,6,7,36,37,38,43] [0 ≤ i_11 ∧ i_11 < ((r_5.length : Nat) : Int),takeCells (flat (w_13.map A_Band)) (0 + Int.toNat i_11 * 6 + 2) (some 2) = some ((A_Span x_19.Start))] (mkS 134 [(3,.ptr 0 0),(4,.ptr 1 0),(5,.sl (r_4.1.map A_Band) none),(6,.ms 2 r_5.length 6),(7,i6 i_11),(36,.ms 2 r_5.length 6),(37,i6 i_11),(38,.ptr 0 0),(43,(A_Span x_19.Start))]) (⟨[[.int .u64 b_12],(C_City r_3.1),(flat (w_13.map A_Band))],[]⟩) (by kernel_rfl) ⟨idxI.of hu_18,ldFlN (f:=A_Band) (s:=6) w_13 _ 2 2 i_11 x_19 _ (fun _ => rfl) hx_19 (by decide) (by omega) rfl,trivial⟩ ?_
    refine ExO.callL [0] [.ptr 0 0,(A_Span x_19.Start)] rfl rfl (by simp; try rfl) rfl (by simp) (d_bk_Drum_Less N (⟨b_12⟩ : T_bk_Drum) x_19.Start r_20 hr_20) (b_bk_Drum_Less _ _ _ _) (by simp) ?_
    obtain ⟨u_21,hu_21,h⟩:=bE h
    obtain ⟨z_23,hz_23,h⟩:=bE h
    refine runH 3 [(0,.adm),(2,.st (flat (z_23.map A_Band)))] [3,4,5,6,7] [0 ≤ i_11 ∧ i_11 < ((r_5.length : Nat) : Int),0 + Int.toNat i_11 * 6 + 2 + 2 ≤ ((flat (w_13.map A_Band))).length ∧ layAt (flat (w_13.map A_Band)) (0 + Int.toNat i_11 * 6 + 2) [i6 r_20.1.Lo,i6 r_20.1.Hi] = (flat (z_23.map A_Band))] (mkS 134 [(3,.ptr 0 0),(4,.ptr 1 0),(5,.sl (r_4.1.map A_Band) none),(6,.ms 2 r_5.length 6),(7,i6 i_11)]) (⟨[(C_bk_Drum r_20.2),(C_City r_3.1),(flat (z_23.map A_Band))],[]⟩) (by kernel_rfl) ⟨idxI.of hu_21,stFl (f:=A_Band) (s:=6) _ 2 2 i_11 (fun (y_22 : T_Band) => (⟨y_22.First,y_22.Path,r_20.1,y_22.Stay,y_22.People⟩ : T_Band)) _ (fun _ => rfl) hz_23 rfl (by decide) (by omega) (fun _ => rfl),trivial⟩ ?_
    refine ExO.nil ?_
    refine rg 3 [3,4,5,6,7] (mkS 134 [(3,.ptr 0 0),(4,.ptr 1 0),(5,.sl (r_4.1.map A_Band) none),(6,.ms 2 r_5.length 6),(7,i6 (IntKind.i64.wrap (i_11 + 1)))]) ⟨[(C_bk_Drum r_20.2),(C_City r_3.1),(flat (z_23.map A_Band))],[]⟩ ?_
    dsimp only
    exact ⟨_,_,Forgets.refl _ _ _,k,Nat.lt_succ_self k,(IntKind.i64.wrap (i_11 + 1)),r_20.2.beat_,z_23,h,rfl,rfl⟩
   ·refine Ex.condF _ rfl hc_17 ?_
    refine Ex.exit ?_
    (try simp only [reduceCtorEq,AEx.ex.injEq,Nat.reduceEqDiff,if_true,if_false])
    exact ⟨_,_,forgetK [3,4,5,6],b_12,w_13,h,rfl,rfl⟩
 ·rintro a S ⟨b_6,w_7,h,rfl,rfl⟩
  subst hK_10
  refine Ex.seq (Ex.seq ?_)
  refine rg 1 [3,4,5,6,8] (mkS 134 [(3,.ptr 0 0),(4,.ptr 1 0),(5,.sl (r_4.1.map A_Band) none),(6,.ms 2 r_5.length 6),(8,i6 0)]) ⟨[[.int .u64 b_6],(C_City r_3.1),(flat (w_7.map A_Band))],[]⟩ ?_
  obtain ⟨K_25,hK_26,h⟩:=letE h
  refine Ex.blockJ (fun a S => K_25 () = some r ∧ a = mkS 134 [(3,.ptr 0 0),(4,.ptr 1 0),(5,.sl (r_4.1.map A_Band) none),(6,.ms 2 r_5.length 6)] ∧ S = ⟨[[.int .u64 b_6],(C_City r_3.1),(flat (w_7.map A_Band))],[]⟩) ?_ ?_
  ·obtain ⟨B_29,hB_30,h⟩:=loop1I h
   refine Ex.loopF (fun k a S => ∃ (i_27 : Int),loop1 B_29 k i_27 = some r ∧ a = mkS 134 [(3,.ptr 0 0),(4,.ptr 1 0),(5,.sl (r_4.1.map A_Band) none),(6,.ms 2 r_5.length 6),(8,i6 i_27)] ∧ S = ⟨[[.int .u64 b_6],(C_City r_3.1),(flat (w_7.map A_Band))],[]⟩) N ⟨_,_,Forgets.refl _ _ _,0,h,rfl,rfl⟩ ?_
   rintro k a S ⟨i_27,h,rfl,rfl⟩
   cases k with
   | zero => exact (loop1Z h).elim
   | succ k =>
    replace h:=loop1S h hB_30
    refine Ex.seq (Ex.seq ?_)
    refine regH 4 [(2,.eq (i6 ((r_4.1.length : Nat) : Int)))] [3,4,5,6,8,50] [AV.int .i64 (((r_4.1.map A_Band).length : Nat) : Int) = AV.int .i64 ((r_4.1.length : Nat) : Int)] (mkS 134 [(3,.ptr 0 0),(4,.ptr 1 0),(5,.sl (r_4.1.map A_Band) none),(6,.ms 2 r_5.length 6),(8,i6 i_27),(50,.bool (decide (i_27 < ((r_4.1.length : Nat) : Int))))]) (⟨[[.int .u64 b_6],(C_City r_3.1),(flat (w_7.map A_Band))],[]⟩) (by kernel_rfl) ⟨lenM _ _,trivial⟩ rfl ?_
    rcases condI h with ⟨hc_31,h⟩ | ⟨hc_31,h⟩
    ·refine Ex.condT _ rfl hc_31 ?_
     refine Ex.skip ?_
     refine Ex.seq ?_
     refine Ex.blockK ?_
     refine Ex.seq (rg 1 [3,4,5,6,8,9] (mkS 134 [(3,.ptr 0 0),(4,.ptr 1 0),(5,.sl (r_4.1.map A_Band) none),(6,.ms 2 r_5.length 6),(8,i6 i_27),(9,i6 0)]) ⟨[[.int .u64 b_6],(C_City r_3.1),(flat (w_7.map A_Band))],[]⟩ ?_)
     obtain ⟨K_33,hK_34,h⟩:=letE h
     refine Ex.blockJ (fun a S => K_33 () = some r ∧ a = mkS 134 [(3,.ptr 0 0),(4,.ptr 1 0),(5,.sl (r_4.1.map A_Band) none),(6,.ms 2 r_5.length 6),(8,i6 i_27)] ∧ S = ⟨[[.int .u64 b_6],(C_City r_3.1),(flat (w_7.map A_Band))],[]⟩) ?_ ?_
     ·obtain ⟨B_37,hB_38,h⟩:=loop1I h
      refine Ex.loopF (fun k a S => ∃ (k_35 : Int),loop1 B_37 k k_35 = some r ∧ a = mkS 134 [(3,.ptr 0 0),(4,.ptr 1 0),(5,.sl (r_4.1.map A_Band) none),(6,.ms 2 r_5.length 6),(8,i6 i_27),(9,i6 k_35)] ∧ S = ⟨[[.int .u64 b_6],(C_City r_3.1),(flat (w_7.map A_Band))],[]⟩) N ⟨_,_,Forgets.refl _ _ _,0,h,rfl,rfl⟩ ?_
      rintro k a S ⟨k_35,h,rfl,rfl⟩
      cases k with
      | zero => exact (loop1Z h).elim
      | succ k =>
       replace h:=loop1S h hB_38
       refine Ex.seq (Ex.seq ?_)
       refine rg 3 [3,4,5,6,8,9,55] (mkS 134 [(3,.ptr 0 0),(4,.ptr 1 0),(5,.sl (r_4.1.map A_Band) none),(6,.ms 2 r_5.length 6),(8,i6 i_27),(9,i6 k_35),(55,.bool (decide (k_35 < i_27)))]) ⟨[[.int .u64 b_6],(C_City r_3.1),(flat (w_7.map A_Band))],[]⟩ ?_
       rcases condI h with ⟨hc_39,h⟩ | ⟨hc_39,h⟩
       ·refine Ex.condT _ rfl hc_39 ?_
        refine Ex.skip ?_
        refine Ex.seq ?_
        refine Ex.blockK ?_
        refine Ex.seq ?_
        obtain ⟨x_40,hx_40,h⟩:=bE h
        obtain ⟨x_41,hx_41,h⟩:=bE h
        obtain ⟨r_42,hr_42,h⟩:=bE h
        have hT_43 : DoesA Tryd.prog [⟨9,[(A_City r_3.1),(A_Band x_40),(A_Band x_41)],[],(v_band_Cross r_42),[]⟩] ∧ ConsA [⟨9,[(A_City r_3.1),(A_Band x_40),(A_Band x_41)],[],(v_band_Cross r_42),[]⟩]:=⟨⟨(d_band_Cross N r_3.1 x_40 x_41 r_42 hr_42),rfl,trivial⟩,⟨trivial,trivial⟩⟩
        refine Ex.drawE (a1:=mkS 134 [(3,.ptr 0 0),(4,.ptr 1 0),(5,.sl (r_4.1.map A_Band) none),(6,.ms 2 r_5.length 6),(8,i6 i_27),(9,i6 k_35),(10,i6 r_42.1),(55,.bool (decide (k_35 < i_27))),(58,.tup [i6 r_42.1,i6 r_42.2]),(59,(A_City r_3.1)),(60,.sl (r_4.1.map A_Band) none),(61,i6 i_27),(62,.rop (C_Band x_40)),(63,(A_Band x_40)),(64,.sl (r_4.1.map A_Band) none),(65,i6 k_35),(66,.rop (C_Band x_41)),(67,(A_Band x_41)),(68,.tup [i6 r_42.1,i6 r_42.2]),(69,i6 r_42.1),(70,i6 r_42.2)]) (tabO_ok hT_43.1) [] [] [] ?_ ?_
        ·refine drS [0, 1, 2] 9 [(3, .rop (C_Band x_40)), (7, .rop (C_Band x_41))] [LGet (r_4.1.map A_Band) i_27 6 (C_Band x_40), LGet (r_4.1.map A_Band) k_35 6 (C_Band x_41)] (mkS 134 [(3, .ptr 0 0), (4, .ptr 1 0), (5, .sl (r_4.1.map A_Band) none), (6, .ms 2 r_5.length 6), (8, i6 i_27), (9, i6 k_35), (55, .bool (decide (k_35 < i_27))), (59, (A_City r_3.1)), (60, .sl (r_4.1.map A_Band) none), (61, i6 i_27), (62, .rop (C_Band x_40)), (63, (A_Band x_40)), (64, .sl (r_4.1.map A_Band) none), (65, i6 k_35), (66, .rop (C_Band x_41)), (67, (A_Band x_41))]) (by simp) (by kernel_rfl) ⟨LGet.of hx_40 rfl, LGet.of hx_41 rfl, trivial⟩ (by kernel_rfl) ?_
         refine drC hT_43.2 0 _ [(A_City r_3.1),(A_Band x_40),(A_Band x_41)] (v_band_Cross r_42) rfl rfl rfl rfl rfl (fun _ => rfl) rfl (by simp; try rfl) (fun _ => b_band_Cross _ _ _ _) ?_
         refine drS [0,1,2] 4 [] [] (mkS 134 [(3,.ptr 0 0),(4,.ptr 1 0),(5,.sl (r_4.1.map A_Band) none),(6,.ms 2 r_5.length 6),(8,i6 i_27),(9,i6 k_35),(10,i6 r_42.1),(55,.bool (decide (k_35 < i_27))),(58,.tup [i6 r_42.1,i6 r_42.2]),(59,(A_City r_3.1)),(60,.sl (r_4.1.map A_Band) none),(61,i6 i_27),(62,.rop (C_Band x_40)),(63,(A_Band x_40)),(64,.sl (r_4.1.map A_Band) none),(65,i6 k_35),(66,.rop (C_Band x_41)),(67,(A_Band x_41)),(68,.tup [i6 r_42.1,i6 r_42.2]),(69,i6 r_42.1),(70,i6 r_42.2)]) (by simp) (by kernel_rfl) trivial (by kernel_rfl) ?_
         exact DrO.nil rfl
        ·dsimp only [List.getLastD_cons,List.getLastD_nil]
         refine rn 1 [3,4,5,6,8,9,10,11] (mkS 134 [(3,.ptr 0 0),(4,.ptr 1 0),(5,.sl (r_4.1.map A_Band) none),(6,.ms 2 r_5.length 6),(8,i6 i_27),(9,i6 k_35),(10,i6 r_42.1),(11,i6 r_42.2)]) ⟨[[.int .u64 b_6],(C_City r_3.1),(flat (w_7.map A_Band))],[]⟩ ?_
         refine ExO.nil ?_
         refine Ex.seq ?_
         obtain ⟨u_44,hu_44,h⟩:=bE h
         obtain ⟨x_45,hx_45,h⟩:=bE h
         obtain ⟨u_46,hu_46,h⟩:=bE h
         obtain ⟨x_47,hx_47,h⟩:=bE h
         obtain ⟨r_48,hr_48,h⟩:=bE h
         have hT_49 : DoesA Tryd.prog [⟨9,[(A_City r_3.1),(A_Band x_45),(A_Band x_47)],[],(v_band_Cross r_48),[]⟩] ∧ ConsA [⟨9,[(A_City r_3.1),(A_Band x_45),(A_Band x_47)],[],(v_band_Cross r_48),[]⟩]:=⟨⟨(d_band_Cross N r_3.1 x_45 x_47 r_48 hr_48),rfl,trivial⟩,⟨trivial,trivial⟩⟩
         refine Ex.drawE (a1:=mkS 134 [(3,.ptr 0 0),(4,.ptr 1 0),(5,.sl (r_4.1.map A_Band) none),(6,.ms 2 r_5.length 6),(8,i6 i_27),(9,i6 k_35),(10,i6 r_42.1),(11,i6 r_42.2),(12,i6 r_48.1),(71,.tup [i6 r_48.1,i6 r_48.2]),(72,(A_City r_3.1)),(73,.ms 2 r_5.length 6),(74,i6 i_27),(75,.ptr 2 (0 + Int.toNat i_27 * 6)),(76,(A_Band x_45)),(77,.ms 2 r_5.length 6),(78,i6 k_35),(79,.ptr 2 (0 + Int.toNat k_35 * 6)),(80,(A_Band x_47)),(81,.tup [i6 r_48.1,i6 r_48.2]),(82,i6 r_48.1),(83,i6 r_48.2)]) (tabO_ok hT_49.1) [] [] [] ?_ ?_
         ·refine drS [0, 1, 2] 9 [(3, .adm), (4, .ld ((A_Band x_45))), (7, .adm), (8, .ld ((A_Band x_47)))] [0 ≤ i_27 ∧ i_27 < ((r_5.length : Nat) : Int), takeCells (flat (w_7.map A_Band)) (0 + Int.toNat i_27 * 6) (some 6) = some ((A_Band x_45)), 0 ≤ k_35 ∧ k_35 < ((r_5.length : Nat) : Int), takeCells (flat (w_7.map A_Band)) (0 + Int.toNat k_35 * 6) (some 6) = some ((A_Band x_47))] (mkS 134 [(3, .ptr 0 0), (4, .ptr 1 0), (5, .sl (r_4.1.map A_Band) none), (6, .ms 2 r_5.length 6), (8, i6 i_27), (9, i6 k_35), (10, i6 r_42.1), (11, i6 r_42.2), (72, (A_City r_3.1)), (73, .ms 2 r_5.length 6), (74, i6 i_27), (75, .ptr 2 (0 + Int.toNat i_27 * 6)), (76, (A_Band x_45)), (77, .ms 2 r_5.length 6), (78, i6 k_35), (79, .ptr 2 (0 + Int.toNat k_35 * 6)), (80, (A_Band x_47))]) (by simp) (by kernel_rfl) ⟨idxI.of hu_44, ldFlN (f := A_Band) (s := 6) w_7 _ 0 6 i_27 x_45 _ (fun _ => rfl) hx_45 (by decide) (by omega) rfl, idxI.of hu_46, ldFlN (f := A_Band) (s := 6) w_7 _ 0 6 k_35 x_47 _ (fun _ => rfl) hx_47 (by decide) (by omega) rfl, trivial⟩ (by kernel_rfl) ?_
          refine drC hT_49.2 0 _ [(A_City r_3.1),(A_Band x_45),(A_Band x_47)] (v_band_Cross r_48) rfl rfl rfl rfl rfl (fun _ => rfl) rfl (by simp; try rfl) (fun _ => b_band_Cross _ _ _ _) ?_
          refine drS [0,1,2] 4 [] [] (mkS 134 [(3,.ptr 0 0),(4,.ptr 1 0),(5,.sl (r_4.1.map A_Band) none),(6,.ms 2 r_5.length 6),(8,i6 i_27),(9,i6 k_35),(10,i6 r_42.1),(11,i6 r_42.2),(12,i6 r_48.1),(71,.tup [i6 r_48.1,i6 r_48.2]),(72,(A_City r_3.1)),(73,.ms 2 r_5.length 6),(74,i6 i_27),(75,.ptr 2 (0 + Int.toNat i_27 * 6)),(76,(A_Band x_45)),(77,.ms 2 r_5.length 6),(78,i6 k_35),(79,.ptr 2 (0 + Int.toNat k_35 * 6)),(80,(A_Band x_47)),(81,.tup [i6 r_48.1,i6 r_48.2]),(82,i6 r_48.1),(83,i6 r_48.2)]) (by simp) (by kernel_rfl) trivial (by kernel_rfl) ?_
          exact DrO.nil rfl
         ·dsimp only [List.getLastD_cons,List.getLastD_nil]
          refine rn 1 [3,4,5,6,8,9,10,11,12,13] (mkS 134 [(3,.ptr 0 0),(4,.ptr 1 0),(5,.sl (r_4.1.map A_Band) none),(6,.ms 2 r_5.length 6),(8,i6 i_27),(9,i6 k_35),(10,i6 r_42.1),(11,i6 r_42.2),(12,i6 r_48.1),(13,i6 r_48.2)]) ⟨[[.int .u64 b_6],(C_City r_3.1),(flat (w_7.map A_Band))],[]⟩ ?_
          refine ExO.nil ?_
          obtain ⟨K_52,hK_53,h⟩:=letE h
          refine Ex.seqJ (fun a S => ∃ (y_50 : Bool),K_52 y_50 = some r ∧ a = mkS 134 [(3,.ptr 0 0),(4,.ptr 1 0),(5,.sl (r_4.1.map A_Band) none),(6,.ms 2 r_5.length 6),(8,i6 i_27),(9,i6 k_35),(98,.bool y_50)] ∧ S = ⟨[[.int .u64 b_6],(C_City r_3.1),(flat (w_7.map A_Band))],[]⟩) ?_ ?_
          ·rcases condI h with ⟨hc_54,h⟩ | ⟨hc_54,h⟩
           ·refine regH 15 [(2, .eq (.bool true))] [3, 4, 5, 6, 8, 9, 98] [AV.bool (r_42.2 != 0) = AV.bool true] (mkS 134 [(3, .ptr 0 0), (4, .ptr 1 0), (5, .sl (r_4.1.map A_Band) none), (6, .ms 2 r_5.length 6), (8, i6 i_27), (9, i6 k_35), (98, .bool true)]) (⟨[[.int .u64 b_6], (C_City r_3.1), (flat (w_7.map A_Band))], []⟩) (by kernel_rfl) ⟨congrArg AV.bool hc_54, trivial⟩ rfl ?_
            (try simp only [reduceCtorEq,AEx.ex.injEq,Nat.reduceEqDiff,if_true,if_false])
            exact ⟨_,_,Forgets.refl _ _ _,true,h,rfl,rfl⟩
           ·rcases condI h with ⟨hc_55,h⟩ | ⟨hc_55,h⟩
            ·refine regH 15 [(2, .eq (.bool false)), (6, .eq (.bool true))] [3, 4, 5, 6, 8, 9, 98] [AV.bool (r_42.2 != 0) = AV.bool false, AV.bool (r_48.2 != 0) = AV.bool true] (mkS 134 [(3, .ptr 0 0), (4, .ptr 1 0), (5, .sl (r_4.1.map A_Band) none), (6, .ms 2 r_5.length 6), (8, i6 i_27), (9, i6 k_35), (98, .bool true)]) (⟨[[.int .u64 b_6], (C_City r_3.1), (flat (w_7.map A_Band))], []⟩) (by kernel_rfl) ⟨congrArg AV.bool hc_54, congrArg AV.bool hc_55, trivial⟩ rfl ?_
             (try simp only [reduceCtorEq,AEx.ex.injEq,Nat.reduceEqDiff,if_true,if_false])
             exact ⟨_,_,Forgets.refl _ _ _,true,h,rfl,rfl⟩
            ·rcases condI h with ⟨hc_56,h⟩ | ⟨hc_56,h⟩
             ·refine regH 15 [(2, .eq (.bool false)), (6, .eq (.bool false)), (9, .eq (.bool true))] [3, 4, 5, 6, 8, 9, 98] [AV.bool (r_42.2 != 0) = AV.bool false, AV.bool (r_48.2 != 0) = AV.bool false, AV.bool (r_42.1 != 3) = AV.bool true] (mkS 134 [(3, .ptr 0 0), (4, .ptr 1 0), (5, .sl (r_4.1.map A_Band) none), (6, .ms 2 r_5.length 6), (8, i6 i_27), (9, i6 k_35), (98, .bool (r_42.1 != r_48.1))]) (⟨[[.int .u64 b_6], (C_City r_3.1), (flat (w_7.map A_Band))], []⟩) (by kernel_rfl) ⟨congrArg AV.bool hc_54, congrArg AV.bool hc_55, congrArg AV.bool hc_56, trivial⟩ rfl ?_
              (try simp only [reduceCtorEq,AEx.ex.injEq,Nat.reduceEqDiff,if_true,if_false])
              exact ⟨_,_,Forgets.refl _ _ _,(r_42.1 != r_48.1),h,rfl,rfl⟩
             ·refine regH 15 [(2, .eq (.bool false)), (6, .eq (.bool false)), (9, .eq (.bool false))] [3, 4, 5, 6, 8, 9, 98] [AV.bool (r_42.2 != 0) = AV.bool false, AV.bool (r_48.2 != 0) = AV.bool false, AV.bool (r_42.1 != 3) = AV.bool false] (mkS 134 [(3, .ptr 0 0), (4, .ptr 1 0), (5, .sl (r_4.1.map A_Band) none), (6, .ms 2 r_5.length 6), (8, i6 i_27), (9, i6 k_35), (98, .bool false)]) (⟨[[.int .u64 b_6], (C_City r_3.1), (flat (w_7.map A_Band))], []⟩) (by kernel_rfl) ⟨congrArg AV.bool hc_54, congrArg AV.bool hc_55, congrArg AV.bool hc_56, trivial⟩ rfl ?_
              (try simp only [reduceCtorEq,AEx.ex.injEq,Nat.reduceEqDiff,if_true,if_false])
              exact ⟨_,_,Forgets.refl _ _ _,false,h,rfl,rfl⟩
          ·rintro a S ⟨y_50,h,rfl,rfl⟩
           subst hK_53
           rcases condI h with ⟨hc_57,h⟩ | ⟨hc_57,h⟩
           ·refine Ex.condT _ rfl hc_57 ?_
            refine Ex.seq (rg 1 [2] (mkS 134 [(2,.bool false)]) ⟨[[.int .u64 b_6],(C_City r_3.1),(flat (w_7.map A_Band))],[]⟩ ?_)
            refine Ex.ret ?_
            obtain rfl:=sJ h
            exact rt (.bool false)
           ·refine Ex.condF _ rfl hc_57 ?_
            refine Ex.skip ?_
            refine rg 3 [3,4,5,6,8,9] (mkS 134 [(3,.ptr 0 0),(4,.ptr 1 0),(5,.sl (r_4.1.map A_Band) none),(6,.ms 2 r_5.length 6),(8,i6 i_27),(9,i6 (IntKind.i64.wrap (k_35 + 1)))]) ⟨[[.int .u64 b_6],(C_City r_3.1),(flat (w_7.map A_Band))],[]⟩ ?_
            dsimp only
            exact ⟨_,_,Forgets.refl _ _ _,k,Nat.lt_succ_self k,(IntKind.i64.wrap (k_35 + 1)),h,rfl,rfl⟩
       ·refine Ex.condF _ rfl hc_39 ?_
        refine Ex.exit ?_
        (try simp only [reduceCtorEq,AEx.ex.injEq,Nat.reduceEqDiff,if_true,if_false])
        exact ⟨_,_,forgetK [3,4,5,6,8],h,rfl,rfl⟩
     ·rintro a S ⟨h,rfl,rfl⟩
      subst hK_34
      refine rg 3 [3,4,5,6,8] (mkS 134 [(3,.ptr 0 0),(4,.ptr 1 0),(5,.sl (r_4.1.map A_Band) none),(6,.ms 2 r_5.length 6),(8,i6 (IntKind.i64.wrap (i_27 + 1)))]) ⟨[[.int .u64 b_6],(C_City r_3.1),(flat (w_7.map A_Band))],[]⟩ ?_
      dsimp only
      exact ⟨_,_,Forgets.refl _ _ _,k,Nat.lt_succ_self k,(IntKind.i64.wrap (i_27 + 1)),h,rfl,rfl⟩
    ·refine Ex.condF _ rfl hc_31 ?_
     refine Ex.exit ?_
     (try simp only [reduceCtorEq,AEx.ex.injEq,Nat.reduceEqDiff,if_true,if_false])
     exact ⟨_,_,forgetK [3,4,5,6],h,rfl,rfl⟩
  ·rintro a S ⟨h,rfl,rfl⟩
   subst hK_26
   refine Ex.seq ?_
   obtain ⟨r_58,hr_58,h⟩:=bE h
   refine Ex.reg ?_
   refine runH 4 [(3,.eq (i6 ((r_3.1.Sleep.length : Nat) : Int)))] [4,5,6,99,102] [AV.int .i64 (((r_3.1.Sleep.map (AV.int .i64)).length : Nat) : Int) = AV.int .i64 ((r_3.1.Sleep.length : Nat) : Int)] (mkS 134 [(4,.ptr 1 0),(5,.sl (r_4.1.map A_Band) none),(6,.ms 2 r_5.length 6),(99,.ptr 0 0),(102,i6 ((r_3.1.Sleep.length : Nat) : Int))]) (⟨[[.int .u64 b_6],(C_City r_3.1),(flat (w_7.map A_Band))],[]⟩) (by kernel_rfl) ⟨lenM _ _,trivial⟩ ?_
   refine ExO.callL [0] [.ptr 0 0,i6 ((r_3.1.Sleep.length : Nat) : Int)] rfl rfl (by simp; try rfl) rfl (by simp) (d_bk_Drum_Roll N (⟨b_6⟩ : T_bk_Drum) ((r_3.1.Sleep.length : Nat) : Int) r_58 hr_58) (b_bk_Drum_Roll _ _ _ _) (by simp) ?_
   refine rn 1 [4,5,6,14] (mkS 134 [(4,.ptr 1 0),(5,.sl (r_4.1.map A_Band) none),(6,.ms 2 r_5.length 6),(14,i6 r_58.1)]) ⟨[(C_bk_Drum r_58.2),(C_City r_3.1),(flat (w_7.map A_Band))],[]⟩ ?_
   refine ExO.nil ?_
   refine Ex.seq ?_
   obtain ⟨r_59,hr_59,h⟩:=bE h
   refine Ex.reg (rn 3 [4,6,14,105,106,107] (mkS 134 [(4,.ptr 1 0),(6,.ms 2 r_5.length 6),(14,i6 r_58.1),(105,(A_City r_3.1)),(106,.sl (r_4.1.map A_Band) none),(107,i6 r_58.1)]) ⟨[(C_bk_Drum r_58.2),(C_City r_3.1),(flat (w_7.map A_Band))],[]⟩ ?_)
   refine ExO.callL [] [(A_City r_3.1),.sl (r_4.1.map A_Band) none,i6 r_58.1] rfl rfl (a_band_Sleep r_3.1 r_4.1 r_58.1) rfl rfl (d_band_Sleep N r_3.1 r_4.1 r_58.1 r_59 hr_59) (b_band_Sleep _ _ _ _) rfl ?_
   refine rn 7 [4,6,14,16,17] (mkS 134 [(4,.ptr 1 0),(6,.ms 2 r_5.length 6),(14,i6 r_58.1),(16,i6 r_59.2.1),(17,i6 r_59.2.2)]) ⟨[(C_bk_Drum r_58.2),(C_City r_3.1),(flat (w_7.map A_Band))],[]⟩ ?_
   refine ExO.nil ?_
   refine Ex.seq ?_
   obtain ⟨u_60,hu_60,h⟩:=bE h
   refine Ex.forget (chillK (f:=A_Band) 2 6 r_5.length 6 w_7 (.ms 2 r_5.length 6) (.sl (w_7.map A_Band) none) hu_60 rfl (fun _ => rfl) rfl (by simp)) ?_
   refine Ex.castA (a2:=mkS 134 [(4,.ptr 1 0),(6,.sl (w_7.map A_Band) none),(14,i6 r_58.1),(16,i6 r_59.2.1),(17,i6 r_59.2.2)]) (S2:=⟨[(C_bk_Drum r_58.2),(C_City r_3.1),[]],[]⟩) (by kernel_rfl) (by kernel_rfl) ?_
   obtain ⟨r_61,hr_61,h⟩:=bE h
   refine Ex.reg (rn 3 [16,17,113,114,115] (mkS 134 [(16,i6 r_59.2.1),(17,i6 r_59.2.2),(113,(A_City r_3.1)),(114,.sl (w_7.map A_Band) none),(115,i6 r_58.1)]) ⟨[(C_bk_Drum r_58.2),(C_City r_3.1),[]],[]⟩ ?_)
   refine ExO.callL [] [(A_City r_3.1),.sl (w_7.map A_Band) none,i6 r_58.1] rfl rfl (a_band_Sleep r_3.1 w_7 r_58.1) rfl rfl (d_band_Sleep N r_3.1 w_7 r_58.1 r_61 hr_61) (b_band_Sleep _ _ _ _) rfl ?_
   refine rn 7 [16,17,19,20] (mkS 134 [(16,i6 r_59.2.1),(17,i6 r_59.2.2),(19,i6 r_61.2.1),(20,i6 r_61.2.2)]) ⟨[(C_bk_Drum r_58.2),(C_City r_3.1),[]],[]⟩ ?_
   refine ExO.nil ?_
   refine Ex.seq ?_
   rcases condI h with ⟨hc_62,h⟩ | ⟨hc_62,h⟩
   ·rcases condI h with ⟨hc_63,h⟩ | ⟨hc_63,h⟩
    ·rcases condI h with ⟨hc_64,h⟩ | ⟨hc_64,h⟩
     ·obtain ⟨r_65,hr_65,h⟩:=bE h
      refine Ex.reg ?_
      refine runH 12 [(2,.eq (.bool true)),(6,.eq (.bool true)),(11,.eq (.bool true))] [131] [AV.bool (r_59.2.2 == 0) = AV.bool true,AV.bool (r_61.2.2 == 0) = AV.bool true,AV.bool (decide (r_61.2.1 ≥ r_59.2.1)) = AV.bool true] (mkS 134 [(131,.bool true)]) (⟨[(C_bk_Drum r_58.2),(C_City r_3.1),[]],[]⟩) (by kernel_rfl) ⟨congrArg AV.bool hc_62,congrArg AV.bool hc_63,congrArg AV.bool hc_64,trivial⟩ ?_
      refine ExO.callL [] [] rfl rfl (a_bl7_awake) rfl rfl (d_bl7_awake N r_65 hr_65) (b_bl7_awake _ _ _ _) rfl ?_
      refine rn 2 [2] (mkS 134 [(2,.bool r_65)]) ⟨[(C_bk_Drum r_58.2),(C_City r_3.1),[]],[]⟩ ?_
      refine ExO.nil ?_
      refine Ex.ret ?_
      obtain rfl:=sJ h
      exact rt (.bool r_65)
     ·refine regH 15 [(2, .eq (.bool true)), (6, .eq (.bool true)), (11, .eq (.bool false))] [2] [AV.bool (r_59.2.2 == 0) = AV.bool true, AV.bool (r_61.2.2 == 0) = AV.bool true, AV.bool (decide (r_61.2.1 ≥ r_59.2.1)) = AV.bool false] (mkS 134 [(2, .bool false)]) (⟨[(C_bk_Drum r_58.2), (C_City r_3.1), []], []⟩) (by kernel_rfl) ⟨congrArg AV.bool hc_62, congrArg AV.bool hc_63, congrArg AV.bool hc_64, trivial⟩ rfl ?_
      refine Ex.ret ?_
      obtain rfl:=sJ h
      exact rt (.bool false)
    ·refine regH 15 [(2, .eq (.bool true)), (6, .eq (.bool false))] [2] [AV.bool (r_59.2.2 == 0) = AV.bool true, AV.bool (r_61.2.2 == 0) = AV.bool false] (mkS 134 [(2, .bool false)]) (⟨[(C_bk_Drum r_58.2), (C_City r_3.1), []], []⟩) (by kernel_rfl) ⟨congrArg AV.bool hc_62, congrArg AV.bool hc_63, trivial⟩ rfl ?_
     refine Ex.ret ?_
     obtain rfl:=sJ h
     exact rt (.bool false)
   ·refine regH 15 [(2, .eq (.bool false))] [2] [AV.bool (r_59.2.2 == 0) = AV.bool false] (mkS 134 [(2, .bool false)]) (⟨[(C_bk_Drum r_58.2), (C_City r_3.1), []], []⟩) (by kernel_rfl) ⟨congrArg AV.bool hc_62, trivial⟩ rfl ?_
    refine Ex.ret ?_
    obtain rfl:=sJ h
    exact rt (.bool false)
end Go.Proofs.YthfpmjnmaifgaaaDoor
end
section
namespace Go.Proofs.YthfpmjnmaifgaaaDoor
open Go.RowKit
set_option maxHeartbeats 400000

theorem idxI_in {i : Int} {m : Nat} (h0 : 0 ≤ i) (h1 : i < (m : Int)) : idxI i m = some ():=if_pos ⟨h0,h1⟩
theorem setI_at {α : Type} {l : List α} {n : Nat} {x : α} (g : α → α) (h : l[n]? = some x) : setI l (n : Int) g = some (l.set n (g x)):=by
 unfold setI; rw [Int.toNat_natCast,h]; rfl
structure Nar (t u : T_band_tour) : Prop where
 sq : u.squares_ = t.squares_
 bd : u.Band = ⟨t.Band.First,t.Band.Path,u.Band.Start,t.Band.Stay,t.Band.People⟩
 l : t.Band.Start.Lo ≤ u.Band.Start.Lo
 m : u.Band.Start.Lo ≤ u.Band.Start.Hi
 h : u.Band.Start.Hi ≤ t.Band.Start.Hi
theorem Nar.refl (t : T_band_tour) (h : t.Band.Start.Lo ≤ t.Band.Start.Hi) : Nar t t:=⟨rfl,rfl,Int.le_refl _,h,Int.le_refl _⟩
theorem Nar.cut {t u : T_band_tour} (k : Nar t u) : ∃ (f : Int) (p : List Int) (s s' : T_Span) (y e : Int) (sq : List Int),t = ⟨⟨f,p,s,y,e⟩,sq⟩ ∧ u = ⟨⟨f,p,s',y,e⟩,sq⟩ ∧ s.Lo ≤ s'.Lo ∧ s'.Lo ≤ s'.Hi ∧ s'.Hi ≤ s.Hi:=by
 obtain ⟨⟨f,p,s,y,e⟩,sq⟩:=t
 obtain ⟨⟨f',p',s',y',e'⟩,sq'⟩:=u
 obtain ⟨k1,k2,k3,k4,k5⟩:=k
 dsimp only at k1 k2 k3 k4 k5
 simp only [T_Band.mk.injEq,true_and] at k2
 obtain ⟨rfl,rfl,rfl,rfl⟩:=k2
 subst k1
 exact ⟨_,_,_,_,_,_,_,rfl,rfl,k3,k4,k5⟩
theorem Nar.more {t u : T_band_tour} (k : Nar t u) (x : T_Span) (h1 : u.Band.Start.Lo ≤ x.Lo) (h2 : x.Lo ≤ x.Hi) (h3 : x.Hi ≤ u.Band.Start.Hi) : Nar t ⟨⟨u.Band.First,u.Band.Path,x,u.Band.Stay,u.Band.People⟩,u.squares_⟩:=by
 obtain ⟨f,p,s,s',y,e,sq,rfl,rfl,a1,a2,a3⟩:=k.cut
 dsimp only at h1 h3
 exact ⟨rfl,rfl,by dsimp only; omega,h2,by dsimp only; omega⟩
theorem Nar.good {c : T_City} {t u : T_band_tour} (k : Nar t u) (h : GoodT c t) : GoodT c u:=by
 obtain ⟨f,p,s,s',y,e,sq,rfl,rfl,a1,a2,a3⟩:=k.cut
 have h : GoodB c ⟨f,p,s,y,e⟩ sq:=h
 have b1:=h.s0; have b2:=h.s1; have b3:=h.s2; have b4:=h.en
 dsimp only at b1 b2 b3 b4
 exact (show GoodB c ⟨f,p,s',y,e⟩ sq from { f0:=h.f0,f1:=h.f1,wk:=h.wk,pl:=h.pl,s0:=by dsimp only; omega,s1:=a2,s2:=by dsimp only; omega,y0:=h.y0,y1:=h.y1,p0:=h.p0,p1:=h.p1,en:=by dsimp only; omega })
theorem Nar.vis {t u : T_band_tour} (k : Nar t u) (lo hi : Int) : visL u lo hi = visL t lo hi:=by
 obtain ⟨f,p,s,s',y,e,sq,rfl,rfl,a1,a2,a3⟩:=k.cut
 rfl
theorem Nar.mb {t u t' u' : T_band_tour} (k : Nar t u) (k' : Nar t' u') (p m n : Int) : MB u u' p m n = MB t t' p m n:=by
 unfold MB
 rw [k.vis,k'.vis]
theorem Nar.heard {t u : T_band_tour} (k : Nar t u) {q : Int} {m : Nat} (h : Heard u q m) : Heard t q m:=by
 obtain ⟨f,p,s,s',y,e,sq,rfl,rfl,a1,a2,a3⟩:=k.cut
 obtain ⟨i,h1,h2,h3,h4⟩:=h
 dsimp only at h1 h2 h3 h4
 exact ⟨i,h1,h2,by dsimp only; omega,by dsimp only; omega⟩
theorem less_p (N : Nat) (d : T_bk_Drum) (x : T_Span) (h0 : 0 ≤ x.Lo) (h1 : x.Lo ≤ x.Hi) (h2 : x.Hi ≤ 1000000) : ∃ (y : T_Span) (d' : T_bk_Drum),p_bk_Drum_Less N d x = some (y,d') ∧ x.Lo ≤ y.Lo ∧ y.Lo ≤ y.Hi ∧ y.Hi ≤ x.Hi:=by
 unfold p_bk_Drum_Less
 obtain ⟨r,d1,e,a1,a2⟩:=of_p N d x h1 (by omega) (by omega)
 rw [e,Option.bind_some]; clear e
 dsimp only
 obtain ⟨s,d2,e,b1,b2⟩:=of_p N d1 x h1 (by omega) (by omega)
 rw [e,Option.bind_some]; clear e
 dsimp only
 refine ⟨_,_,rfl,?_,?_,?_⟩ <;> dsimp only <;> repeat' split
 all_goals omega
theorem ints_p (N : Nat) (l : List Int) (h : l.length ≤ 65536) : p_bk_Ints N l = some l:=by
 unfold p_bk_Ints
 rw [pushI_ok (by simpa using h)]
 rfl
theorem own_p (N : Nat) (hN : 1000 < N) (l : List T_Band) (hl : l.length ≤ 100) (hp : ∀ b ∈ l,b.Path.length ≤ 100) : p_bk_OwnBands N l = some l:=by
 unfold p_bk_OwnBands
 let T : Option (List T_Band) → Prop:=fun r => r = some l
 show T _
 refine letJ_gen T _ _ (fun K1 hK1 => ?_)
 refine loop2_T T (fun y w => ∃ n : Nat,y = (n : Int) ∧ n ≤ l.length ∧ w = l.take n) (fun y w => l.length - y.toNat) ?_ N 0 [] ⟨0,rfl,Nat.zero_le _,rfl⟩ (by simp; omega)
 rintro rec y w ⟨n,rfl,hn,rfl⟩ ih
 by_cases h1 : n < l.length
 ·have hx : l[n]? = some l[n]:=List.getElem?_eq_getElem h1
  have hm:=hp _ (List.getElem_mem h1)
  rw [ltD h1,cond_true,getD_at hx,Option.bind_some,ints_p _ _ (by omega),Option.bind_some,pushI_ok (by simp; omega),Option.bind_some,nadd1 n (by omega)]
  exact ih _ _ ⟨n + 1,rfl,by omega,(List.take_succ_eq_append_getElem h1).symm⟩ (by omega)
 ·have : n = l.length := by omega
  subst this
  rw [ltE,cond_false,hK1,List.take_length]
  show (lenI l l.length).bind _ = _
  rw [lenI,if_pos rfl]; rfl
theorem bandNarrow_p (N : Nat) (hN : 9223372036854776000 < N) (haw : p_bl7_awake N = some true) (nums : List Int) (hl : nums.length < 9223372036854775808) : p_bl7_BandNarrow N nums = some true:=by
 unfold p_bl7_BandNarrow
 obtain ⟨d0,e⟩:=drumOf_p N nums (by omega) hl
 rw [e,Option.bind_some]; clear e
 obtain ⟨c,d1,e,hc⟩:=cityOf_p N (by omega) d0
 rw [e,Option.bind_some]; clear e
 dsimp only
 obtain ⟨l,d2,e,hll,hlb⟩:=bandsOf_p N (by omega) d1 c hc 4 (by omega)
 rw [show ((4 : Nat) : Int) = 4 from rfl] at e
 rw [e,Option.bind_some]; clear e
 dsimp only
 obtain ⟨ts,rfl,hts⟩:=tours_ex l hlb
 rw [List.length_map] at hll
 have hT : ∀ t ∈ ts,GoodT c t:=fun t ht => (hts t ht).1
 rw [own_p N (by omega) _ (by simp; omega) (fun b hb => by obtain ⟨t,ht,rfl⟩:=List.mem_map.1 hb; have:=(hT t ht).pl; omega),Option.bind_some,List.length_map]
 have hsl:=hc.sl; have hr4:=hc.r4; have hr1:=hc.tw.r1
 let T : Option Bool → Prop:=fun r => r = some true
 show T _
 refine letJ_gen T _ _ (fun K1 hK1 => ?_)
 have after : ∀ (b : Int) (us : List T_band_tour),us.length = ts.length → (∀ (j : Nat) t u,ts[j]? = some t → us[j]? = some u → Nar t u) → T (K1 b (us.map (·.Band))):=by
  intro b us hlen hnar
  have hat : ∀ n : Nat,n < ts.length → ∃ t u,ts[n]? = some t ∧ us[n]? = some u ∧ Nar t u:=fun n hn => ⟨ts[n],us[n]'(by omega),List.getElem?_eq_getElem hn,List.getElem?_eq_getElem (by omega),hnar n _ _ (List.getElem?_eq_getElem hn) (List.getElem?_eq_getElem (by omega))⟩
  have hU : ∀ u ∈ us,∃ t ∈ ts,Nar t u:=fun u hu => by
   obtain ⟨j,hj,rfl⟩:=List.mem_iff_getElem.1 hu
   obtain ⟨t,u,h1,h2,h3⟩:=hat j (by omega)
   rw [List.getElem?_eq_getElem hj] at h2; cases h2
   exact ⟨t,List.mem_of_getElem? h1,h3⟩
  have hUg : ∀ u ∈ us,GoodT c u:=fun u hu => by
   obtain ⟨t,h1,h2⟩:=hU u hu
   exact h2.good (hT t h1)
  rw [hK1]
  dsimp only
  refine letJ_gen T _ _ (fun K2 hK2 => ?_)
  have fin : T (K2 ()):=by
   rw [hK2]
   dsimp only
   obtain ⟨r,d3,e,a0,a1,a2⟩:=roll_p N ⟨b⟩ ((c.Sleep.length : Nat) : Int) (by omega)
   rw [e,Option.bind_some]; clear e
   dsimp only
   obtain ⟨q,rfl⟩ : ∃ q : Nat,r = (q : Int):=⟨r.toNat,by omega⟩
   obtain ⟨f,m,e1,hs⟩:=sleepF_c N (by omega) c hc ts (by omega) hT q (by omega)
   obtain ⟨f',m',e2,hs'⟩:=sleepF_c N (by omega) c hc us (by omega) hUg q (by omega)
   have hmm : m ≤ m':=by
    rcases Nat.eq_zero_or_pos m with h0 | h0
    ·omega
    ·obtain ⟨a1,a2,_⟩:=hs.at_ h0
     have b1 := runP_mono (P := fun k => ∃ t ∈ ts, Heard t (q : Int) k) (Q := fun k => ∃ t ∈ us, Heard t (q : Int) k) (fun k ⟨u, hu, hh⟩ => by
      obtain ⟨t,h1,h2⟩:=hU u hu
      exact ⟨t, h1, h2.heard hh⟩) (f + m)
     have b2:=hs'.le _ a1
     omega
   rw [e1,Option.bind_some,lenI,if_pos (by rw [List.length_map,hlen]),Option.bind_some,e2,Option.bind_some]
   dsimp only
   rw [beq_self_eq_true,cond_true,cond_true,dT (show (m' : Int) ≥ (m : Int) by omega),cond_true,haw]
   rfl
  refine loop1_T T (fun y => ∃ n : Nat,y = (n : Int) ∧ n ≤ ts.length) (fun y => ts.length - y.toNat) ?_ N 0 ⟨0,rfl,Nat.zero_le _⟩ (by simp; omega)
  rintro rec y ⟨n,rfl,hn⟩ ih
  by_cases h1 : n < ts.length
  ·rw [ltD h1,cond_true]
   refine letJ_gen T _ _ (fun K3 hK3 => ?_)
   have next : T (K3 ()):=by
    rw [hK3]
    dsimp only
    rw [nadd1 n (by omega)]
    exact ih _ ⟨n + 1,rfl,by omega⟩ (by omega)
   refine loop1_T T (fun y => ∃ k : Nat,y = (k : Int) ∧ k ≤ n) (fun y => n - y.toNat) ?_ N 0 ⟨0,rfl,Nat.zero_le _⟩ (by simp; omega)
   rintro rec2 y ⟨k,rfl,hk⟩ ih2
   by_cases h2 : k < n
   ·obtain ⟨t,u,g1,g2,g3⟩:=hat n h1
    obtain ⟨s,v,g4,g5,g6⟩:=hat k (by omega)
    have m1 : (ts.map (·.Band))[n]? = some t.Band:=by rw [List.getElem?_map,g1]; rfl
    have m2 : (ts.map (·.Band))[k]? = some s.Band:=by rw [List.getElem?_map,g4]; rfl
    have m3 : (us.map (·.Band))[Int.toNat (n : Int)]? = some u.Band:=by rw [Int.toNat_natCast,List.getElem?_map,g2]; rfl
    have m4 : (us.map (·.Band))[Int.toNat (k : Int)]? = some v.Band:=by rw [Int.toNat_natCast,List.getElem?_map,g5]; rfl
    obtain ⟨v1,e1,c1,i1,i2⟩:=cross_c N (by omega) c hc t s (hT t (List.mem_of_getElem? g1)) (hT s (List.mem_of_getElem? g4))
    obtain ⟨v2,e2,c2,j1,j2⟩:=cross_c N (by omega) c hc u v (hUg u (List.mem_of_getElem? g2)) (hUg v (List.mem_of_getElem? g5))
    rw [ltD h2,cond_true,getD_at m1,Option.bind_some,getD_at m2,Option.bind_some,e1,Option.bind_some,idxI_in (by omega) (by omega),Option.bind_some,m3,Option.bind_some,idxI_in (by omega) (by omega),Option.bind_some,m4,Option.bind_some,e2,Option.bind_some,letJ_eq]
    dsimp only
    rw [bne_self_eq_false,cond_false,cond_false]
    have n1:=g3.l; have n2:=g3.h; have n3:=g6.l; have n4:=g6.h
    have go : T (bif false then some false else rec2 (IntKind.i64.wrap ((k : Int) + 1))):=by
     rw [cond_false,nadd1 k (by omega)]
     exact ih2 _ ⟨k + 1,rfl,by omega⟩ (by omega)
    have hv : v1 ≠ 3 → v1 = v2:=fun h3 => by
     rcases c1 with h | h | h
     ·rw [h,j1.2 fun s1 p1 p2 s2 p3 p4 => by rw [g3.mb g6]; exact i1.1 h s1 (by omega) (by omega) s2 (by omega) (by omega)]
     ·rw [h,j2.2 fun s1 p1 p2 s2 p3 p4 => by rw [g3.mb g6]; exact i2.1 h s1 (by omega) (by omega) s2 (by omega) (by omega)]
     ·exact absurd h h3
    by_cases h3 : v1 = 3
    ·subst h3
     rw [bne_self_eq_false,cond_false]
     exact go
    ·rw [show (v1 != 3) = true from by simpa using h3, cond_true, ← hv h3, bne_self_eq_false]
     exact go
   ·have : k = n := by omega
    subst this
    rw [ltE,cond_false]
    exact next
  ·have : n = ts.length := by omega
   subst this
   rw [ltE,cond_false]
   exact fin
 refine loop3_T T (fun y b w => ∃ (n : Nat) (us : List T_band_tour), y = (n : Int) ∧ n ≤ ts.length ∧ w = us.map (·.Band) ∧ us.length = ts.length ∧ ∀ (j : Nat) t u, ts[j]? = some t → us[j]? = some u → Nar t u) (fun y b w => ts.length - y.toNat) ?_ N 0 _ _ ⟨0, ts, rfl, Nat.zero_le _, rfl, rfl, fun j t u h1 h2 => by
  rw [h1] at h2; cases h2
  exact Nar.refl t (hT t (List.mem_of_getElem? h1)).s1⟩ (by simp; omega)
 rintro rec y b w ⟨n,us,rfl,hn,rfl,hlen,hnar⟩ ih
 by_cases h1 : n < ts.length
 ·obtain ⟨t,ht⟩ : ∃ t,ts[n]? = some t:=⟨_,List.getElem?_eq_getElem h1⟩
  obtain ⟨u,hu⟩ : ∃ u,us[n]? = some u:=⟨_,List.getElem?_eq_getElem (by omega)⟩
  have hk:=hnar n t u ht hu
  have hg : GoodB c u.Band u.squares_:=hk.good (hT t (List.mem_of_getElem? ht))
  have b1:=hg.s0; have b2:=hg.s1; have b3:=hg.en; have b4:=hg.mul
  obtain ⟨x,d3,e,l1,l2,l3⟩:=less_p N ⟨b⟩ u.Band.Start b1 b2 (by omega)
  have m1 : (us.map (·.Band))[n]? = some u.Band:=by rw [List.getElem?_map,hu]; rfl
  have m3 : (us.map (·.Band))[Int.toNat (n : Int)]? = some u.Band:=by rw [Int.toNat_natCast]; exact m1
  rw [ltD h1,cond_true,idxI_in (by omega) (by omega),Option.bind_some,m3,Option.bind_some,e,Option.bind_some,Option.bind_some,setI_at _ m1,Option.bind_some,nadd1 n (by omega)]
  dsimp only
  refine ih _ _ _ ⟨n + 1,us.set n ⟨⟨u.Band.First,u.Band.Path,x,u.Band.Stay,u.Band.People⟩,u.squares_⟩,rfl,by omega,by rw [List.map_set],by rw [List.length_set,hlen],fun j t' u' h2 h3 => ?_⟩ (by omega)
  by_cases hj : j = n
  ·subst hj
   rw [List.getElem?_set_self (by omega)] at h3
   rw [ht] at h2
   cases h2; cases h3
   exact hk.more x l1 l2 l3
  ·rw [List.getElem?_set_ne (fun e => hj e.symm)] at h3
   exact hnar j t' u' h2 h3
 ·have : n = ts.length := by omega
  subst this
  rw [ltE,cond_false]
  exact after _ _ hlen hnar
theorem bandNarrow_m (nums : List Int) (haw : p_bl7_awake 18446744073709551616 = some true) (hl : nums.length < 9223372036854775808) : Does Tryd.prog 3 [.sl (nums.map fun z => .int .i64 z) none] [] fun v _ => v = .bool true :=
 (d_bl7_BandNarrow _ nums true (bandNarrow_p _ (by omega) haw nums hl)).mono fun v c h => h.1
end Go.Proofs.YthfpmjnmaifgaaaDoor
end
section
namespace Go.Proofs.YthfpmjnmaifgaaaDoor
open Go.RowKit
theorem awake_c : p_bl7_awake 18446744073709551616 = some true:=by kernel_rfl
end Go.Proofs.YthfpmjnmaifgaaaDoor
end
section
namespace Go.Proofs.YthfpmjnmaifgaaaDoor
open Go.RowKit Go.ChangeShapes Go.WideShapes Go.ChangeAt

def nums (zs : List Int) : AV:=.sl (zs.map fun z => .int .i64 z) none
theorem prog_own : ownKnob Tryd.prog.godebug = none:=by kernel_rfl
theorem prog_laid : laidOutB Tryd.prog = true:=by kernel_rfl

namespace bandNarrow
theorem glw {W : World} (hL : laidMetH Tryd.prog Rows.bandNarrowRow.laid W) : GLW W:=by
 rw [MakeChecks.laidMetH_plain _ _ _ (by kernel_rfl)] at hL
 have h0 : Lib.TabIs Tryd.prog W "math/bits.deBruijn32tab" .u8 gnum0 := Lib.tabIs_of_head (g := 0) (t := 126) (e := 5) (n := 32) (by kernel_rfl) (by kernel_rfl) (by kernel_rfl) (by kernel_rfl) (by kernel_rfl) (by kernel_rfl) (hL)
 have h1 : Lib.TabIs Tryd.prog W "math/bits.deBruijn64tab" .u8 gnum1 := Lib.tabIs_of_head (g := 1) (t := 127) (e := 5) (n := 64) (by kernel_rfl) (by kernel_rfl) (by kernel_rfl) (by kernel_rfl) (by kernel_rfl) (by kernel_rfl) (hL.tail)
 intro B o u h
 by_cases e0 : B = 0
 ·subst e0
  have:=World.var?_cell (P:=Tryd.prog) (g:=0) (by kernel_rfl) h0 o
  rw [this]
  simpa [gcell,gtab,gtab0] using h
 by_cases e1 : B = 1
 ·subst e1
  have:=World.var?_cell (P:=Tryd.prog) (g:=1) (by kernel_rfl) h1 o
  rw [this]
  simpa [gcell,gtab,gtab1] using h
 simp [gcell,gtab,e0,e1] at h
theorem door_met (os : Os) (args : Array Value) : laidMetH Tryd.prog Rows.bandNarrowRow.laid ((World.doorLaid Tryd.prog 19 os).forCall (fun _ _ => 0) ⟨#[],args,[]⟩).memory :=
 laidMetH_of_parts3 (fuel:=8) (laidMet_of_run' 8 (by kernel_rfl) (by kernel_rfl)) (by kernel_rfl) (by kernel_rfl)
set_option maxRecDepth 100000 in
theorem lifted (hM : ∀ zs : List Int,(∀ z ∈ zs,(Lit.int .i64 z).wf = true) → zs.length ≤ maxLen → Does Tryd.prog 3 [nums zs] [] fun v _ => v = .bool true) (os : Os) (started : os.Started) (H : Type) (enc : TypeId × Value → H) :
  ReturnsInHanded {} Tryd.checked os 3 .any (fun w args => (Rows.bandNarrowSpec.pre enc Tryd.prog Tryd.f3 Rows.bandNarrowRow.domain false w args ∧ laidMetH Tryd.prog Rows.bandNarrowRow.laid w) ∧ sizedMet enc Tryd.prog Tryd.f3 (OpenSpec.ofChange Rows.bandNarrowSpec) false w args) (Rows.bandNarrowSpec.post enc Tryd.prog Tryd.f3 false true false false):=by
 refine returnsInHanded_of_change_and (C := Tryd.checked) (X := fun w _ => laidMetH Tryd.prog Rows.bandNarrowRow.laid w) (fun _ _ _ hh h => h.of_heap hh) prog_own started (by kernel_rfl) Tryd.func3
  (ChangeSpec.witness_shaped (enc:=enc) (C:=Tryd.checked) (os:=os) (X:=fun w _ => laidMetH Tryd.prog Rows.bandNarrowRow.laid w) false (World.doorLaid Tryd.prog 19 os) #[.slice none 0 0] 8 rfl (World.shaped_of_RefB (by kernel_rfl) (by kernel_rfl)) (by kernel_rfl) (by kernel_rfl) (by kernel_rfl) (door_met os _)) ?_
 intro W base args ds gs before hval0 hW hcnd _ hL _
 have hval : ∀ (j : Nat) t v,Tryd.f3.params[j]? = some t → args[j]? = some v → Value.okWide Tryd.prog W .any base t v:=hval0
 have hW':=hW
 obtain ⟨p,q,hA0,hV,rfl,hfz,hnd⟩:=hW
 have hA : DataW.TrodAll enc Tryd.prog W 0 (fun _ => true) true Tryd.f3.params.toList args.toList ds p:=hA0
 rw [Tryd.params3] at hA hval
 obtain ⟨v0,vs0,d0,ds0,p0,q0,hargs,rfl,rfl,h0,r0⟩:=trodAll_cons hA
 obtain ⟨rfl,rfl,rfl⟩:=trodAll_nil r0
 obtain rfl : args = #[v0]:=by cases args; simp_all
 obtain ⟨rfl,rfl⟩:=trodVars_none hV
 obtain ⟨a0,len0,cap0,rfl⟩:=okWide_slice Tryd.underlying22 (hval 0 22 v0 rfl rfl)
 have k0:=h0
 have lt0 : ∀ x ∈ p0,x.block < W.heap.size:=by obtain ⟨m,hm⟩:=k0; exact DataW.trod_lt m _ _ _ hm
 obtain ⟨zs,hwf,hlen,hvr⟩:=ints_vr Tryd.underlying22 Tryd.underlying3 (by kernel_rfl) h0
 clear hA0 hval0
 refine ((hM zs hwf hlen).law (us:=#[.slice a0 len0 cap0]) ⟨rfl,fun i x u hx hu => ?_⟩ (glw hL)).mono fun e W' ⟨he,bel⟩ => ?_
 ·cases i with
  | zero => simp at hx hu; subst hx; subst hu; exact hvr
  | succ i => simp at hx
 subst he
 exact ⟨_,rfl,_,_,_,[],_,[],hW',trodAll_mk1 (shut_bool Tryd.underlying4 _),(trodAll_cons_mk (Below.trod prog_laid (by kernel_rfl) (of_decide_eq_true (by kernel_rfl)) k0 bel lt0) trodAll_mk0),rfl,bel.frame _,fun h => by cases h⟩

theorem frame (hM : ∀ zs : List Int,(∀ z ∈ zs,(Lit.int .i64 z).wf = true) → zs.length ≤ maxLen → Does Tryd.prog 3 [nums zs] [] fun v _ => v = .bool true) : Rows.BandNarrowSaid :=
 OpenClaim.holds_of_wide 3 Tryd.f3 rfl rfl rfl rfl rfl rfl rfl ⟨rfl, rfl, rfl, rfl, rfl⟩ rfl rfl rfl rfl rfl (by kernel_rfl) Tryd.func3 (by kernel_rfl)
  (of_decide_eq_true (by kernel_rfl)) (by unfold Func.isWrapper; first | (rw [if_pos (by decide +kernel)]; kernel_rfl) | (rw [if_neg (by decide +kernel)]; exact ⟨rfl,rfl⟩))
  (fun os started H enc _ => lifted hM os started H enc)
end bandNarrow
end Go.Proofs.YthfpmjnmaifgaaaDoor
end
section
namespace Go.Proofs.YthfpmjnmaifgaaaDoor
open Go
set_option maxRecDepth 100000
theorem bandNarrow_card (h : Rows.BandNarrowSaid) : Rows.BandNarrowCardSaid :=
 Claim7.holds_tied_plain_at .later [] [.data, .data] true (true, "f5769cdaea909a30e319c171f4fd22533211c07023089ab5601e95942390f1b9") false
  h (fun _ h => by cases h) (by kernel_rfl) (fun _ h => by cases h) bandNarrow_row_tie rfl ⟨rfl,rfl⟩ (by kernel_rfl) rfl
  (fun f fn hf hfn => by
    obtain rfl : f = 3 := Option.some.inj ((show Tryd.prog.funcNamed "bateria/baterialaw07.BandNarrow" = some 3 by kernel_rfl).symm.trans hf) |>.symm
    obtain rfl : fn = Tryd.f3:=(Option.some.inj ((Tryd.func3).symm.trans hfn)).symm
    refine ⟨by kernel_rfl,fun j t ht => ?_⟩
    have hall : (Tryd.f3.params.toList.all fun t => !Tryd.prog.wantsStandIn t) = true:=by kernel_rfl
    have hm : t ∈ Tryd.f3.params.toList:=by
     rw [← Array.getElem?_toList] at ht
     exact List.mem_of_getElem? ht
    have hq:=List.all_eq_true.1 hall t hm
    show Tryd.prog.wantsStandIn t = false
    simpa using hq)
  (by kernel_rfl)
end Go.Proofs.YthfpmjnmaifgaaaDoor
end
