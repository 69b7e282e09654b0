/- Part 6 of what the law needs: own work, put together. -/
import Derived.Test.YtkchfjblcfbajaaDoorByZq4
set_option linter.unusedVariables false
set_option linter.unusedSimpArgs false
set_option maxRecDepth 10000
set_option maxHeartbeats 4000000
section
namespace Go.Proofs.YtkchfjblcfbajaaDoor
open Go.RowKit
attribute [local simp] ren ren1 AV.plain AV.plain1 AV.clean cleanL cleanI cleanBo cleanSt cleanII plFB clFB faFB KL_bk_Drum KL_Span KL_Street KL_Group KL_Town KL_City KL_Band KL_band_tour KL_band_visit KL_V12_bool A_bk_Drum C_bk_Drum A_Span C_Span A_Street C_Street A_Group C_Group A_Town C_Town A_City C_City A_Band C_Band A_band_tour C_band_tour A_band_visit C_band_visit A_V12_bool C_V12_bool back back1 fadeS fadeV List.idxOf? List.findIdx? List.findIdx?.go re re1 KB_bk_Drum KB_Span KB_Street KB_Group KB_Town KB_City KB_Band KB_band_tour KB_band_visit KB_V12_bool
def p_band_night_with (N : Nat) (n_1 : (List Bool)) (minutes_2 : T_Span) : Option ((List Bool)):=(letJ (fun (w_3 : List Bool) => ((lenI w_3 720).bind fun u_16 => ((len2 (List.replicate 720 false) w_3 720).bind fun u_17 => ((lenI w_3 720).bind fun u_18 => some w_3)))) (fun k_4 => (loop2 (fun rec_9 (minute_7 : Int) (w_8 : List Bool) => (bif (decide (minute_7 ≤ minutes_2.Hi)) then ((idxI minute_7 720).bind fun u_13 => ((setI w_8 minute_7 (fun (y_14 : Bool) => true)).bind fun z_15 => (rec_9 (IntKind.i64.wrap (minute_7 + 1)) z_15))) else (k_4 w_8))) N minutes_2.Lo n_1)))
def v_band_night_with (r : (List Bool)) : AV:=.agg (flat (r.map AV.bool))
attribute [local simp] v_band_night_with
theorem b_band_night_with (r : (List Bool)) (n n2 m : Nat) : back n n2 m (v_band_night_with r) = some (v_band_night_with r):=by simp
theorem d_band_night_with (N : Nat) (n_1 : (List Bool)) (minutes_2 : T_Span) (r : (List Bool)) (h : p_band_night_with N n_1 minutes_2 = some r) : Does Tryd.prog 96 [.agg (flat (n_1.map AV.bool)),(A_Span minutes_2)] [] fun v c => v = v_band_night_with r ∧ c = []:=by
 unfold p_band_night_with at h
 refine Does.ofL comp96 _ _ rfl rfl ?_
 refine Ex.seq (rg 3 [2,3,4] (mkS 17 [(2,.ptr 0 0),(3,.ptr 1 0),(4,.ptr 2 0)]) ⟨[(flat (n_1.map AV.bool)),(C_Span minutes_2),(flat ((List.replicate 720 false).map AV.bool))],[]⟩ ?_)
 refine Ex.seq (Ex.seq ?_)
 refine rg 3 [2,3,4,5] (mkS 17 [(2,.ptr 0 0),(3,.ptr 1 0),(4,.ptr 2 0),(5,i6 minutes_2.Lo)]) ⟨[(flat (n_1.map AV.bool)),(C_Span minutes_2),(flat ((List.replicate 720 false).map AV.bool))],[]⟩ ?_
 obtain ⟨K_5,hK_6,h⟩:=letE h
 refine Ex.blockJ (fun a S => ∃ (w_3 : List Bool),K_5 w_3 = some r ∧ a = mkS 17 [(2,.ptr 0 0),(4,.ptr 2 0)] ∧ S = ⟨[(flat (w_3.map AV.bool)),(C_Span minutes_2),(flat ((List.replicate 720 false).map AV.bool))],[]⟩) ?_ ?_
 ·obtain ⟨B_10,hB_11,h⟩:=loop2I h
  refine Ex.loopF (fun k a S => ∃ (minute_7 : Int),∃ (w_8 : List Bool),loop2 B_10 k minute_7 w_8 = some r ∧ a = mkS 17 [(2,.ptr 0 0),(3,.ptr 1 0),(4,.ptr 2 0),(5,i6 minute_7)] ∧ S = ⟨[(flat (w_8.map AV.bool)),(C_Span minutes_2),(flat ((List.replicate 720 false).map AV.bool))],[]⟩) N ⟨_,_,Forgets.refl _ _ _,minutes_2.Lo,n_1,h,rfl,rfl⟩ ?_
  rintro k a S ⟨minute_7,w_8,h,rfl,rfl⟩
  cases k with
  | zero => exact (loop2Z h).elim
  | succ k =>
   replace h:=loop2S h hB_11
   refine Ex.seq (Ex.seq ?_)
   refine rg 4 [2,3,4,5,11] (mkS 17 [(2,.ptr 0 0),(3,.ptr 1 0),(4,.ptr 2 0),(5,i6 minute_7),(11,.bool (decide (minute_7 ≤ minutes_2.Hi)))]) ⟨[(flat (w_8.map AV.bool)),(C_Span minutes_2),(flat ((List.replicate 720 false).map AV.bool))],[]⟩ ?_
   rcases condI h with ⟨hc_12,h⟩ | ⟨hc_12,h⟩
   ·refine Ex.condT _ rfl hc_12 ?_
    refine Ex.skip ?_
    refine Ex.seq ?_
    refine Ex.blockK ?_
    obtain ⟨u_13,hu_13,h⟩:=bE h
    obtain ⟨z_15,hz_15,h⟩:=bE h
    refine regH 3 [(1,.adr),(2,.st (flat (z_15.map AV.bool)))] [2,3,4,5] [0 ≤ minute_7 ∧ minute_7 < ((720 : Nat) : Int),0 + Int.toNat minute_7 * 1 + 1 ≤ ((flat (w_8.map AV.bool))).length ∧ layAt (flat (w_8.map AV.bool)) (0 + Int.toNat minute_7 * 1) [.bool true] = (flat (z_15.map AV.bool))] (mkS 17 [(2,.ptr 0 0),(3,.ptr 1 0),(4,.ptr 2 0),(5,i6 minute_7)]) (⟨[(flat (z_15.map AV.bool)),(C_Span minutes_2),(flat ((List.replicate 720 false).map AV.bool))],[]⟩) (by kernel_rfl) ⟨idxI.of hu_13,stFl (f:=AV.bool) (s:=1) _ 0 1 minute_7 (fun (y_14 : Bool) => true) _ (fun _ => rfl) hz_15 rfl (by decide) (by omega) (fun _ => rfl),trivial⟩ rfl ?_
    refine rg 3 [2,3,4,5] (mkS 17 [(2,.ptr 0 0),(3,.ptr 1 0),(4,.ptr 2 0),(5,i6 (IntKind.i64.wrap (minute_7 + 1)))]) ⟨[(flat (z_15.map AV.bool)),(C_Span minutes_2),(flat ((List.replicate 720 false).map AV.bool))],[]⟩ ?_
    dsimp only
    exact ⟨_,_,Forgets.refl _ _ _,k,Nat.lt_succ_self k,(IntKind.i64.wrap (minute_7 + 1)),z_15,h,rfl,rfl⟩
   ·refine Ex.condF _ rfl hc_12 ?_
    refine Ex.exit ?_
    (try simp only [reduceCtorEq,AEx.ex.injEq,Nat.reduceEqDiff,if_true,if_false])
    exact ⟨_,_,forgetK [2,4],w_8,h,rfl,rfl⟩
 ·rintro a S ⟨w_3,h,rfl,rfl⟩
  subst hK_6
  refine Ex.seq ?_
  obtain ⟨u_16,hu_16,h⟩:=bE h
  obtain ⟨u_17,hu_17,h⟩:=bE h
  refine regH 2 [(0,.ld (.agg (flat (w_3.map AV.bool)))),(1,.stw (flat (w_3.map AV.bool)))] [4] [takeCells (flat (w_3.map AV.bool)) 0 (some 720) = some (.agg (flat (w_3.map AV.bool))),(.agg (flat (w_3.map AV.bool)) : AV).okCells = true ∧ (.agg (flat (w_3.map AV.bool)) : AV).cells.length = 720 ∧ 0 < 720 ∧ 0 + 720 ≤ ((flat ((List.replicate 720 false).map AV.bool))).length ∧ layAt (flat ((List.replicate 720 false).map AV.bool)) 0 (.agg (flat (w_3.map AV.bool)) : AV).cells = (flat (w_3.map AV.bool))] (mkS 17 [(4,.ptr 2 0)]) (⟨[(flat (w_3.map AV.bool)),(C_Span minutes_2),(flat (w_3.map AV.bool))],[]⟩) (by kernel_rfl) ⟨ldArrA (f:=AV.bool) w_3 (fun _ => rfl) hu_16,stArrA (f:=AV.bool) (List.replicate 720 false) w_3 (fun _ => rfl) (by decide) hu_17,trivial⟩ rfl ?_
  refine Ex.ret ?_
  obtain ⟨u_18,hu_18,h⟩:=bE h
  obtain rfl:=sJ h
  exact ⟨.inr rfl,.agg (flat (w_3.map AV.bool)),evResArr (f:=AV.bool) rfl rfl (fun _ => rfl) hu_18,rfl,fadeArr (f:=AV.bool) (fun _ => rfl) _,by kernel_rfl⟩
def p_band_nightOf (N : Nat) (tours_1 : (List T_band_tour)) (square_2 : Int) : Option ((List Bool)):=((len2 (List.replicate 720 false) (List.replicate 720 false) 720).bind fun u_3 => (letJ (fun (w_4 : List Bool) => ((lenI w_4 720).bind fun u_35 => ((len2 (List.replicate 720 false) w_4 720).bind fun u_36 => ((lenI w_4 720).bind fun u_37 => some w_4)))) (fun k_5 => (loop2 (fun rec_10 (y_8 : Int) (w_9 : List Bool) => (bif (decide (y_8 < ((tours_1.length : Nat) : Int))) then ((getI tours_1 y_8).bind fun x_14 => ((p_band_tour_visits N x_14 x_14.Band.Start).bind fun r_15 => (letJ (fun (w_16 : List Bool) => (rec_10 (IntKind.i64.wrap (y_8 + 1)) w_16)) (fun k_17 => (loop2 (fun rec_22 (y_20 : Int) (w_21 : List Bool) => (bif (decide (y_20 < ((r_15.length : Nat) : Int))) then (letJ (fun (w_26 : List Bool) => (rec_22 (IntKind.i64.wrap (y_20 + 1)) w_26)) (fun k_27 => ((getI r_15 y_20).bind fun x_30 => (bif (x_30.square_ == square_2) then ((lenI w_21 720).bind fun u_32 => ((p_band_night_with N w_21 x_30.Span).bind fun r_33 => ((len2 w_21 r_33 720).bind fun u_34 => (k_27 r_33)))) else (k_27 w_21))))) else (k_17 w_21))) N 0 w_9))))) else (k_5 w_9))) N 0 (List.replicate 720 false)))))
def v_band_nightOf (r : (List Bool)) : AV:=.agg (flat (r.map AV.bool))
attribute [local simp] v_band_nightOf
theorem a_band_nightOf (tours_1 : (List T_band_tour)) (square_2 : Int) : [.sl (tours_1.map A_band_tour) none,i6 square_2].mapM (ren []) = some [.sl (tours_1.map A_band_tour) none,i6 square_2]:=by simp
theorem b_band_nightOf (r : (List Bool)) (n n2 m : Nat) : back n n2 m (v_band_nightOf r) = some (v_band_nightOf r):=by simp
theorem d_band_nightOf (N : Nat) (tours_1 : (List T_band_tour)) (square_2 : Int) (r : (List Bool)) (h : p_band_nightOf N tours_1 square_2 = some r) : Does Tryd.prog 74 [.sl (tours_1.map A_band_tour) none,i6 square_2] [] fun v c => v = v_band_nightOf r ∧ c = []:=by
 unfold p_band_nightOf at h
 refine Does.ofL comp74 _ _ rfl rfl ?_
 refine Ex.seq (rg 1 [0,1,4] (mkS 38 [(0,.sl (tours_1.map A_band_tour) none),(1,i6 square_2),(4,.ptr 0 0)]) ⟨[(flat ((List.replicate 720 false).map AV.bool))],[]⟩ ?_)
 refine Ex.seq ?_
 obtain ⟨u_3,hu_3,h⟩:=bE h
 refine regH 3 [(2,.stw (flat ((List.replicate 720 false).map AV.bool)))] [0,1,4,5] [(.agg (flat ((List.replicate 720 false).map AV.bool)) : AV).okCells = true ∧ (.agg (flat ((List.replicate 720 false).map AV.bool)) : AV).cells.length = 720 ∧ 0 < 720 ∧ 0 + 720 ≤ ((flat ((List.replicate 720 false).map AV.bool))).length ∧ layAt (flat ((List.replicate 720 false).map AV.bool)) 0 (.agg (flat ((List.replicate 720 false).map AV.bool)) : AV).cells = (flat ((List.replicate 720 false).map AV.bool))] (mkS 38 [(0,.sl (tours_1.map A_band_tour) none),(1,i6 square_2),(4,.ptr 0 0),(5,.ptr 1 0)]) (⟨[(flat ((List.replicate 720 false).map AV.bool)),(flat ((List.replicate 720 false).map AV.bool))],[]⟩) (by kernel_rfl) ⟨stArrA (f:=AV.bool) (List.replicate 720 false) (List.replicate 720 false) (fun _ => rfl) (by decide) hu_3,trivial⟩ rfl ?_
 refine Ex.seq (Ex.seq ?_)
 refine regH 3 [(1,.eq (i6 ((tours_1.length : Nat) : Int)))] [1,4,5,11,12,13] [AV.int .i64 (((tours_1.map A_band_tour).length : Nat) : Int) = AV.int .i64 ((tours_1.length : Nat) : Int)] (mkS 38 [(1,i6 square_2),(4,.ptr 0 0),(5,.ptr 1 0),(11,.sl (tours_1.map A_band_tour) none),(12,i6 ((tours_1.length : Nat) : Int)),(13,i6 0)]) (⟨[(flat ((List.replicate 720 false).map AV.bool)),(flat ((List.replicate 720 false).map AV.bool))],[]⟩) (by kernel_rfl) ⟨lenM _ _,trivial⟩ rfl ?_
 obtain ⟨K_6,hK_7,h⟩:=letE h
 refine Ex.blockJ (fun a S => ∃ (w_4 : List Bool),K_6 w_4 = some r ∧ a = mkS 38 [(4,.ptr 0 0),(5,.ptr 1 0)] ∧ S = ⟨[(flat ((List.replicate 720 false).map AV.bool)),(flat (w_4.map AV.bool))],[]⟩) ?_ ?_
 ·obtain ⟨B_11,hB_12,h⟩:=loop2I h
  refine Ex.loopF (fun k a S => ∃ (y_8 : Int),∃ (w_9 : List Bool),loop2 B_11 k y_8 w_9 = some r ∧ a = mkS 38 [(1,i6 square_2),(4,.ptr 0 0),(5,.ptr 1 0),(11,.sl (tours_1.map A_band_tour) none),(12,i6 ((tours_1.length : Nat) : Int)),(13,i6 y_8)] ∧ S = ⟨[(flat ((List.replicate 720 false).map AV.bool)),(flat (w_9.map AV.bool))],[]⟩) N ⟨_,_,Forgets.refl _ _ _,0,(List.replicate 720 false),h,rfl,rfl⟩ ?_
  rintro k a S ⟨y_8,w_9,h,rfl,rfl⟩
  cases k with
  | zero => exact (loop2Z h).elim
  | succ k =>
   replace h:=loop2S h hB_12
   refine Ex.seq (rg 1 [1,4,5,11,12,13,14] (mkS 38 [(1,i6 square_2),(4,.ptr 0 0),(5,.ptr 1 0),(11,.sl (tours_1.map A_band_tour) none),(12,i6 ((tours_1.length : Nat) : Int)),(13,i6 y_8),(14,.bool (decide (y_8 < ((tours_1.length : Nat) : Int))))]) ⟨[(flat ((List.replicate 720 false).map AV.bool)),(flat (w_9.map AV.bool))],[]⟩ ?_)
   refine Ex.seq ?_
   rcases condI h with ⟨hc_13,h⟩ | ⟨hc_13,h⟩
   ·refine Ex.condT _ rfl hc_13 ?_
    refine Ex.skip ?_
    refine Ex.seq ?_
    refine Ex.blockK ?_
    refine Ex.seq ?_
    obtain ⟨x_14,hx_14,h⟩:=bE h
    refine regH 4 [(0,.rop (C_band_tour x_14))] [1,4,5,7,11,12,13] [LGet (tours_1.map A_band_tour) y_8 7 (C_band_tour x_14)] (mkS 38 [(1,i6 square_2),(4,.ptr 0 0),(5,.ptr 1 0),(7,.ptr 2 0),(11,.sl (tours_1.map A_band_tour) none),(12,i6 ((tours_1.length : Nat) : Int)),(13,i6 y_8)]) (⟨[(flat ((List.replicate 720 false).map AV.bool)),(flat (w_9.map AV.bool)),(C_band_tour x_14)],[]⟩) (by kernel_rfl) ⟨LGet.of hx_14 rfl,trivial⟩ rfl ?_
    refine Ex.seq ?_
    obtain ⟨r_15,hr_15,h⟩:=bE h
    refine Ex.reg (rn 4 [1,4,5,11,12,13,17,20] (mkS 38 [(1,i6 square_2),(4,.ptr 0 0),(5,.ptr 1 0),(11,.sl (tours_1.map A_band_tour) none),(12,i6 ((tours_1.length : Nat) : Int)),(13,i6 y_8),(17,(A_band_tour x_14)),(20,(A_Span x_14.Band.Start))]) ⟨[(flat ((List.replicate 720 false).map AV.bool)),(flat (w_9.map AV.bool)),(C_band_tour x_14)],[]⟩ ?_)
    refine ExO.callL [] [(A_band_tour x_14),(A_Span x_14.Band.Start)] rfl rfl (a_band_tour_visits x_14 x_14.Band.Start) rfl rfl (d_band_tour_visits N x_14 x_14.Band.Start r_15 hr_15) (b_band_tour_visits _ _ _ _) rfl ?_
    refine runH 2 [(0,.eq (i6 ((r_15.length : Nat) : Int)))] [1,4,5,11,12,13,21,22,23] [AV.int .i64 (((r_15.map A_band_visit).length : Nat) : Int) = AV.int .i64 ((r_15.length : Nat) : Int)] (mkS 38 [(1,i6 square_2),(4,.ptr 0 0),(5,.ptr 1 0),(11,.sl (tours_1.map A_band_tour) none),(12,i6 ((tours_1.length : Nat) : Int)),(13,i6 y_8),(21,.sl (r_15.map A_band_visit) none),(22,i6 ((r_15.length : Nat) : Int)),(23,i6 0)]) (⟨[(flat ((List.replicate 720 false).map AV.bool)),(flat (w_9.map AV.bool)),(C_band_tour x_14)],[]⟩) (by kernel_rfl) ⟨lenM _ _,trivial⟩ ?_
    refine ExO.nil ?_
    obtain ⟨K_18,hK_19,h⟩:=letE h
    refine Ex.blockJ (fun a S => ∃ (w_16 : List Bool),K_18 w_16 = some r ∧ a = mkS 38 [(1,i6 square_2),(4,.ptr 0 0),(5,.ptr 1 0),(11,.sl (tours_1.map A_band_tour) none),(12,i6 ((tours_1.length : Nat) : Int)),(13,i6 y_8)] ∧ S = ⟨[(flat ((List.replicate 720 false).map AV.bool)),(flat (w_16.map AV.bool))],[]⟩) ?_ ?_
    ·obtain ⟨B_23,hB_24,h⟩:=loop2I h
     refine Ex.loopF (fun k a S => ∃ (y_20 : Int),∃ (w_21 : List Bool),loop2 B_23 k y_20 w_21 = some r ∧ a = mkS 38 [(1,i6 square_2),(4,.ptr 0 0),(5,.ptr 1 0),(11,.sl (tours_1.map A_band_tour) none),(12,i6 ((tours_1.length : Nat) : Int)),(13,i6 y_8),(21,.sl (r_15.map A_band_visit) none),(22,i6 ((r_15.length : Nat) : Int)),(23,i6 y_20)] ∧ S = ⟨[(flat ((List.replicate 720 false).map AV.bool)),(flat (w_21.map AV.bool))],[]⟩) N ⟨_,_,forgetA (m:=38) 2 [] [(1,i6 square_2),(4,.ptr 0 0),(5,.ptr 1 0),(11,.sl (tours_1.map A_band_tour) none),(12,i6 ((tours_1.length : Nat) : Int)),(13,i6 y_8),(21,.sl (r_15.map A_band_visit) none),(22,i6 ((r_15.length : Nat) : Int)),(23,i6 0)] [(flat ((List.replicate 720 false).map AV.bool)),(flat (w_9.map AV.bool))] [] (by simp [setAll]) (by simp) ⟨rfl,rfl,rfl,(reN (KL_band_tour _)),rfl,rfl,(reN (KL_band_visit _)),rfl,rfl,trivial⟩ (mapMC (flat_re (f:=AV.bool) (fun _ => rfl) _ _ _) (mapMC (flat_re (f:=AV.bool) (fun _ => rfl) _ _ _) rfl)) rfl (by decide),0,w_9,h,rfl,rfl⟩ ?_
     rintro k a S ⟨y_20,w_21,h,rfl,rfl⟩
     cases k with
     | zero => exact (loop2Z h).elim
     | succ k =>
      replace h:=loop2S h hB_24
      refine Ex.seq (rg 1 [1,4,5,11,12,13,21,22,23,24] (mkS 38 [(1,i6 square_2),(4,.ptr 0 0),(5,.ptr 1 0),(11,.sl (tours_1.map A_band_tour) none),(12,i6 ((tours_1.length : Nat) : Int)),(13,i6 y_8),(21,.sl (r_15.map A_band_visit) none),(22,i6 ((r_15.length : Nat) : Int)),(23,i6 y_20),(24,.bool (decide (y_20 < ((r_15.length : Nat) : Int))))]) ⟨[(flat ((List.replicate 720 false).map AV.bool)),(flat (w_21.map AV.bool))],[]⟩ ?_)
      refine Ex.seq ?_
      rcases condI h with ⟨hc_25,h⟩ | ⟨hc_25,h⟩
      ·refine Ex.condT _ rfl hc_25 ?_
       refine Ex.skip ?_
       refine Ex.seq ?_
       obtain ⟨K_28,hK_29,h⟩:=letE h
       refine Ex.blockJ (fun a S => ∃ (w_26 : List Bool),K_28 w_26 = some r ∧ a = mkS 38 [(1,i6 square_2),(4,.ptr 0 0),(5,.ptr 1 0),(11,.sl (tours_1.map A_band_tour) none),(12,i6 ((tours_1.length : Nat) : Int)),(13,i6 y_8),(21,.sl (r_15.map A_band_visit) none),(22,i6 ((r_15.length : Nat) : Int)),(23,i6 y_20)] ∧ S = ⟨[(flat ((List.replicate 720 false).map AV.bool)),(flat (w_26.map AV.bool))],[]⟩) ?_ ?_
       ·refine Ex.seq ?_
        obtain ⟨x_30,hx_30,h⟩:=bE h
        refine regH 4 [(0,.rop (C_band_visit x_30))] [1,4,5,9,11,12,13,21,22,23] [LGet (r_15.map A_band_visit) y_20 4 (C_band_visit x_30)] (mkS 38 [(1,i6 square_2),(4,.ptr 0 0),(5,.ptr 1 0),(9,.ptr 2 0),(11,.sl (tours_1.map A_band_tour) none),(12,i6 ((tours_1.length : Nat) : Int)),(13,i6 y_8),(21,.sl (r_15.map A_band_visit) none),(22,i6 ((r_15.length : Nat) : Int)),(23,i6 y_20)]) (⟨[(flat ((List.replicate 720 false).map AV.bool)),(flat (w_21.map AV.bool)),(C_band_visit x_30)],[]⟩) (by kernel_rfl) ⟨LGet.of hx_30 rfl,trivial⟩ rfl ?_
        refine Ex.seq (rg 4 [1,4,5,9,11,12,13,21,22,23,30] (mkS 38 [(1,i6 square_2),(4,.ptr 0 0),(5,.ptr 1 0),(9,.ptr 2 0),(11,.sl (tours_1.map A_band_tour) none),(12,i6 ((tours_1.length : Nat) : Int)),(13,i6 y_8),(21,.sl (r_15.map A_band_visit) none),(22,i6 ((r_15.length : Nat) : Int)),(23,i6 y_20),(30,.bool (x_30.square_ == square_2))]) ⟨[(flat ((List.replicate 720 false).map AV.bool)),(flat (w_21.map AV.bool)),(C_band_visit x_30)],[]⟩ ?_)
        rcases condI h with ⟨hc_31,h⟩ | ⟨hc_31,h⟩
        ·refine Ex.condT _ rfl hc_31 ?_
         obtain ⟨u_32,hu_32,h⟩:=bE h
         obtain ⟨r_33,hr_33,h⟩:=bE h
         refine Ex.reg ?_
         refine runH 3 [(0,.ld (.agg (flat (w_21.map AV.bool))))] [1,4,5,11,12,13,21,22,23,31,33] [takeCells (flat (w_21.map AV.bool)) 0 (some 720) = some (.agg (flat (w_21.map AV.bool)))] (mkS 38 [(1,i6 square_2),(4,.ptr 0 0),(5,.ptr 1 0),(11,.sl (tours_1.map A_band_tour) none),(12,i6 ((tours_1.length : Nat) : Int)),(13,i6 y_8),(21,.sl (r_15.map A_band_visit) none),(22,i6 ((r_15.length : Nat) : Int)),(23,i6 y_20),(31,.agg (flat (w_21.map AV.bool))),(33,(A_Span x_30.Span))]) (⟨[(flat ((List.replicate 720 false).map AV.bool)),(flat (w_21.map AV.bool)),(C_band_visit x_30)],[]⟩) (by kernel_rfl) ⟨ldArrA (f:=AV.bool) w_21 (fun _ => rfl) hu_32,trivial⟩ ?_
         refine ExO.callL [] [.agg (flat (w_21.map AV.bool)),(A_Span x_30.Span)] rfl rfl (by simp; try rfl) rfl rfl (d_band_night_with N w_21 x_30.Span r_33 hr_33) (b_band_night_with _ _ _ _) rfl ?_
         obtain ⟨u_34,hu_34,h⟩:=bE h
         refine runH 1 [(0,.stw (flat (r_33.map AV.bool)))] [1,4,5,11,12,13,21,22,23] [(.agg (flat (r_33.map AV.bool)) : AV).okCells = true ∧ (.agg (flat (r_33.map AV.bool)) : AV).cells.length = 720 ∧ 0 < 720 ∧ 0 + 720 ≤ ((flat (w_21.map AV.bool))).length ∧ layAt (flat (w_21.map AV.bool)) 0 (.agg (flat (r_33.map AV.bool)) : AV).cells = (flat (r_33.map AV.bool))] (mkS 38 [(1,i6 square_2),(4,.ptr 0 0),(5,.ptr 1 0),(11,.sl (tours_1.map A_band_tour) none),(12,i6 ((tours_1.length : Nat) : Int)),(13,i6 y_8),(21,.sl (r_15.map A_band_visit) none),(22,i6 ((r_15.length : Nat) : Int)),(23,i6 y_20)]) (⟨[(flat ((List.replicate 720 false).map AV.bool)),(flat (r_33.map AV.bool)),(C_band_visit x_30)],[]⟩) (by kernel_rfl) ⟨stArrA (f:=AV.bool) w_21 r_33 (fun _ => rfl) (by decide) hu_34,trivial⟩ ?_
         refine ExO.nil ?_
         (try simp only [reduceCtorEq,AEx.ex.injEq,Nat.reduceEqDiff,if_true,if_false])
         exact ⟨_,_,forgetA (m:=38) 2 [] [(1,i6 square_2),(4,.ptr 0 0),(5,.ptr 1 0),(11,.sl (tours_1.map A_band_tour) none),(12,i6 ((tours_1.length : Nat) : Int)),(13,i6 y_8),(21,.sl (r_15.map A_band_visit) none),(22,i6 ((r_15.length : Nat) : Int)),(23,i6 y_20)] [(flat ((List.replicate 720 false).map AV.bool)),(flat (r_33.map AV.bool))] [] (by simp [setAll]) (by simp) ⟨rfl,rfl,rfl,(reN (KL_band_tour _)),rfl,rfl,(reN (KL_band_visit _)),rfl,rfl,trivial⟩ (mapMC (flat_re (f:=AV.bool) (fun _ => rfl) _ _ _) (mapMC (flat_re (f:=AV.bool) (fun _ => rfl) _ _ _) rfl)) rfl (by decide),r_33,h,rfl,rfl⟩
        ·refine Ex.condF _ rfl hc_31 ?_
         refine Ex.skip ?_
         (try simp only [reduceCtorEq,AEx.ex.injEq,Nat.reduceEqDiff,if_true,if_false])
         exact ⟨_,_,forgetA (m:=38) 2 [] [(1,i6 square_2),(4,.ptr 0 0),(5,.ptr 1 0),(11,.sl (tours_1.map A_band_tour) none),(12,i6 ((tours_1.length : Nat) : Int)),(13,i6 y_8),(21,.sl (r_15.map A_band_visit) none),(22,i6 ((r_15.length : Nat) : Int)),(23,i6 y_20)] [(flat ((List.replicate 720 false).map AV.bool)),(flat (w_21.map AV.bool))] [] (by simp [setAll]) (by simp) ⟨rfl,rfl,rfl,(reN (KL_band_tour _)),rfl,rfl,(reN (KL_band_visit _)),rfl,rfl,trivial⟩ (mapMC (flat_re (f:=AV.bool) (fun _ => rfl) _ _ _) (mapMC (flat_re (f:=AV.bool) (fun _ => rfl) _ _ _) rfl)) rfl (by decide),w_21,h,rfl,rfl⟩
       ·rintro a S ⟨w_26,h,rfl,rfl⟩
        subst hK_29
        refine rg 2 [1,4,5,11,12,13,21,22,23] (mkS 38 [(1,i6 square_2),(4,.ptr 0 0),(5,.ptr 1 0),(11,.sl (tours_1.map A_band_tour) none),(12,i6 ((tours_1.length : Nat) : Int)),(13,i6 y_8),(21,.sl (r_15.map A_band_visit) none),(22,i6 ((r_15.length : Nat) : Int)),(23,i6 (IntKind.i64.wrap (y_20 + 1)))]) ⟨[(flat ((List.replicate 720 false).map AV.bool)),(flat (w_26.map AV.bool))],[]⟩ ?_
        dsimp only
        exact ⟨_,_,Forgets.refl _ _ _,k,Nat.lt_succ_self k,(IntKind.i64.wrap (y_20 + 1)),w_26,h,rfl,rfl⟩
      ·refine Ex.condF _ rfl hc_25 ?_
       refine Ex.exit ?_
       (try simp only [reduceCtorEq,AEx.ex.injEq,Nat.reduceEqDiff,if_true,if_false])
       exact ⟨_,_,forgetK [1,4,5,11,12,13],w_21,h,rfl,rfl⟩
    ·rintro a S ⟨w_16,h,rfl,rfl⟩
     subst hK_19
     refine rg 2 [1,4,5,11,12,13] (mkS 38 [(1,i6 square_2),(4,.ptr 0 0),(5,.ptr 1 0),(11,.sl (tours_1.map A_band_tour) none),(12,i6 ((tours_1.length : Nat) : Int)),(13,i6 (IntKind.i64.wrap (y_8 + 1)))]) ⟨[(flat ((List.replicate 720 false).map AV.bool)),(flat (w_16.map AV.bool))],[]⟩ ?_
     dsimp only
     exact ⟨_,_,Forgets.refl _ _ _,k,Nat.lt_succ_self k,(IntKind.i64.wrap (y_8 + 1)),w_16,h,rfl,rfl⟩
   ·refine Ex.condF _ rfl hc_13 ?_
    refine Ex.exit ?_
    (try simp only [reduceCtorEq,AEx.ex.injEq,Nat.reduceEqDiff,if_true,if_false])
    exact ⟨_,_,forgetK [4,5],w_9,h,rfl,rfl⟩
 ·rintro a S ⟨w_4,h,rfl,rfl⟩
  subst hK_7
  refine Ex.seq ?_
  obtain ⟨u_35,hu_35,h⟩:=bE h
  obtain ⟨u_36,hu_36,h⟩:=bE h
  refine regH 2 [(0,.ld (.agg (flat (w_4.map AV.bool)))),(1,.stw (flat (w_4.map AV.bool)))] [4] [takeCells (flat (w_4.map AV.bool)) 0 (some 720) = some (.agg (flat (w_4.map AV.bool))),(.agg (flat (w_4.map AV.bool)) : AV).okCells = true ∧ (.agg (flat (w_4.map AV.bool)) : AV).cells.length = 720 ∧ 0 < 720 ∧ 0 + 720 ≤ ((flat ((List.replicate 720 false).map AV.bool))).length ∧ layAt (flat ((List.replicate 720 false).map AV.bool)) 0 (.agg (flat (w_4.map AV.bool)) : AV).cells = (flat (w_4.map AV.bool))] (mkS 38 [(4,.ptr 0 0)]) (⟨[(flat (w_4.map AV.bool)),(flat (w_4.map AV.bool))],[]⟩) (by kernel_rfl) ⟨ldArrA (f:=AV.bool) w_4 (fun _ => rfl) hu_35,stArrA (f:=AV.bool) (List.replicate 720 false) w_4 (fun _ => rfl) (by decide) hu_36,trivial⟩ rfl ?_
  refine Ex.ret ?_
  obtain ⟨u_37,hu_37,h⟩:=bE h
  obtain rfl:=sJ h
  exact ⟨.inr rfl,.agg (flat (w_4.map AV.bool)),evResArr (f:=AV.bool) rfl rfl (fun _ => rfl) hu_37,rfl,fadeArr (f:=AV.bool) (fun _ => rfl) _,by kernel_rfl⟩
def p_band_night_sleep (N : Nat) (n_1 : (List Bool)) : Option (Int × Int):=((lenI n_1 720).bind fun u_2 => (letJ (fun (from_3 : Int) (many_4 : Int) => some (from_3,many_4)) (fun k_5 => (loop4 (fun rec_12 (from_8 : Int) (many_9 : Int) (run_10 : Int) (y_11 : Int) => (bif (decide (y_11 < 720)) then (letJ (fun (from_16 : Int) (many_17 : Int) (run_18 : Int) => (rec_12 from_16 many_17 run_18 (IntKind.i64.wrap (y_11 + 1)))) (fun k_19 => ((getA n_1 y_11 720).bind fun x_22 => (letJ (fun (run_23 : Int) => (bif (decide (run_23 > many_9)) then (k_19 (IntKind.i64.wrap ((IntKind.i64.wrap (y_11 - run_23)) + 1)) run_23 run_23) else (k_19 from_8 many_9 run_23))) (fun k_24 => (bif x_22 then (k_24 0) else (k_24 (IntKind.i64.wrap (run_10 + 1))))))))) else (k_5 from_8 many_9))) N 0 0 0 0))))
def v_band_night_sleep (r : Int × Int) : AV:=.tup [i6 r.1,i6 r.2]
attribute [local simp] v_band_night_sleep
theorem b_band_night_sleep (r : Int × Int) (n n2 m : Nat) : back n n2 m (v_band_night_sleep r) = some (v_band_night_sleep r):=by simp
theorem d_band_night_sleep (N : Nat) (n_1 : (List Bool)) (r : Int × Int) (h : p_band_night_sleep N n_1 = some r) : Does Tryd.prog 75 [.agg (flat (n_1.map AV.bool))] [] fun v c => v = v_band_night_sleep r ∧ c = []:=by
 unfold p_band_night_sleep at h
 refine Does.ofL comp75 _ _ rfl rfl ?_
 refine Ex.seq (rg 3 [1,2,3] (mkS 26 [(1,.ptr 0 0),(2,i6 0),(3,i6 0)]) ⟨[(flat (n_1.map AV.bool))],[]⟩ ?_)
 refine Ex.seq (rg 1 [1,2,3,4] (mkS 26 [(1,.ptr 0 0),(2,i6 0),(3,i6 0),(4,i6 0)]) ⟨[(flat (n_1.map AV.bool))],[]⟩ ?_)
 refine Ex.seq (Ex.seq ?_)
 obtain ⟨u_2,hu_2,h⟩:=bE h
 refine regH 2 [(0,.ld (.agg (flat (n_1.map AV.bool))))] [2,3,4,7,8] [takeCells (flat (n_1.map AV.bool)) 0 (some 720) = some (.agg (flat (n_1.map AV.bool)))] (mkS 26 [(2,i6 0),(3,i6 0),(4,i6 0),(7,.agg (flat (n_1.map AV.bool))),(8,i6 0)]) (⟨[(flat (n_1.map AV.bool))],[]⟩) (by kernel_rfl) ⟨ldArrA (f:=AV.bool) n_1 (fun _ => rfl) hu_2,trivial⟩ rfl ?_
 obtain ⟨K_6,hK_7,h⟩:=letE h
 refine Ex.blockJ (fun a S => ∃ (from_3 : Int),∃ (many_4 : Int),K_6 from_3 many_4 = some r ∧ a = mkS 26 [(2,i6 from_3),(3,i6 many_4)] ∧ S = ⟨[],[]⟩) ?_ ?_
 ·obtain ⟨B_13,hB_14,h⟩:=loop4I h
  refine Ex.loopF (fun k a S => ∃ (from_8 : Int),∃ (many_9 : Int),∃ (run_10 : Int),∃ (y_11 : Int),loop4 B_13 k from_8 many_9 run_10 y_11 = some r ∧ a = mkS 26 [(2,i6 from_8),(3,i6 many_9),(4,i6 run_10),(7,.agg (flat (n_1.map AV.bool))),(8,i6 y_11)] ∧ S = ⟨[],[]⟩) N ⟨_,_,forgetA (m:=26) 0 [] [(2,i6 0),(3,i6 0),(4,i6 0),(7,.agg (flat (n_1.map AV.bool))),(8,i6 0)] [] [] (by simp [setAll]) (by simp) ⟨rfl,rfl,rfl,(reArr (f:=AV.bool) (fun _ => rfl) _),rfl,trivial⟩ (by simp) rfl (by decide),0,0,0,0,h,rfl,rfl⟩ ?_
  rintro k a S ⟨from_8,many_9,run_10,y_11,h,rfl,rfl⟩
  cases k with
  | zero => exact (loop4Z h).elim
  | succ k =>
   replace h:=loop4S h hB_14
   refine Ex.seq (rg 1 [2,3,4,7,8,9] (mkS 26 [(2,i6 from_8),(3,i6 many_9),(4,i6 run_10),(7,.agg (flat (n_1.map AV.bool))),(8,i6 y_11),(9,.bool (decide (y_11 < 720)))]) ⟨[],[]⟩ ?_)
   refine Ex.seq ?_
   rcases condI h with ⟨hc_15,h⟩ | ⟨hc_15,h⟩
   ·refine Ex.condT _ rfl hc_15 ?_
    refine Ex.skip ?_
    refine Ex.seq ?_
    obtain ⟨K_20,hK_21,h⟩:=letE h
    refine Ex.blockJ (fun a S => ∃ (from_16 : Int),∃ (many_17 : Int),∃ (run_18 : Int),K_20 from_16 many_17 run_18 = some r ∧ a = mkS 26 [(2,i6 from_16),(3,i6 many_17),(4,i6 run_18),(7,.agg (flat (n_1.map AV.bool))),(8,i6 y_11)] ∧ S = ⟨[],[]⟩) ?_ ?_
    ·refine Ex.seq ?_
     obtain ⟨x_22,hx_22,h⟩:=bE h
     refine regH 4 [(1,.ax (.bool x_22))] [2,3,4,5,6,7,8] [(0 ≤ y_11 ∧ y_11 < ((720 : Nat) : Int)) ∧ takeCells (flat (n_1.map AV.bool)) (Int.toNat y_11 * 1) none = some (.bool x_22)] (mkS 26 [(2,i6 from_8),(3,i6 many_9),(4,i6 run_10),(5,i6 y_11),(6,.bool x_22),(7,.agg (flat (n_1.map AV.bool))),(8,i6 y_11)]) (⟨[],[]⟩) (by kernel_rfl) ⟨axArrA (f:=AV.bool) n_1 (fun _ => rfl) hx_22,trivial⟩ rfl ?_
     refine Ex.seq (rg 3 [2,3,4,5,6,7,8] (mkS 26 [(2,i6 from_8),(3,i6 many_9),(4,i6 (IntKind.i64.wrap (run_10 + 1))),(5,i6 y_11),(6,.bool x_22),(7,.agg (flat (n_1.map AV.bool))),(8,i6 y_11)]) ⟨[],[]⟩ ?_)
     obtain ⟨K_25,hK_26,h⟩:=letE h
     refine Ex.seqJ (fun a S => ∃ (run_23 : Int),K_25 run_23 = some r ∧ a = mkS 26 [(2,i6 from_8),(3,i6 many_9),(4,i6 run_23),(5,i6 y_11),(7,.agg (flat (n_1.map AV.bool))),(8,i6 y_11)] ∧ S = ⟨[],[]⟩) ?_ ?_
     ·refine Ex.seq (rg 1 [2,3,4,5,7,8,14] (mkS 26 [(2,i6 from_8),(3,i6 many_9),(4,i6 (IntKind.i64.wrap (run_10 + 1))),(5,i6 y_11),(7,.agg (flat (n_1.map AV.bool))),(8,i6 y_11),(14,.bool x_22)]) ⟨[],[]⟩ ?_)
      rcases condI h with ⟨hc_27,h⟩ | ⟨hc_27,h⟩
      ·refine Ex.condT _ rfl hc_27 ?_
       refine rg 1 [2,3,4,5,7,8] (mkS 26 [(2,i6 from_8),(3,i6 many_9),(4,i6 0),(5,i6 y_11),(7,.agg (flat (n_1.map AV.bool))),(8,i6 y_11)]) ⟨[],[]⟩ ?_
       (try simp only [reduceCtorEq,AEx.ex.injEq,Nat.reduceEqDiff,if_true,if_false])
       exact ⟨_,_,Forgets.refl _ _ _,0,h,rfl,rfl⟩
      ·refine Ex.condF _ rfl hc_27 ?_
       refine Ex.skip ?_
       (try simp only [reduceCtorEq,AEx.ex.injEq,Nat.reduceEqDiff,if_true,if_false])
       exact ⟨_,_,forgetK [2,3,4,5,7,8],(IntKind.i64.wrap (run_10 + 1)),h,rfl,rfl⟩
     ·rintro a S ⟨run_23,h,rfl,rfl⟩
      subst hK_26
      refine Ex.seq (rg 3 [2,3,4,5,7,8,17] (mkS 26 [(2,i6 from_8),(3,i6 many_9),(4,i6 run_23),(5,i6 y_11),(7,.agg (flat (n_1.map AV.bool))),(8,i6 y_11),(17,.bool (decide (run_23 > many_9)))]) ⟨[],[]⟩ ?_)
      rcases condI h with ⟨hc_28,h⟩ | ⟨hc_28,h⟩
      ·refine Ex.condT _ rfl hc_28 ?_
       refine rg 7 [2,3,4,7,8] (mkS 26 [(2,i6 (IntKind.i64.wrap ((IntKind.i64.wrap (y_11 - run_23)) + 1))),(3,i6 run_23),(4,i6 run_23),(7,.agg (flat (n_1.map AV.bool))),(8,i6 y_11)]) ⟨[],[]⟩ ?_
       (try simp only [reduceCtorEq,AEx.ex.injEq,Nat.reduceEqDiff,if_true,if_false])
       exact ⟨_,_,Forgets.refl _ _ _,(IntKind.i64.wrap ((IntKind.i64.wrap (y_11 - run_23)) + 1)),run_23,run_23,h,rfl,rfl⟩
      ·refine Ex.condF _ rfl hc_28 ?_
       refine Ex.skip ?_
       (try simp only [reduceCtorEq,AEx.ex.injEq,Nat.reduceEqDiff,if_true,if_false])
       exact ⟨_,_,forgetK [2,3,4,7,8],from_8,many_9,run_23,h,rfl,rfl⟩
    ·rintro a S ⟨from_16,many_17,run_18,h,rfl,rfl⟩
     subst hK_21
     refine rg 2 [2,3,4,7,8] (mkS 26 [(2,i6 from_16),(3,i6 many_17),(4,i6 run_18),(7,.agg (flat (n_1.map AV.bool))),(8,i6 (IntKind.i64.wrap (y_11 + 1)))]) ⟨[],[]⟩ ?_
     dsimp only
     exact ⟨_,_,Forgets.refl _ _ _,k,Nat.lt_succ_self k,from_16,many_17,run_18,(IntKind.i64.wrap (y_11 + 1)),h,rfl,rfl⟩
   ·refine Ex.condF _ rfl hc_15 ?_
    refine Ex.exit ?_
    (try simp only [reduceCtorEq,AEx.ex.injEq,Nat.reduceEqDiff,if_true,if_false])
    exact ⟨_,_,forgetK [2,3],from_8,many_9,h,rfl,rfl⟩
 ·rintro a S ⟨from_3,many_4,h,rfl,rfl⟩
  subst hK_7
  refine Ex.seq (rg 4 [2,3] (mkS 26 [(2,i6 from_3),(3,i6 many_4)]) ⟨[],[]⟩ ?_)
  refine Ex.ret ?_
  obtain rfl:=sJ h
  exact rt (.tup [i6 from_3,i6 many_4])
def p_band_Sleep (N : Nat) (c_1 : T_City) (l_2 : (List T_Band)) (square_3 : Int) : Option (Int × Int × Int):=((p_band_toursOf N c_1 l_2).bind fun r_4 => (bif (r_4.2 != 0) then some (0,0,r_4.2) else ((p_band_within N square_3 0 (IntKind.i64.wrap (((c_1.Town.Rooms.length : Nat) : Int) - 1))).bind fun r_6 => (bif (!r_6) then some (0,0,7) else ((p_band_nightOf N r_4.1 square_3).bind fun r_8 => ((p_band_night_sleep N r_8).bind fun r_9 => some (r_9.1,r_9.2,0)))))))
def v_band_Sleep (r : Int × Int × Int) : AV:=.tup [i6 r.1,i6 r.2.1,i6 r.2.2]
attribute [local simp] v_band_Sleep
theorem a_band_Sleep (c_1 : T_City) (l_2 : (List T_Band)) (square_3 : Int) : [(A_City c_1),.sl (l_2.map A_Band) none,i6 square_3].mapM (ren []) = some [(A_City c_1),.sl (l_2.map A_Band) none,i6 square_3]:=by simp
theorem b_band_Sleep (r : Int × Int × Int) (n n2 m : Nat) : back n n2 m (v_band_Sleep r) = some (v_band_Sleep r):=by simp
theorem d_band_Sleep (N : Nat) (c_1 : T_City) (l_2 : (List T_Band)) (square_3 : Int) (r : Int × Int × Int) (h : p_band_Sleep N c_1 l_2 square_3 = some r) : Does Tryd.prog 34 [(A_City c_1),.sl (l_2.map A_Band) none,i6 square_3] [] fun v c => v = v_band_Sleep r ∧ c = []:=by
 unfold p_band_Sleep at h
 refine Does.ofL comp34 _ _ rfl rfl ?_
 refine Ex.seq (rg 4 [1,2,3] (mkS 38 [(1,.sl (l_2.map A_Band) none),(2,i6 square_3),(3,.ptr 0 0)]) ⟨[(C_City c_1)],[]⟩ ?_)
 refine Ex.seq ?_
 obtain ⟨r_4,hr_4,h⟩:=bE h
 refine Ex.reg (rn 2 [2,3,11,12] (mkS 38 [(2,i6 square_3),(3,.ptr 0 0),(11,(A_City c_1)),(12,.sl (l_2.map A_Band) none)]) ⟨[(C_City c_1)],[]⟩ ?_)
 refine ExO.callL [] [(A_City c_1),.sl (l_2.map A_Band) none] rfl rfl (a_band_toursOf c_1 l_2) rfl rfl (d_band_toursOf N c_1 l_2 r_4 hr_4) (b_band_toursOf _ _ _ _) rfl ?_
 refine rn 5 [2,3,8,9] (mkS 38 [(2,i6 square_3),(3,.ptr 0 0),(8,i6 r_4.2),(9,.sl (r_4.1.map A_band_tour) none)]) ⟨[(C_City c_1)],[]⟩ ?_
 refine ExO.nil ?_
 refine Ex.seq ?_
 refine Ex.blockK ?_
 refine Ex.seq (rg 3 [2,3,8,9,16] (mkS 38 [(2,i6 square_3),(3,.ptr 0 0),(8,i6 r_4.2),(9,.sl (r_4.1.map A_band_tour) none),(16,.bool (r_4.2 != 0))]) ⟨[(C_City c_1)],[]⟩ ?_)
 rcases condI h with ⟨hc_5,h⟩ | ⟨hc_5,h⟩
 ·refine Ex.condT _ rfl hc_5 ?_
  refine Ex.seq (rg 4 [6,7,8] (mkS 38 [(6,i6 0),(7,i6 0),(8,i6 r_4.2)]) ⟨[(C_City c_1)],[]⟩ ?_)
  refine Ex.ret ?_
  obtain rfl:=sJ h
  exact rt (.tup [i6 0,i6 0,i6 r_4.2])
 ·refine Ex.condF _ rfl hc_5 ?_
  refine Ex.seq ?_
  obtain ⟨r_6,hr_6,h⟩:=bE h
  refine Ex.reg ?_
  refine runH 6 [(4,.eq (i6 ((c_1.Town.Rooms.length : Nat) : Int)))] [2,9,21,26] [AV.int .i64 (((c_1.Town.Rooms.map (AV.int .i64)).length : Nat) : Int) = AV.int .i64 ((c_1.Town.Rooms.length : Nat) : Int)] (mkS 38 [(2,i6 square_3),(9,.sl (r_4.1.map A_band_tour) none),(21,i6 square_3),(26,i6 (IntKind.i64.wrap (((c_1.Town.Rooms.length : Nat) : Int) - 1)))]) (⟨[(C_City c_1)],[]⟩) (by kernel_rfl) ⟨lenM _ _,trivial⟩ ?_
  refine ExO.callL [] [i6 square_3,i6 0,i6 (IntKind.i64.wrap (((c_1.Town.Rooms.length : Nat) : Int) - 1))] rfl rfl (a_band_within square_3 0 (IntKind.i64.wrap (((c_1.Town.Rooms.length : Nat) : Int) - 1))) rfl rfl (d_band_within N square_3 0 (IntKind.i64.wrap (((c_1.Town.Rooms.length : Nat) : Int) - 1)) r_6 hr_6) (b_band_within _ _ _ _) rfl ?_
  refine rn 2 [2,9,20] (mkS 38 [(2,i6 square_3),(9,.sl (r_4.1.map A_band_tour) none),(20,.bool (!r_6))]) ⟨[(C_City c_1)],[]⟩ ?_
  refine ExO.nil ?_
  rcases condI h with ⟨hc_7,h⟩ | ⟨hc_7,h⟩
  ·refine Ex.condT _ rfl hc_7 ?_
   refine Ex.seq (rg 3 [6,7,8] (mkS 38 [(6,i6 0),(7,i6 0),(8,i6 7)]) ⟨[(C_City c_1)],[]⟩ ?_)
   refine Ex.ret ?_
   obtain rfl:=sJ h
   exact rt (.tup [i6 0,i6 0,i6 7])
  ·refine Ex.condF _ rfl hc_7 ?_
   refine Ex.skip ?_
   refine Ex.seq ?_
   obtain ⟨r_8,hr_8,h⟩:=bE h
   refine Ex.reg (rn 2 [30,31] (mkS 38 [(30,.sl (r_4.1.map A_band_tour) none),(31,i6 square_3)]) ⟨[(C_City c_1)],[]⟩ ?_)
   refine ExO.callL [] [.sl (r_4.1.map A_band_tour) none,i6 square_3] rfl rfl (a_band_nightOf r_4.1 square_3) rfl rfl (d_band_nightOf N r_4.1 square_3 r_8 hr_8) (b_band_nightOf _ _ _ _) rfl ?_
   obtain ⟨r_9,hr_9,h⟩:=bE h
   refine ExO.callL [] [.agg (flat (r_8.map AV.bool))] rfl rfl (by simp; try rfl) rfl rfl (d_band_night_sleep N r_8 r_9 hr_9) (b_band_night_sleep _ _ _ _) rfl ?_
   refine rn 5 [6,7] (mkS 38 [(6,i6 r_9.1),(7,i6 r_9.2)]) ⟨[(C_City c_1)],[]⟩ ?_
   refine ExO.nil ?_
   refine Ex.seq (rg 5 [6,7,8] (mkS 38 [(6,i6 r_9.1),(7,i6 r_9.2),(8,i6 0)]) ⟨[(C_City c_1)],[]⟩ ?_)
   refine Ex.ret ?_
   obtain rfl:=sJ h
   exact rt (.tup [i6 r_9.1,i6 r_9.2,i6 0])
def p_band_choice_with (N : Nat) (x_1 : Int) (band_2 : Int) : Option (Int):=((nnI band_2).bind fun u_3 => ((some (IntKind.u64.wrap (((BitVec.ofInt (IntKind.bits .u64) x_1 ||| BitVec.ofInt (IntKind.bits .u64) (IntKind.u64.wrap (1 * ((2 : Int) ^ (min (Int.toNat band_2) (IntKind.bits .u64)))))).toNat : Nat) : Int))).bind fun n_4 => some n_4))
def v_band_choice_with (r : Int) : AV:=.int .u64 r
attribute [local simp] v_band_choice_with
theorem a_band_choice_with (x_1 : Int) (band_2 : Int) : [.int .u64 x_1,i6 band_2].mapM (ren []) = some [.int .u64 x_1,i6 band_2]:=by simp
theorem b_band_choice_with (r : Int) (n n2 m : Nat) : back n n2 m (v_band_choice_with r) = some (v_band_choice_with r):=by simp
theorem d_band_choice_with (N : Nat) (x_1 : Int) (band_2 : Int) (r : Int) (h : p_band_choice_with N x_1 band_2 = some r) : Does Tryd.prog 79 [.int .u64 x_1,i6 band_2] [] fun v c => v = v_band_choice_with r ∧ c = []:=by
 unfold p_band_choice_with at h
 refine Does.ofL comp79 _ _ rfl rfl ?_
 refine Ex.seq (rg 1 [0,1] (mkS 9 [(0,.int .u64 x_1),(1,i6 band_2)]) ⟨[],[]⟩ ?_)
 refine Ex.seq ?_
 obtain ⟨u_3,hu_3,h⟩:=bE h
 obtain ⟨n_4,hn_4,h⟩:=bE h
 refine regH 5 [(2,.bin (.int .u64 (IntKind.u64.wrap (1 * ((2 : Int) ^ (min (Int.toNat band_2) (IntKind.bits .u64))))))),(3,.eq (.int .u64 n_4))] [4] [binA .shl (.int .u64 1) (i6 band_2) = some (.int .u64 (IntKind.u64.wrap (1 * ((2 : Int) ^ (min (Int.toNat band_2) (IntKind.bits .u64)))))),AV.int .u64 (IntKind.u64.wrap (((BitVec.ofInt (IntKind.bits .u64) x_1 ||| BitVec.ofInt (IntKind.bits .u64) (IntKind.u64.wrap (1 * ((2 : Int) ^ (min (Int.toNat band_2) (IntKind.bits .u64)))))).toNat : Nat) : Int)) = AV.int .u64 n_4] (mkS 9 [(4,.int .u64 n_4)]) (⟨[],[]⟩) (by kernel_rfl) ⟨binSl hu_3,congrArg (AV.int .u64) (Option.some.inj hn_4),trivial⟩ rfl ?_
 refine Ex.ret ?_
 obtain rfl:=sJ h
 exact rt (.int .u64 n_4)
structure T_band_requests where
 city_ : T_City
 tours_ : (List T_band_tour)
 crosses_ : (List Int)
 deriving Inhabited
def C_band_requests (x : T_band_requests) : List AV:=[.sl (x.city_.Town.Rooms.map (AV.int .i64)) none,.sl (x.city_.Town.Streets.map A_Street) none,.sl (x.city_.Town.Groups.map A_Group) none,i6 x.city_.Town.Steps,i6 x.city_.Break,.sl (x.city_.Sleep.map (AV.int .i64)) none,.sl (x.tours_.map A_band_tour) none,.sl (x.crosses_.map (AV.int .u64)) none]
attribute [local simp] C_band_requests
def A_band_requests (x : T_band_requests) : AV:=.agg (C_band_requests x)
attribute [local simp] A_band_requests
theorem KC_band_requests (x : T_band_requests) : cleanL (C_band_requests x) = true:=by simp
theorem KA_band_requests (x : T_band_requests) : (A_band_requests x).clean = true:=KC_band_requests x
theorem KL_band_requests (l : List T_band_requests) : cleanL (l.map A_band_requests) = true:=cleanM KA_band_requests l
attribute [local simp] KL_band_requests
theorem KB_band_requests (x : T_band_requests) (n : Nat) (σ : List Nat) : (C_band_requests x).mapM (re n σ) = some (C_band_requests x):=by simp
attribute [local simp] KB_band_requests
def p_band_requestsOf (N : Nat) (c_1 : T_City) (tours_2 : (List T_band_tour)) : Option (T_band_requests):=((mkI ((tours_2.length : Nat) : Int)).bind fun k_3 => (letJ (fun (w_4 : List Int) => ((lenI w_4 k_3).bind fun u_39 => some (⟨c_1,tours_2,w_4⟩ : T_band_requests))) (fun k_5 => (loop2 (fun rec_10 (y_8 : Int) (w_9 : List Int) => (bif (decide (y_8 < ((tours_2.length : Nat) : Int))) then ((getI tours_2 y_8).bind fun x_14 => ((partI tours_2 0 y_8).bind fun l_15 => (letJ (fun (w_16 : List Int) => (rec_10 (IntKind.i64.wrap (y_8 + 1)) w_16)) (fun k_17 => (loop2 (fun rec_22 (y_20 : Int) (w_21 : List Int) => (bif (decide (y_20 < ((l_15.length : Nat) : Int))) then (letJ (fun (w_26 : List Int) => (rec_22 (IntKind.i64.wrap (y_20 + 1)) w_26)) (fun k_27 => ((getI l_15 y_20).bind fun x_30 => ((p_band_verdict N x_14 x_30 c_1.Break).bind fun r_31 => (bif (r_31 != 2) then ((idxI y_8 k_3).bind fun u_33 => ((w_21[Int.toNat y_8]?).bind fun x_34 => ((p_band_choice_with N x_34 y_20).bind fun r_35 => ((idxI y_8 k_3).bind fun u_36 => ((setI w_21 y_8 (fun (y_37 : Int) => r_35)).bind fun z_38 => (k_27 z_38)))))) else (k_27 w_21)))))) else (k_17 w_21))) N 0 w_9))))) else (k_5 w_9))) N 0 (List.replicate k_3 0)))))
def v_band_requestsOf (r : T_band_requests) : AV:=(A_band_requests r)
attribute [local simp] v_band_requestsOf
theorem a_band_requestsOf (c_1 : T_City) (tours_2 : (List T_band_tour)) : [(A_City c_1),.sl (tours_2.map A_band_tour) none].mapM (ren []) = some [(A_City c_1),.sl (tours_2.map A_band_tour) none]:=by simp
theorem b_band_requestsOf (r : T_band_requests) (n n2 m : Nat) : back n n2 m (v_band_requestsOf r) = some (v_band_requestsOf r):=by simp
theorem d_band_requestsOf (N : Nat) (c_1 : T_City) (tours_2 : (List T_band_tour)) (r : T_band_requests) (h : p_band_requestsOf N c_1 tours_2 = some r) : Does Tryd.prog 77 [(A_City c_1),.sl (tours_2.map A_band_tour) none] [] fun v c => v = v_band_requestsOf r ∧ c = []:=by
 unfold p_band_requestsOf at h
 refine Does.ofL comp77 _ _ rfl rfl ?_
 refine Ex.seq (rg 2 [1,2,4] (mkS 50 [(1,.sl (tours_2.map A_band_tour) none),(2,.ptr 0 0),(4,.ptr 1 0)]) ⟨[(C_City c_1),[.nils,.nils,.nils,i6 0,i6 0,.nils,.nils,.nils]],[]⟩ ?_)
 refine Ex.seq ?_
 obtain ⟨k_3,hk_3,h⟩:=bE h
 refine regH 4 [(1,.eq (i6 ((tours_2.length : Nat) : Int))),(2,.mk (flat ((List.replicate k_3 0).map (AV.int .u64))) k_3)] [1,2,4,5] [AV.int .i64 (((tours_2.map A_band_tour).length : Nat) : Int) = AV.int .i64 ((tours_2.length : Nat) : Int),((tours_2.length : Nat) : Int) = ((k_3 : Nat) : Int) ∧ k_3 ≤ 65536 ∧ rep [.int .u64 0] k_3 = (flat ((List.replicate k_3 0).map (AV.int .u64)))] (mkS 50 [(1,.sl (tours_2.map A_band_tour) none),(2,.ptr 0 0),(4,.ptr 1 0),(5,.ms 2 k_3 1)]) (⟨[(C_City c_1),[.nils,.nils,.nils,i6 0,i6 0,.nils,.nils,.nils],(flat ((List.replicate k_3 0).map (AV.int .u64)))],[]⟩) (by kernel_rfl) ⟨lenM _ _,mk_of (f:=(AV.int .u64)) 0 rfl hk_3,trivial⟩ rfl ?_
 refine Ex.seq (Ex.seq ?_)
 refine regH 3 [(1,.eq (i6 ((tours_2.length : Nat) : Int)))] [1,2,4,5,13,14,15] [AV.int .i64 (((tours_2.map A_band_tour).length : Nat) : Int) = AV.int .i64 ((tours_2.length : Nat) : Int)] (mkS 50 [(1,.sl (tours_2.map A_band_tour) none),(2,.ptr 0 0),(4,.ptr 1 0),(5,.ms 2 k_3 1),(13,.sl (tours_2.map A_band_tour) none),(14,i6 ((tours_2.length : Nat) : Int)),(15,i6 0)]) (⟨[(C_City c_1),[.nils,.nils,.nils,i6 0,i6 0,.nils,.nils,.nils],(flat ((List.replicate k_3 0).map (AV.int .u64)))],[]⟩) (by kernel_rfl) ⟨lenM _ _,trivial⟩ rfl ?_
 obtain ⟨K_6,hK_7,h⟩:=letE h
 refine Ex.blockJ (fun a S => ∃ (w_4 : List Int),K_6 w_4 = some r ∧ a = mkS 50 [(1,.sl (tours_2.map A_band_tour) none),(2,.ptr 0 0),(4,.ptr 1 0),(5,.ms 2 k_3 1)] ∧ S = ⟨[(C_City c_1),[.nils,.nils,.nils,i6 0,i6 0,.nils,.nils,.nils],(flat (w_4.map (AV.int .u64)))],[]⟩) ?_ ?_
 ·obtain ⟨B_11,hB_12,h⟩:=loop2I h
  refine Ex.loopF (fun k a S => ∃ (y_8 : Int),∃ (w_9 : List Int),loop2 B_11 k y_8 w_9 = some r ∧ a = mkS 50 [(1,.sl (tours_2.map A_band_tour) none),(2,.ptr 0 0),(4,.ptr 1 0),(5,.ms 2 k_3 1),(13,.sl (tours_2.map A_band_tour) none),(14,i6 ((tours_2.length : Nat) : Int)),(15,i6 y_8)] ∧ S = ⟨[(C_City c_1),[.nils,.nils,.nils,i6 0,i6 0,.nils,.nils,.nils],(flat (w_9.map (AV.int .u64)))],[]⟩) N ⟨_,_,Forgets.refl _ _ _,0,(List.replicate k_3 0),h,rfl,rfl⟩ ?_
  rintro k a S ⟨y_8,w_9,h,rfl,rfl⟩
  cases k with
  | zero => exact (loop2Z h).elim
  | succ k =>
   replace h:=loop2S h hB_12
   refine Ex.seq (rg 1 [1,2,4,5,13,14,15,16] (mkS 50 [(1,.sl (tours_2.map A_band_tour) none),(2,.ptr 0 0),(4,.ptr 1 0),(5,.ms 2 k_3 1),(13,.sl (tours_2.map A_band_tour) none),(14,i6 ((tours_2.length : Nat) : Int)),(15,i6 y_8),(16,.bool (decide (y_8 < ((tours_2.length : Nat) : Int))))]) ⟨[(C_City c_1),[.nils,.nils,.nils,i6 0,i6 0,.nils,.nils,.nils],(flat (w_9.map (AV.int .u64)))],[]⟩ ?_)
   refine Ex.seq ?_
   rcases condI h with ⟨hc_13,h⟩ | ⟨hc_13,h⟩
   ·refine Ex.condT _ rfl hc_13 ?_
    refine Ex.skip ?_
    refine Ex.seq ?_
    refine Ex.blockK ?_
    refine Ex.seq ?_
    obtain ⟨x_14,hx_14,h⟩:=bE h
    refine regH 6 [(1,.rop (C_band_tour x_14))] [1,2,4,5,6,7,13,14,15] [LGet (tours_2.map A_band_tour) y_8 7 (C_band_tour x_14)] (mkS 50 [(1,.sl (tours_2.map A_band_tour) none),(2,.ptr 0 0),(4,.ptr 1 0),(5,.ms 2 k_3 1),(6,i6 y_8),(7,.ptr 3 0),(13,.sl (tours_2.map A_band_tour) none),(14,i6 ((tours_2.length : Nat) : Int)),(15,i6 y_8)]) (⟨[(C_City c_1),[.nils,.nils,.nils,i6 0,i6 0,.nils,.nils,.nils],(flat (w_9.map (AV.int .u64))),(C_band_tour x_14)],[]⟩) (by kernel_rfl) ⟨LGet.of hx_14 rfl,trivial⟩ rfl ?_
    refine Ex.seq ?_
    obtain ⟨l_15,hl_15,h⟩:=bE h
    refine regH 5 [(2,.sc (l_15.map A_band_tour)),(3,.eq (i6 ((l_15.length : Nat) : Int)))] [1,2,4,5,6,7,13,14,15,22,23,24] [LSlc (tours_2.map A_band_tour) none (some y_8) 7 (l_15.map A_band_tour),AV.int .i64 (((l_15.map A_band_tour).length : Nat) : Int) = AV.int .i64 ((l_15.length : Nat) : Int)] (mkS 50 [(1,.sl (tours_2.map A_band_tour) none),(2,.ptr 0 0),(4,.ptr 1 0),(5,.ms 2 k_3 1),(6,i6 y_8),(7,.ptr 3 0),(13,.sl (tours_2.map A_band_tour) none),(14,i6 ((tours_2.length : Nat) : Int)),(15,i6 y_8),(22,.sl (l_15.map A_band_tour) none),(23,i6 ((l_15.length : Nat) : Int)),(24,i6 0)]) (⟨[(C_City c_1),[.nils,.nils,.nils,i6 0,i6 0,.nils,.nils,.nils],(flat (w_9.map (AV.int .u64))),(C_band_tour x_14)],[]⟩) (by kernel_rfl) ⟨partI.ofR (f:=A_band_tour) (fun _ => rfl) hl_15,lenM _ _,trivial⟩ rfl ?_
    obtain ⟨K_18,hK_19,h⟩:=letE h
    refine Ex.blockJ (fun a S => ∃ (w_16 : List Int),K_18 w_16 = some r ∧ a = mkS 50 [(1,.sl (tours_2.map A_band_tour) none),(2,.ptr 0 0),(4,.ptr 1 0),(5,.ms 2 k_3 1),(13,.sl (tours_2.map A_band_tour) none),(14,i6 ((tours_2.length : Nat) : Int)),(15,i6 y_8)] ∧ S = ⟨[(C_City c_1),[.nils,.nils,.nils,i6 0,i6 0,.nils,.nils,.nils],(flat (w_16.map (AV.int .u64)))],[]⟩) ?_ ?_
    ·obtain ⟨B_23,hB_24,h⟩:=loop2I h
     refine Ex.loopF (fun k a S => ∃ (y_20 : Int),∃ (w_21 : List Int),loop2 B_23 k y_20 w_21 = some r ∧ a = mkS 50 [(1,.sl (tours_2.map A_band_tour) none),(2,.ptr 0 0),(4,.ptr 1 0),(5,.ms 2 k_3 1),(6,i6 y_8),(7,.ptr 3 0),(13,.sl (tours_2.map A_band_tour) none),(14,i6 ((tours_2.length : Nat) : Int)),(15,i6 y_8),(22,.sl (l_15.map A_band_tour) none),(23,i6 ((l_15.length : Nat) : Int)),(24,i6 y_20)] ∧ S = ⟨[(C_City c_1),[.nils,.nils,.nils,i6 0,i6 0,.nils,.nils,.nils],(flat (w_21.map (AV.int .u64))),(C_band_tour x_14)],[]⟩) N ⟨_,_,Forgets.refl _ _ _,0,w_9,h,rfl,rfl⟩ ?_
     rintro k a S ⟨y_20,w_21,h,rfl,rfl⟩
     cases k with
     | zero => exact (loop2Z h).elim
     | succ k =>
      replace h:=loop2S h hB_24
      refine Ex.seq (rg 1 [1,2,4,5,6,7,13,14,15,22,23,24,25] (mkS 50 [(1,.sl (tours_2.map A_band_tour) none),(2,.ptr 0 0),(4,.ptr 1 0),(5,.ms 2 k_3 1),(6,i6 y_8),(7,.ptr 3 0),(13,.sl (tours_2.map A_band_tour) none),(14,i6 ((tours_2.length : Nat) : Int)),(15,i6 y_8),(22,.sl (l_15.map A_band_tour) none),(23,i6 ((l_15.length : Nat) : Int)),(24,i6 y_20),(25,.bool (decide (y_20 < ((l_15.length : Nat) : Int))))]) ⟨[(C_City c_1),[.nils,.nils,.nils,i6 0,i6 0,.nils,.nils,.nils],(flat (w_21.map (AV.int .u64))),(C_band_tour x_14)],[]⟩ ?_)
      refine Ex.seq ?_
      rcases condI h with ⟨hc_25,h⟩ | ⟨hc_25,h⟩
      ·refine Ex.condT _ rfl hc_25 ?_
       refine Ex.skip ?_
       refine Ex.seq ?_
       obtain ⟨K_28,hK_29,h⟩:=letE h
       refine Ex.blockJ (fun a S => ∃ (w_26 : List Int),K_28 w_26 = some r ∧ a = mkS 50 [(1,.sl (tours_2.map A_band_tour) none),(2,.ptr 0 0),(4,.ptr 1 0),(5,.ms 2 k_3 1),(6,i6 y_8),(7,.ptr 3 0),(13,.sl (tours_2.map A_band_tour) none),(14,i6 ((tours_2.length : Nat) : Int)),(15,i6 y_8),(22,.sl (l_15.map A_band_tour) none),(23,i6 ((l_15.length : Nat) : Int)),(24,i6 y_20)] ∧ S = ⟨[(C_City c_1),[.nils,.nils,.nils,i6 0,i6 0,.nils,.nils,.nils],(flat (w_26.map (AV.int .u64))),(C_band_tour x_14)],[]⟩) ?_ ?_
       ·refine Ex.seq ?_
        obtain ⟨x_30,hx_30,h⟩:=bE h
        refine regH 6 [(1,.rop (C_band_tour x_30))] [1,2,4,5,6,7,8,9,13,14,15,22,23,24] [LGet (l_15.map A_band_tour) y_20 7 (C_band_tour x_30)] (mkS 50 [(1,.sl (tours_2.map A_band_tour) none),(2,.ptr 0 0),(4,.ptr 1 0),(5,.ms 2 k_3 1),(6,i6 y_8),(7,.ptr 3 0),(8,i6 y_20),(9,.ptr 4 0),(13,.sl (tours_2.map A_band_tour) none),(14,i6 ((tours_2.length : Nat) : Int)),(15,i6 y_8),(22,.sl (l_15.map A_band_tour) none),(23,i6 ((l_15.length : Nat) : Int)),(24,i6 y_20)]) (⟨[(C_City c_1),[.nils,.nils,.nils,i6 0,i6 0,.nils,.nils,.nils],(flat (w_21.map (AV.int .u64))),(C_band_tour x_14),(C_band_tour x_30)],[]⟩) (by kernel_rfl) ⟨LGet.of hx_30 rfl,trivial⟩ rfl ?_
        refine Ex.seq ?_
        obtain ⟨r_31,hr_31,h⟩:=bE h
        refine Ex.reg (rn 4 [1,2,4,5,6,7,8,13,14,15,22,23,24,29,30,32] (mkS 50 [(1,.sl (tours_2.map A_band_tour) none),(2,.ptr 0 0),(4,.ptr 1 0),(5,.ms 2 k_3 1),(6,i6 y_8),(7,.ptr 3 0),(8,i6 y_20),(13,.sl (tours_2.map A_band_tour) none),(14,i6 ((tours_2.length : Nat) : Int)),(15,i6 y_8),(22,.sl (l_15.map A_band_tour) none),(23,i6 ((l_15.length : Nat) : Int)),(24,i6 y_20),(29,(A_band_tour x_14)),(30,(A_band_tour x_30)),(32,i6 c_1.Break)]) ⟨[(C_City c_1),[.nils,.nils,.nils,i6 0,i6 0,.nils,.nils,.nils],(flat (w_21.map (AV.int .u64))),(C_band_tour x_14),(C_band_tour x_30)],[]⟩ ?_)
        refine ExO.callL [] [(A_band_tour x_14),(A_band_tour x_30),i6 c_1.Break] rfl rfl (a_band_verdict x_14 x_30 c_1.Break) rfl rfl (d_band_verdict N x_14 x_30 c_1.Break r_31 hr_31) (b_band_verdict _ _ _ _) rfl ?_
        refine rn 1 [1,2,4,5,6,7,8,13,14,15,22,23,24,34] (mkS 50 [(1,.sl (tours_2.map A_band_tour) none),(2,.ptr 0 0),(4,.ptr 1 0),(5,.ms 2 k_3 1),(6,i6 y_8),(7,.ptr 3 0),(8,i6 y_20),(13,.sl (tours_2.map A_band_tour) none),(14,i6 ((tours_2.length : Nat) : Int)),(15,i6 y_8),(22,.sl (l_15.map A_band_tour) none),(23,i6 ((l_15.length : Nat) : Int)),(24,i6 y_20),(34,.bool (r_31 != 2))]) ⟨[(C_City c_1),[.nils,.nils,.nils,i6 0,i6 0,.nils,.nils,.nils],(flat (w_21.map (AV.int .u64))),(C_band_tour x_14),(C_band_tour x_30)],[]⟩ ?_
        refine ExO.nil ?_
        rcases condI h with ⟨hc_32,h⟩ | ⟨hc_32,h⟩
        ·refine Ex.condT _ rfl hc_32 ?_
         obtain ⟨u_33,hu_33,h⟩:=bE h
         obtain ⟨x_34,hx_34,h⟩:=bE h
         obtain ⟨r_35,hr_35,h⟩:=bE h
         refine Ex.reg ?_
         refine runH 7 [(4,.adm),(5,.ld (.int .u64 x_34))] [1,2,4,5,6,7,13,14,15,22,23,24,35,36,40,41] [0 ≤ y_8 ∧ y_8 < ((k_3 : Nat) : Int),takeCells (flat (w_21.map (AV.int .u64))) (0 + Int.toNat y_8 * 1) none = some (.int .u64 x_34)] (mkS 50 [(1,.sl (tours_2.map A_band_tour) none),(2,.ptr 0 0),(4,.ptr 1 0),(5,.ms 2 k_3 1),(6,i6 y_8),(7,.ptr 3 0),(13,.sl (tours_2.map A_band_tour) none),(14,i6 ((tours_2.length : Nat) : Int)),(15,i6 y_8),(22,.sl (l_15.map A_band_tour) none),(23,i6 ((l_15.length : Nat) : Int)),(24,i6 y_20),(35,.ms 2 k_3 1),(36,i6 y_8),(40,.int .u64 x_34),(41,i6 y_20)]) (⟨[(C_City c_1),[.nils,.nils,.nils,i6 0,i6 0,.nils,.nils,.nils],(flat (w_21.map (AV.int .u64))),(C_band_tour x_14),(C_band_tour x_30)],[]⟩) (by kernel_rfl) ⟨idxI.of hu_33,ldFl (f:=(AV.int .u64)) (s:=1) w_21 _ 0 y_8 x_34 (.int .u64 x_34) (fun _ => rfl) hx_34 rfl (by omega),trivial⟩ ?_
         refine ExO.callL [] [.int .u64 x_34,i6 y_20] rfl rfl (a_band_choice_with x_34 y_20) rfl rfl (d_band_choice_with N x_34 y_20 r_35 hr_35) (b_band_choice_with _ _ _ _) rfl ?_
         obtain ⟨u_36,hu_36,h⟩:=bE h
         obtain ⟨z_38,hz_38,h⟩:=bE h
         refine runH 2 [(0,.adm),(1,.st (flat (z_38.map (AV.int .u64))))] [1,2,4,5,6,7,13,14,15,22,23,24] [0 ≤ y_8 ∧ y_8 < ((k_3 : Nat) : Int),0 + Int.toNat y_8 * 1 + 1 ≤ ((flat (w_21.map (AV.int .u64)))).length ∧ layAt (flat (w_21.map (AV.int .u64))) (0 + Int.toNat y_8 * 1) [.int .u64 r_35] = (flat (z_38.map (AV.int .u64)))] (mkS 50 [(1,.sl (tours_2.map A_band_tour) none),(2,.ptr 0 0),(4,.ptr 1 0),(5,.ms 2 k_3 1),(6,i6 y_8),(7,.ptr 3 0),(13,.sl (tours_2.map A_band_tour) none),(14,i6 ((tours_2.length : Nat) : Int)),(15,i6 y_8),(22,.sl (l_15.map A_band_tour) none),(23,i6 ((l_15.length : Nat) : Int)),(24,i6 y_20)]) (⟨[(C_City c_1),[.nils,.nils,.nils,i6 0,i6 0,.nils,.nils,.nils],(flat (z_38.map (AV.int .u64))),(C_band_tour x_14),(C_band_tour x_30)],[]⟩) (by kernel_rfl) ⟨idxI.of hu_36,stFl (f:=(AV.int .u64)) (s:=1) _ 0 1 y_8 (fun (y_37 : Int) => r_35) _ (fun _ => rfl) hz_38 rfl (by decide) (by omega) (fun _ => rfl),trivial⟩ ?_
         refine ExO.nil ?_
         (try simp only [reduceCtorEq,AEx.ex.injEq,Nat.reduceEqDiff,if_true,if_false])
         exact ⟨_,_,forgetA (m:=50) 4 [] [(1,.sl (tours_2.map A_band_tour) none),(2,.ptr 0 0),(4,.ptr 1 0),(5,.ms 2 k_3 1),(6,i6 y_8),(7,.ptr 3 0),(13,.sl (tours_2.map A_band_tour) none),(14,i6 ((tours_2.length : Nat) : Int)),(15,i6 y_8),(22,.sl (l_15.map A_band_tour) none),(23,i6 ((l_15.length : Nat) : Int)),(24,i6 y_20)] [(C_City c_1),[.nils,.nils,.nils,i6 0,i6 0,.nils,.nils,.nils],(flat (z_38.map (AV.int .u64))),(C_band_tour x_14)] [] (by simp [setAll]) (by simp) ⟨(reN (KL_band_tour _)),rfl,rfl,rfl,rfl,rfl,(reN (KL_band_tour _)),rfl,rfl,(reN (KL_band_tour _)),rfl,rfl,trivial⟩ (mapMC (show List.mapM (re 4 []) (C_City c_1) = some (C_City c_1) by simp) (mapMC (show List.mapM (re 4 []) [.nils,.nils,.nils,i6 0,i6 0,.nils,.nils,.nils] = some [.nils,.nils,.nils,i6 0,i6 0,.nils,.nils,.nils] by simp) (mapMC (flat_re (f:=(AV.int .u64)) (fun _ => rfl) _ _ _) (mapMC (show List.mapM (re 4 []) (C_band_tour x_14) = some (C_band_tour x_14) by simp) rfl)))) rfl (by decide),z_38,h,rfl,rfl⟩
        ·refine Ex.condF _ rfl hc_32 ?_
         refine Ex.skip ?_
         (try simp only [reduceCtorEq,AEx.ex.injEq,Nat.reduceEqDiff,if_true,if_false])
         exact ⟨_,_,forgetA (m:=50) 4 [] [(1,.sl (tours_2.map A_band_tour) none),(2,.ptr 0 0),(4,.ptr 1 0),(5,.ms 2 k_3 1),(6,i6 y_8),(7,.ptr 3 0),(13,.sl (tours_2.map A_band_tour) none),(14,i6 ((tours_2.length : Nat) : Int)),(15,i6 y_8),(22,.sl (l_15.map A_band_tour) none),(23,i6 ((l_15.length : Nat) : Int)),(24,i6 y_20)] [(C_City c_1),[.nils,.nils,.nils,i6 0,i6 0,.nils,.nils,.nils],(flat (w_21.map (AV.int .u64))),(C_band_tour x_14)] [] (by simp [setAll]) (by simp) ⟨(reN (KL_band_tour _)),rfl,rfl,rfl,rfl,rfl,(reN (KL_band_tour _)),rfl,rfl,(reN (KL_band_tour _)),rfl,rfl,trivial⟩ (mapMC (show List.mapM (re 4 []) (C_City c_1) = some (C_City c_1) by simp) (mapMC (show List.mapM (re 4 []) [.nils,.nils,.nils,i6 0,i6 0,.nils,.nils,.nils] = some [.nils,.nils,.nils,i6 0,i6 0,.nils,.nils,.nils] by simp) (mapMC (flat_re (f:=(AV.int .u64)) (fun _ => rfl) _ _ _) (mapMC (show List.mapM (re 4 []) (C_band_tour x_14) = some (C_band_tour x_14) by simp) rfl)))) rfl (by decide),w_21,h,rfl,rfl⟩
       ·rintro a S ⟨w_26,h,rfl,rfl⟩
        subst hK_29
        refine rg 2 [1,2,4,5,6,7,13,14,15,22,23,24] (mkS 50 [(1,.sl (tours_2.map A_band_tour) none),(2,.ptr 0 0),(4,.ptr 1 0),(5,.ms 2 k_3 1),(6,i6 y_8),(7,.ptr 3 0),(13,.sl (tours_2.map A_band_tour) none),(14,i6 ((tours_2.length : Nat) : Int)),(15,i6 y_8),(22,.sl (l_15.map A_band_tour) none),(23,i6 ((l_15.length : Nat) : Int)),(24,i6 (IntKind.i64.wrap (y_20 + 1)))]) ⟨[(C_City c_1),[.nils,.nils,.nils,i6 0,i6 0,.nils,.nils,.nils],(flat (w_26.map (AV.int .u64))),(C_band_tour x_14)],[]⟩ ?_
        dsimp only
        exact ⟨_,_,Forgets.refl _ _ _,k,Nat.lt_succ_self k,(IntKind.i64.wrap (y_20 + 1)),w_26,h,rfl,rfl⟩
      ·refine Ex.condF _ rfl hc_25 ?_
       refine Ex.exit ?_
       (try simp only [reduceCtorEq,AEx.ex.injEq,Nat.reduceEqDiff,if_true,if_false])
       exact ⟨_,_,forgetA (m:=50) 3 [] [(1,.sl (tours_2.map A_band_tour) none),(2,.ptr 0 0),(4,.ptr 1 0),(5,.ms 2 k_3 1),(13,.sl (tours_2.map A_band_tour) none),(14,i6 ((tours_2.length : Nat) : Int)),(15,i6 y_8)] [(C_City c_1),[.nils,.nils,.nils,i6 0,i6 0,.nils,.nils,.nils],(flat (w_21.map (AV.int .u64)))] [] (by simp [setAll]) (by simp) ⟨(reN (KL_band_tour _)),rfl,rfl,rfl,(reN (KL_band_tour _)),rfl,rfl,trivial⟩ (mapMC (show List.mapM (re 3 []) (C_City c_1) = some (C_City c_1) by simp) (mapMC (show List.mapM (re 3 []) [.nils,.nils,.nils,i6 0,i6 0,.nils,.nils,.nils] = some [.nils,.nils,.nils,i6 0,i6 0,.nils,.nils,.nils] by simp) (mapMC (flat_re (f:=(AV.int .u64)) (fun _ => rfl) _ _ _) rfl))) rfl (by decide),w_21,h,rfl,rfl⟩
    ·rintro a S ⟨w_16,h,rfl,rfl⟩
     subst hK_19
     refine rg 2 [1,2,4,5,13,14,15] (mkS 50 [(1,.sl (tours_2.map A_band_tour) none),(2,.ptr 0 0),(4,.ptr 1 0),(5,.ms 2 k_3 1),(13,.sl (tours_2.map A_band_tour) none),(14,i6 ((tours_2.length : Nat) : Int)),(15,i6 (IntKind.i64.wrap (y_8 + 1)))]) ⟨[(C_City c_1),[.nils,.nils,.nils,i6 0,i6 0,.nils,.nils,.nils],(flat (w_16.map (AV.int .u64)))],[]⟩ ?_
     dsimp only
     exact ⟨_,_,Forgets.refl _ _ _,k,Nat.lt_succ_self k,(IntKind.i64.wrap (y_8 + 1)),w_16,h,rfl,rfl⟩
   ·refine Ex.condF _ rfl hc_13 ?_
    refine Ex.exit ?_
    (try simp only [reduceCtorEq,AEx.ex.injEq,Nat.reduceEqDiff,if_true,if_false])
    exact ⟨_,_,forgetK [1,2,4,5],w_9,h,rfl,rfl⟩
 ·rintro a S ⟨w_4,h,rfl,rfl⟩
  subst hK_7
  refine Ex.seq (rg 5 [4] (mkS 50 [(4,.ptr 1 0)]) ⟨[(C_City c_1),[.sl (c_1.Town.Rooms.map (AV.int .i64)) none,.sl (c_1.Town.Streets.map A_Street) none,.sl (c_1.Town.Groups.map A_Group) none,i6 c_1.Town.Steps,i6 c_1.Break,.sl (c_1.Sleep.map (AV.int .i64)) none,.sl (tours_2.map A_band_tour) none,.ms 2 k_3 1],(flat (w_4.map (AV.int .u64)))],[]⟩ ?_)
  obtain ⟨u_39,hu_39,h⟩:=bE h
  refine Ex.forget (chillX (f:=(AV.int .u64)) 2 1 7 k_3 1 w_4 [.sl (c_1.Town.Rooms.map (AV.int .i64)) none,.sl (c_1.Town.Streets.map A_Street) none,.sl (c_1.Town.Groups.map A_Group) none,i6 c_1.Town.Steps,i6 c_1.Break,.sl (c_1.Sleep.map (AV.int .i64)) none,.sl (tours_2.map A_band_tour) none,.ms 2 k_3 1] hu_39 rfl (fun _ => rfl) rfl (by decide) rfl) ?_
  refine Ex.castA (a2:=mkS 50 [(4,.ptr 1 0)]) (S2:=⟨[(C_City c_1),[.sl (c_1.Town.Rooms.map (AV.int .i64)) none,.sl (c_1.Town.Streets.map A_Street) none,.sl (c_1.Town.Groups.map A_Group) none,i6 c_1.Town.Steps,i6 c_1.Break,.sl (c_1.Sleep.map (AV.int .i64)) none,.sl (tours_2.map A_band_tour) none,.sl (w_4.map (AV.int .u64)) none],[]],[]⟩) (by kernel_rfl) (by kernel_rfl) ?_
  refine Ex.ret ?_
  obtain rfl:=sJ h
  exact rt (.agg [.sl (c_1.Town.Rooms.map (AV.int .i64)) none,.sl (c_1.Town.Streets.map A_Street) none,.sl (c_1.Town.Groups.map A_Group) none,i6 c_1.Town.Steps,i6 c_1.Break,.sl (c_1.Sleep.map (AV.int .i64)) none,.sl (tours_2.map A_band_tour) none,.sl (w_4.map (AV.int .u64)) none])
structure T_band_request where
 requests_ : T_band_requests
 band_ : Int
 granted_ : Int
 deriving Inhabited
def C_band_request (x : T_band_request) : List AV:=[.sl (x.requests_.city_.Town.Rooms.map (AV.int .i64)) none,.sl (x.requests_.city_.Town.Streets.map A_Street) none,.sl (x.requests_.city_.Town.Groups.map A_Group) none,i6 x.requests_.city_.Town.Steps,i6 x.requests_.city_.Break,.sl (x.requests_.city_.Sleep.map (AV.int .i64)) none,.sl (x.requests_.tours_.map A_band_tour) none,.sl (x.requests_.crosses_.map (AV.int .u64)) none,i6 x.band_,.int .u64 x.granted_]
attribute [local simp] C_band_request
def A_band_request (x : T_band_request) : AV:=.agg (C_band_request x)
attribute [local simp] A_band_request
theorem KC_band_request (x : T_band_request) : cleanL (C_band_request x) = true:=by simp
theorem KA_band_request (x : T_band_request) : (A_band_request x).clean = true:=KC_band_request x
theorem KL_band_request (l : List T_band_request) : cleanL (l.map A_band_request) = true:=cleanM KA_band_request l
attribute [local simp] KL_band_request
theorem KB_band_request (x : T_band_request) (n : Nat) (σ : List Nat) : (C_band_request x).mapM (re n σ) = some (C_band_request x):=by simp
attribute [local simp] KB_band_request
def p_band_request_clash (N : Nat) (q_1 : T_band_request) : Option (Int):=((getI q_1.requests_.crosses_ q_1.band_).bind fun x_2 => ((some (IntKind.u64.wrap (((BitVec.ofInt (IntKind.bits .u64) x_2 &&& BitVec.ofInt (IntKind.bits .u64) q_1.granted_).toNat : Nat) : Int))).bind fun n_3 => (bif (n_3 != 0) then some 10 else some 0)))
def v_band_request_clash (r : Int) : AV:=i6 r
attribute [local simp] v_band_request_clash
theorem a_band_request_clash (q_1 : T_band_request) : [(A_band_request q_1)].mapM (ren []) = some [(A_band_request q_1)]:=by simp
theorem b_band_request_clash (r : Int) (n n2 m : Nat) : back n n2 m (v_band_request_clash r) = some (v_band_request_clash r):=by simp
theorem d_band_request_clash (N : Nat) (q_1 : T_band_request) (r : Int) (h : p_band_request_clash N q_1 = some r) : Does Tryd.prog 99 [(A_band_request q_1)] [] fun v c => v = v_band_request_clash r ∧ c = []:=by
 unfold p_band_request_clash at h
 refine Does.ofL comp99 _ _ rfl rfl ?_
 refine Ex.seq (rg 2 [1] (mkS 14 [(1,.ptr 0 0)]) ⟨[(C_band_request q_1)],[]⟩ ?_)
 refine Ex.seq (Ex.seq ?_)
 obtain ⟨x_2,hx_2,h⟩:=bE h
 refine Ex.drawE (a1:=mkS 14 [(1,.ptr 0 0),(3,.ptr 0 0),(4,.ptr 0 7),(5,.sl (q_1.requests_.crosses_.map (AV.int .u64)) none),(6,.ptr 0 8),(7,i6 q_1.band_),(8,.rop [.int .u64 x_2]),(9,.int .u64 x_2),(10,.ptr 0 9),(11,.int .u64 q_1.granted_)]) (noClr_ok _) [] [] [] ?_ ?_
 ·refine drS [0] 9 [(5,.rop [.int .u64 x_2])] [LGet (q_1.requests_.crosses_.map (AV.int .u64)) q_1.band_ 1 [.int .u64 x_2]] (mkS 14 [(1,.ptr 0 0),(3,.ptr 0 0),(4,.ptr 0 7),(5,.sl (q_1.requests_.crosses_.map (AV.int .u64)) none),(6,.ptr 0 8),(7,i6 q_1.band_),(8,.rop [.int .u64 x_2]),(9,.int .u64 x_2),(10,.ptr 0 9),(11,.int .u64 q_1.granted_)]) (by simp) (by kernel_rfl) ⟨LGet.of hx_2 rfl,trivial⟩ (by kernel_rfl) ?_
  exact DrO.nil rfl
 ·dsimp only [List.getLastD_cons,List.getLastD_nil]
  obtain ⟨n_3,hn_3,h⟩:=bE h
  refine runH 2 [(0,.eq (.int .u64 n_3))] [13] [AV.int .u64 (IntKind.u64.wrap (((BitVec.ofInt (IntKind.bits .u64) x_2 &&& BitVec.ofInt (IntKind.bits .u64) q_1.granted_).toNat : Nat) : Int)) = AV.int .u64 n_3] (mkS 14 [(13,.bool (n_3 != 0))]) (⟨[(C_band_request q_1)],[]⟩) (by kernel_rfl) ⟨congrArg (AV.int .u64) (Option.some.inj hn_3),trivial⟩ ?_
  refine ExO.nil ?_
  rcases condI h with ⟨hc_4,h⟩ | ⟨hc_4,h⟩
  ·refine Ex.condT _ rfl hc_4 ?_
   refine Ex.seq (rg 1 [2] (mkS 14 [(2,i6 10)]) ⟨[(C_band_request q_1)],[]⟩ ?_)
   refine Ex.ret ?_
   obtain rfl:=sJ h
   exact rt (i6 10)
  ·refine Ex.condF _ rfl hc_4 ?_
   refine Ex.skip ?_
   refine Ex.seq (rg 1 [2] (mkS 14 [(2,i6 0)]) ⟨[(C_band_request q_1)],[]⟩ ?_)
   refine Ex.ret ?_
   obtain rfl:=sJ h
   exact rt (i6 0)
def p_band_request_throng (N : Nat) (q_1 : T_band_request) : Option (Int):=((getI q_1.requests_.tours_ q_1.band_).bind fun x_2 => (letJ (fun (_ : Unit) => some 0) (fun k_3 => (loop1 (fun rec_7 (y_6 : Int) => (bif (decide (y_6 < ((x_2.squares_.length : Nat) : Int))) then ((getI x_2.squares_ y_6).bind fun x_11 => ((getI q_1.requests_.city_.Town.Rooms x_11).bind fun x_12 => (bif (decide (x_2.Band.People > x_12)) then some 13 else (rec_7 (IntKind.i64.wrap (y_6 + 1)))))) else (k_3 ()))) N 0))))
def v_band_request_throng (r : Int) : AV:=i6 r
attribute [local simp] v_band_request_throng
theorem a_band_request_throng (q_1 : T_band_request) : [(A_band_request q_1)].mapM (ren []) = some [(A_band_request q_1)]:=by simp
theorem b_band_request_throng (r : Int) (n n2 m : Nat) : back n n2 m (v_band_request_throng r) = some (v_band_request_throng r):=by simp
theorem d_band_request_throng (N : Nat) (q_1 : T_band_request) (r : Int) (h : p_band_request_throng N q_1 = some r) : Does Tryd.prog 100 [(A_band_request q_1)] [] fun v c => v = v_band_request_throng r ∧ c = []:=by
 unfold p_band_request_throng at h
 refine Does.ofL comp100 _ _ rfl rfl ?_
 refine Ex.seq (rg 2 [1] (mkS 33 [(1,.ptr 0 0)]) ⟨[(C_band_request q_1)],[]⟩ ?_)
 refine Ex.seq ?_
 obtain ⟨x_2,hx_2,h⟩:=bE h
 refine regH 9 [(5,.rop (C_band_tour x_2))] [1,3] [LGet (q_1.requests_.tours_.map A_band_tour) q_1.band_ 7 (C_band_tour x_2)] (mkS 33 [(1,.ptr 0 0),(3,.ptr 1 0)]) (⟨[(C_band_request q_1),(C_band_tour x_2)],[]⟩) (by kernel_rfl) ⟨LGet.of hx_2 rfl,trivial⟩ rfl ?_
 refine Ex.seq (Ex.seq ?_)
 refine regH 4 [(2,.eq (i6 ((x_2.squares_.length : Nat) : Int)))] [1,3,14,15,16] [AV.int .i64 (((x_2.squares_.map (AV.int .i64)).length : Nat) : Int) = AV.int .i64 ((x_2.squares_.length : Nat) : Int)] (mkS 33 [(1,.ptr 0 0),(3,.ptr 1 0),(14,.sl (x_2.squares_.map (AV.int .i64)) none),(15,i6 ((x_2.squares_.length : Nat) : Int)),(16,i6 0)]) (⟨[(C_band_request q_1),(C_band_tour x_2)],[]⟩) (by kernel_rfl) ⟨lenM _ _,trivial⟩ rfl ?_
 obtain ⟨K_4,hK_5,h⟩:=letE h
 refine Ex.blockJ (fun a S => K_4 () = some r ∧ a = mkS 33 [] ∧ S = ⟨[],[]⟩) ?_ ?_
 ·obtain ⟨B_8,hB_9,h⟩:=loop1I h
  refine Ex.loopF (fun k a S => ∃ (y_6 : Int),loop1 B_8 k y_6 = some r ∧ a = mkS 33 [(1,.ptr 0 0),(3,.ptr 1 0),(14,.sl (x_2.squares_.map (AV.int .i64)) none),(15,i6 ((x_2.squares_.length : Nat) : Int)),(16,i6 y_6)] ∧ S = ⟨[(C_band_request q_1),(C_band_tour x_2)],[]⟩) N ⟨_,_,Forgets.refl _ _ _,0,h,rfl,rfl⟩ ?_
  rintro k a S ⟨y_6,h,rfl,rfl⟩
  cases k with
  | zero => exact (loop1Z h).elim
  | succ k =>
   replace h:=loop1S h hB_9
   refine Ex.seq (rg 1 [1,3,14,15,16,17] (mkS 33 [(1,.ptr 0 0),(3,.ptr 1 0),(14,.sl (x_2.squares_.map (AV.int .i64)) none),(15,i6 ((x_2.squares_.length : Nat) : Int)),(16,i6 y_6),(17,.bool (decide (y_6 < ((x_2.squares_.length : Nat) : Int))))]) ⟨[(C_band_request q_1),(C_band_tour x_2)],[]⟩ ?_)
   refine Ex.seq ?_
   rcases condI h with ⟨hc_10,h⟩ | ⟨hc_10,h⟩
   ·refine Ex.condT _ rfl hc_10 ?_
    refine Ex.skip ?_
    refine Ex.seq ?_
    refine Ex.blockK ?_
    refine Ex.seq ?_
    obtain ⟨x_11,hx_11,h⟩:=bE h
    refine regH 3 [(0,.rop [i6 x_11])] [1,3,5,14,15,16] [LGet (x_2.squares_.map (AV.int .i64)) y_6 1 [i6 x_11]] (mkS 33 [(1,.ptr 0 0),(3,.ptr 1 0),(5,i6 x_11),(14,.sl (x_2.squares_.map (AV.int .i64)) none),(15,i6 ((x_2.squares_.length : Nat) : Int)),(16,i6 y_6)]) (⟨[(C_band_request q_1),(C_band_tour x_2)],[]⟩) (by kernel_rfl) ⟨LGet.of hx_11 rfl,trivial⟩ rfl ?_
    refine Ex.seq ?_
    obtain ⟨x_12,hx_12,h⟩:=bE h
    refine Ex.drawE (a1:=mkS 33 [(1,.ptr 0 0),(3,.ptr 1 0),(5,i6 x_11),(14,.sl (x_2.squares_.map (AV.int .i64)) none),(15,i6 ((x_2.squares_.length : Nat) : Int)),(16,i6 y_6),(20,.ptr 1 0),(21,.ptr 1 5),(22,i6 x_2.Band.People),(23,.ptr 0 0),(24,.ptr 0 0),(25,.ptr 0 0),(26,.ptr 0 0),(27,.sl (q_1.requests_.city_.Town.Rooms.map (AV.int .i64)) none),(28,i6 x_11),(29,.rop [i6 x_12]),(30,i6 x_12)]) (noClr_ok _) [] [] [] ?_ ?_
    ·refine drS [0,1] 11 [(9,.rop [i6 x_12])] [LGet (q_1.requests_.city_.Town.Rooms.map (AV.int .i64)) x_11 1 [i6 x_12]] (mkS 33 [(1,.ptr 0 0),(3,.ptr 1 0),(5,i6 x_11),(14,.sl (x_2.squares_.map (AV.int .i64)) none),(15,i6 ((x_2.squares_.length : Nat) : Int)),(16,i6 y_6),(20,.ptr 1 0),(21,.ptr 1 5),(22,i6 x_2.Band.People),(23,.ptr 0 0),(24,.ptr 0 0),(25,.ptr 0 0),(26,.ptr 0 0),(27,.sl (q_1.requests_.city_.Town.Rooms.map (AV.int .i64)) none),(28,i6 x_11),(29,.rop [i6 x_12]),(30,i6 x_12)]) (by simp) (by kernel_rfl) ⟨LGet.of hx_12 rfl,trivial⟩ (by kernel_rfl) ?_
     exact DrO.nil rfl
    ·dsimp only [List.getLastD_cons,List.getLastD_nil]
     refine rn 1 [1,3,14,15,16,31] (mkS 33 [(1,.ptr 0 0),(3,.ptr 1 0),(14,.sl (x_2.squares_.map (AV.int .i64)) none),(15,i6 ((x_2.squares_.length : Nat) : Int)),(16,i6 y_6),(31,.bool (decide (x_2.Band.People > x_12)))]) ⟨[(C_band_request q_1),(C_band_tour x_2)],[]⟩ ?_
     refine ExO.nil ?_
     rcases condI h with ⟨hc_13,h⟩ | ⟨hc_13,h⟩
     ·refine Ex.condT _ rfl hc_13 ?_
      refine Ex.seq (rg 1 [2] (mkS 33 [(2,i6 13)]) ⟨[(C_band_request q_1),(C_band_tour x_2)],[]⟩ ?_)
      refine Ex.ret ?_
      obtain rfl:=sJ h
      exact rt (i6 13)
     ·refine Ex.condF _ rfl hc_13 ?_
      refine Ex.skip ?_
      refine rg 2 [1,3,14,15,16] (mkS 33 [(1,.ptr 0 0),(3,.ptr 1 0),(14,.sl (x_2.squares_.map (AV.int .i64)) none),(15,i6 ((x_2.squares_.length : Nat) : Int)),(16,i6 (IntKind.i64.wrap (y_6 + 1)))]) ⟨[(C_band_request q_1),(C_band_tour x_2)],[]⟩ ?_
      dsimp only
      exact ⟨_,_,Forgets.refl _ _ _,k,Nat.lt_succ_self k,(IntKind.i64.wrap (y_6 + 1)),h,rfl,rfl⟩
   ·refine Ex.condF _ rfl hc_10 ?_
    refine Ex.exit ?_
    (try simp only [reduceCtorEq,AEx.ex.injEq,Nat.reduceEqDiff,if_true,if_false])
    exact ⟨_,_,forgetA (m:=33) 0 [] [] [] [] (by simp [setAll]) (by simp) trivial (by simp) rfl (by decide),h,rfl,rfl⟩
 ·rintro a S ⟨h,rfl,rfl⟩
  subst hK_5
  refine Ex.seq (rg 1 [2] (mkS 33 [(2,i6 0)]) ⟨[],[]⟩ ?_)
  refine Ex.ret ?_
  obtain rfl:=sJ h
  exact rt (i6 0)
def v_math_bits_TrailingZeros32 (r : Int) : AV:=i6 r
attribute [local simp] v_math_bits_TrailingZeros32
def p_math_bits_TrailingZeros64 (N : Nat) (x_1 : Int) : Option (Int):=(bif (x_1 == 0) then some 64 else ((some (IntKind.u64.wrap (((BitVec.ofInt (IntKind.bits .u64) x_1 &&& BitVec.ofInt (IntKind.bits .u64) (IntKind.u64.wrap (0 - x_1))).toNat : Nat) : Int))).bind fun n_3 => ((some (Int.fdiv (IntKind.u64.wrap (n_3 * 285870213051353865)) ((2 : Int) ^ (min (Int.toNat 58) (IntKind.bits .u64))))).bind fun n_4 => ((idxI n_4 64).bind fun u_5 => ((([0,1,56,2,57,49,28,3,61,58,42,50,38,29,17,4,62,47,59,36,45,43,51,22,53,39,33,30,24,18,12,5,63,55,48,27,60,41,37,16,46,35,44,21,52,32,23,11,54,26,40,15,34,20,31,10,25,14,19,9,13,8,7,6] : List Int)[Int.toNat n_4]?).bind fun x_6 => some (IntKind.i64.wrap x_6))))))
def v_math_bits_TrailingZeros64 (r : Int) : AV:=i6 r
attribute [local simp] v_math_bits_TrailingZeros64
theorem a_math_bits_TrailingZeros64 (x_1 : Int) : [.int .u64 x_1].mapM (ren []) = some [.int .u64 x_1]:=by simp
theorem b_math_bits_TrailingZeros64 (r : Int) (n n2 m : Nat) : back n n2 m (v_math_bits_TrailingZeros64 r) = some (v_math_bits_TrailingZeros64 r):=by simp
theorem d_math_bits_TrailingZeros64 (N : Nat) (x_1 : Int) (r : Int) (h : p_math_bits_TrailingZeros64 N x_1 = some r) : Does Tryd.prog 120 [.int .u64 x_1] [] fun v c => v = v_math_bits_TrailingZeros64 r ∧ c = []:=by
 unfold p_math_bits_TrailingZeros64 at h
 refine Does.ofL comp120 _ _ rfl rfl ?_
 refine Ex.seq (rg 1 [0] (mkS 14 [(0,.int .u64 x_1)]) ⟨[],[]⟩ ?_)
 refine Ex.seq (Ex.seq ?_)
 refine rg 2 [0,4] (mkS 14 [(0,.int .u64 x_1),(4,.bool (x_1 == 0))]) ⟨[],[]⟩ ?_
 rcases condI h with ⟨hc_2,h⟩ | ⟨hc_2,h⟩
 ·refine Ex.condT _ rfl hc_2 ?_
  refine Ex.seq (rg 1 [2] (mkS 14 [(2,i6 64)]) ⟨[],[]⟩ ?_)
  refine Ex.ret ?_
  obtain rfl:=sJ h
  exact rt (i6 64)
 ·refine Ex.condF _ rfl hc_2 ?_
  refine Ex.skip ?_
  refine Ex.seq ?_
  obtain ⟨n_3,hn_3,h⟩:=bE h
  obtain ⟨n_4,hn_4,h⟩:=bE h
  obtain ⟨u_5,hu_5,h⟩:=bE h
  obtain ⟨x_6,hx_6,h⟩:=bE h
  refine regH 10 [(3,.eq (.int .u64 n_3)),(5,.eq (.int .u64 n_4)),(6,.adr),(7,.ld (.int .u8 x_6))] [2] [AV.int .u64 (IntKind.u64.wrap (((BitVec.ofInt (IntKind.bits .u64) x_1 &&& BitVec.ofInt (IntKind.bits .u64) (IntKind.u64.wrap (0 - x_1))).toNat : Nat) : Int)) = AV.int .u64 n_3,AV.int .u64 (Int.fdiv (IntKind.u64.wrap (n_3 * 285870213051353865)) ((2 : Int) ^ (min (Int.toNat 58) (IntKind.bits .u64)))) = AV.int .u64 n_4,0 ≤ n_4 ∧ n_4 < ((64 : Nat) : Int) ∧ Int.toNat n_4 * 1 ≤ (([0,1,56,2,57,49,28,3,61,58,42,50,38,29,17,4,62,47,59,36,45,43,51,22,53,39,33,30,24,18,12,5,63,55,48,27,60,41,37,16,46,35,44,21,52,32,23,11,54,26,40,15,34,20,31,10,25,14,19,9,13,8,7,6] : List Int).map (AV.int .u8)).length,takeCells ((([0,1,56,2,57,49,28,3,61,58,42,50,38,29,17,4,62,47,59,36,45,43,51,22,53,39,33,30,24,18,12,5,63,55,48,27,60,41,37,16,46,35,44,21,52,32,23,11,54,26,40,15,34,20,31,10,25,14,19,9,13,8,7,6] : List Int).map (AV.int .u8)).drop (Int.toNat n_4 * 1)) 0 none = some (.int .u8 x_6)] (mkS 14 [(2,i6 (IntKind.i64.wrap x_6))]) (⟨[],[]⟩) (by kernel_rfl) ⟨congrArg (AV.int .u64) (Option.some.inj hn_3),congrArg (AV.int .u64) (Option.some.inj hn_4),adrT ([0,1,56,2,57,49,28,3,61,58,42,50,38,29,17,4,62,47,59,36,45,43,51,22,53,39,33,30,24,18,12,5,63,55,48,27,60,41,37,16,46,35,44,21,52,32,23,11,54,26,40,15,34,20,31,10,25,14,19,9,13,8,7,6] : List Int) .u8 hu_5 (by decide),ldTab ([0,1,56,2,57,49,28,3,61,58,42,50,38,29,17,4,62,47,59,36,45,43,51,22,53,39,33,30,24,18,12,5,63,55,48,27,60,41,37,16,46,35,44,21,52,32,23,11,54,26,40,15,34,20,31,10,25,14,19,9,13,8,7,6] : List Int) .u8 hx_6,trivial⟩ rfl ?_
  refine Ex.ret ?_
  obtain rfl:=sJ h
  exact rt (i6 (IntKind.i64.wrap x_6))
def p_math_bits_TrailingZeros (N : Nat) (x_1 : Int) : Option (Int):=((p_math_bits_TrailingZeros64 N x_1).bind fun r_2 => some r_2)
def v_math_bits_TrailingZeros (r : Int) : AV:=i6 r
attribute [local simp] v_math_bits_TrailingZeros
theorem a_math_bits_TrailingZeros (x_1 : Int) : [.int .u64 x_1].mapM (ren []) = some [.int .u64 x_1]:=by simp
theorem b_math_bits_TrailingZeros (r : Int) (n n2 m : Nat) : back n n2 m (v_math_bits_TrailingZeros r) = some (v_math_bits_TrailingZeros r):=by simp
theorem d_math_bits_TrailingZeros (N : Nat) (x_1 : Int) (r : Int) (h : p_math_bits_TrailingZeros N x_1 = some r) : Does Tryd.prog 106 [.int .u64 x_1] [] fun v c => v = v_math_bits_TrailingZeros r ∧ c = []:=by
 unfold p_math_bits_TrailingZeros at h
 refine Does.ofL comp106 _ _ rfl rfl ?_
 refine Ex.seq (rg 1 [0] (mkS 8 [(0,.int .u64 x_1)]) ⟨[],[]⟩ ?_)
 refine Ex.seq ?_
 refine Ex.cond (b:=false) rfl ?_
 refine Ex.skip ?_
 refine Ex.seq ?_
 obtain ⟨r_2,hr_2,h⟩:=bE h
 refine Ex.reg (rn 1 [6] (mkS 8 [(6,.int .u64 x_1)]) ⟨[],[]⟩ ?_)
 refine ExO.callL [] [.int .u64 x_1] rfl rfl (a_math_bits_TrailingZeros64 x_1) rfl rfl (d_math_bits_TrailingZeros64 N x_1 r_2 hr_2) (b_math_bits_TrailingZeros64 _ _ _ _) rfl ?_
 refine rn 1 [2] (mkS 8 [(2,i6 r_2)]) ⟨[],[]⟩ ?_
 refine ExO.nil ?_
 refine Ex.ret ?_
 obtain rfl:=sJ h
 exact rt (i6 r_2)
def p_band_choice_bands (N : Nat) (x_1 : Int) : Option (Int):=some x_1
def v_band_choice_bands (r : Int) : AV:=.fn 105 [] [.rop [.int .u64 r]]
attribute [local simp] v_band_choice_bands
theorem a_band_choice_bands (x_1 : Int) : [.int .u64 x_1].mapM (ren []) = some [.int .u64 x_1]:=by simp
theorem b_band_choice_bands (r : Int) (n n2 m : Nat) : back n n2 m (v_band_choice_bands r) = some (v_band_choice_bands r):=by simp
theorem d_band_choice_bands (N : Nat) (x_1 : Int) (r : Int) (h : p_band_choice_bands N x_1 = some r) : Does Tryd.prog 82 [.int .u64 x_1] [] fun v c => v = v_band_choice_bands r ∧ c = []:=by
 unfold p_band_choice_bands at h
 refine Does.ofL comp82 _ _ rfl rfl ?_
 refine Ex.seq (rg 2 [1] (mkS 4 [(1,.ptr 0 0)]) ⟨[[.int .u64 x_1]],[]⟩ ?_)
 refine Ex.seq (rg 2 [2] (mkS 4 [(2,.fn 105 [] [.ptr 0 0])]) ⟨[[.int .u64 x_1]],[]⟩ ?_)
 refine Ex.forget (forgetK [2]) ?_
 refine Ex.castA (a2:=mkS 4 [(2,.fn 105 [] [.ptr 0 0])]) (S2:=⟨[[.int .u64 x_1]],[]⟩) (by kernel_rfl) (by kernel_rfl) ?_
 obtain rfl:=sJ h
 refine Ex.forget (chillP 2 0 [.int .u64 x_1] _ rfl rfl) ?_
 refine Ex.castA (a2:=mkS 4 [(2,.fn 105 [] [.rop [.int .u64 x_1]])]) (S2:=⟨[[]],[]⟩) (by kernel_rfl) (by kernel_rfl) ?_
 refine Ex.ret ?_
 exact rt (.fn 105 [] [.rop [.int .u64 x_1]])
def p_band_request_noise (N : Nat) (q_1 : T_band_request) : Option (Int):=((p_band_choice_with N q_1.granted_ q_1.band_).bind fun r_2 => ((p_band_choice_bands N r_2).bind fun r_3 => (letJ (fun (b_11 : List T_band_tour) => (letJ (fun (_ : Unit) => some 0) (fun k_41 => (loop1 (fun rec_45 (y_44 : Int) => (bif (decide (y_44 < ((q_1.requests_.city_.Sleep.length : Nat) : Int))) then ((getI q_1.requests_.city_.Sleep y_44).bind fun x_49 => ((p_band_nightOf N b_11 y_44).bind fun r_50 => ((p_band_night_sleep N r_50).bind fun r_51 => (bif (decide (r_51.2 < x_49)) then some 11 else (rec_45 (IntKind.i64.wrap (y_44 + 1))))))) else (k_41 ()))) N 0)))) (fun k_12 => (letJ (fun (b_15 : List T_band_tour) => (k_12 b_15)) (fun k_16 => (loop2 (fun rec_21 (rest_19 : Int) (b_20 : List T_band_tour) => (bif (rest_19 != 0) then ((p_math_bits_TrailingZeros N rest_19).bind fun r_25 => (letJ (fun (b_34 : List T_band_tour) => ((some (IntKind.u64.wrap (((BitVec.ofInt (IntKind.bits .u64) rest_19 &&& BitVec.ofInt (IntKind.bits .u64) (IntKind.u64.wrap (rest_19 - 1))).toNat : Nat) : Int))).bind fun n_40 => (rec_21 n_40 b_34))) (fun k_35 => ((getI q_1.requests_.tours_ r_25).bind fun x_38 => ((pushI b_20 ([x_38] : List T_band_tour)).bind fun l_39 => (k_35 l_39)))))) else (k_16 b_20))) N r_3 [])))))))
def v_band_request_noise (r : Int) : AV:=i6 r
attribute [local simp] v_band_request_noise
theorem a_band_request_noise (q_1 : T_band_request) : [(A_band_request q_1)].mapM (ren []) = some [(A_band_request q_1)]:=by simp
theorem b_band_request_noise (r : Int) (n n2 m : Nat) : back n n2 m (v_band_request_noise r) = some (v_band_request_noise r):=by simp
theorem d_band_request_noise (N : Nat) (q_1 : T_band_request) (r : Int) (h : p_band_request_noise N q_1 = some r) : Does Tryd.prog 101 [(A_band_request q_1)] [] fun v c => v = v_band_request_noise r ∧ c = []:=by
 unfold p_band_request_noise at h
 refine Does.ofL comp101 _ _ rfl rfl ?_
 refine Ex.seq (rg 2 [1,2] (mkS 46 [(1,.ptr 0 0),(2,i6 0)]) ⟨[(C_band_request q_1)],[]⟩ ?_)
 refine Ex.seq (rg 1 [1,2,3] (mkS 46 [(1,.ptr 0 0),(2,i6 0),(3,.ptr 1 0)]) ⟨[(C_band_request q_1),[.nils]],[]⟩ ?_)
 refine Ex.seq (Ex.seq ?_)
 obtain ⟨r_2,hr_2,h⟩:=bE h
 refine Ex.reg (rn 4 [1,2,3,10,12] (mkS 46 [(1,.ptr 0 0),(2,i6 0),(3,.ptr 1 0),(10,.int .u64 q_1.granted_),(12,i6 q_1.band_)]) ⟨[(C_band_request q_1),[.nils]],[]⟩ ?_)
 refine ExO.callL [] [.int .u64 q_1.granted_,i6 q_1.band_] rfl rfl (a_band_choice_with q_1.granted_ q_1.band_) rfl rfl (d_band_choice_with N q_1.granted_ q_1.band_ r_2 hr_2) (b_band_choice_with _ _ _ _) rfl ?_
 obtain ⟨r_3,hr_3,h⟩:=bE h
 refine ExO.callL [] [.int .u64 r_2] rfl rfl (a_band_choice_bands r_2) rfl rfl (d_band_choice_bands N r_2 r_3 hr_3) (b_band_choice_bands _ _ _ _) rfl ?_
 refine rn 0 [1,2,3,14] (mkS 46 [(1,.ptr 0 0),(2,i6 0),(3,.ptr 1 0),(14,.fn 105 [] [.rop [.int .u64 r_3]])]) ⟨[(C_band_request q_1),[.nils]],[]⟩ ?_
 refine ExO.nil ?_
 refine Ex.blockK ?_
 obtain ⟨K_13,hK_14,h⟩:=letE h
 refine Ex.rangeJ (fun k S => (k = 0 ∧ ∃ (b_11 : List T_band_tour),K_13 b_11 = some r ∧ S = ⟨[(C_band_request q_1),[.sl (b_11.map A_band_tour) (some 1)]],[(0,0),(b_11.length,7)]⟩)) 105 [.rop [.int .u64 r_3]] _ rfl comp105 rfl (by simp [setAll]) (by exact trivial) (mkS 16 [(1,.rop [.int .u64 r_3]),(2,.tup []),(3,.tup []),(4,.tup []),(5,.tup []),(6,.tup []),(7,.tup []),(8,.tup []),(9,.tup []),(10,.tup []),(11,.tup []),(12,.tup []),(13,.tup []),(14,.tup []),(15,.tup [])]) (⟨[(C_band_request q_1),[.nils]],[(0,0)]⟩) (fun _ => by kernel_rfl) (by kernel_rfl) ?_ ?_
 ·intro cx_5 Lp_4 hcn_6 hcm_7 hLt_8 hL_9 hup_10
  refine Ex.castA (a2:=mkS 16 [(0,.yld Lp_4.l 0),(1,.rop [.int .u64 r_3]),(2,.tup []),(3,.tup []),(4,.tup []),(5,.tup []),(6,.tup []),(7,.tup []),(8,.tup []),(9,.tup []),(10,.tup []),(11,.tup []),(12,.tup []),(13,.tup []),(14,.tup []),(15,.tup [])]) (S2:=⟨[(C_band_request q_1),[.nils]],[(0,0)]⟩) (by kernel_rfl) rfl ?_
  refine Ex.seq (rg 2 [0,3] (mkS 16 [(0,.yld Lp_4.l 0),(3,.int .u64 r_3)]) ⟨[(C_band_request q_1),[.nils]],[(0,0)]⟩ ?_)
  obtain ⟨K_17,hK_18,h⟩:=letE h
  refine Ex.blockJ (fun a S => ∃ (b_15 : List T_band_tour),K_17 b_15 = some r ∧ a = mkS 16 [] ∧ S = ⟨[(C_band_request q_1),[.sl (b_15.map A_band_tour) (some 1)]],[(0,0),(b_15.length,7)]⟩) ?_ ?_
  ·refine Ex.forget (nilB 1 0 7 [.nils] rfl rfl) ?_
   refine Ex.castA (a2:=mkS 16 [(0,.yld Lp_4.l 0),(3,.int .u64 r_3)]) (S2:=⟨[(C_band_request q_1),[.sl (([] : List T_band_tour).map A_band_tour) (some 1)]],[(0,0),(0,7)]⟩) (by kernel_rfl) (by kernel_rfl) ?_
   obtain ⟨B_22,hB_23,h⟩:=loop2I h
   refine Ex.loopF (fun k a S => ∃ (rest_19 : Int),∃ (b_20 : List T_band_tour),loop2 B_22 k rest_19 b_20 = some r ∧ a = mkS 16 [(0,.yld Lp_4.l 0),(3,.int .u64 rest_19)] ∧ S = ⟨[(C_band_request q_1),[.sl (b_20.map A_band_tour) (some 1)]],[(0,0),(b_20.length,7)]⟩) N ⟨_,_,Forgets.refl _ _ _,r_3,[],h,rfl,rfl⟩ ?_
   rintro k a S ⟨rest_19,b_20,h,rfl,rfl⟩
   cases k with
   | zero => exact (loop2Z h).elim
   | succ k =>
    replace h:=loop2S h hB_23
    refine Ex.seq (Ex.seq ?_)
    refine rg 2 [0,3,6] (mkS 16 [(0,.yld Lp_4.l 0),(3,.int .u64 rest_19),(6,.bool (rest_19 != 0))]) ⟨[(C_band_request q_1),[.sl (b_20.map A_band_tour) (some 1)]],[(0,0),(b_20.length,7)]⟩ ?_
    rcases condI h with ⟨hc_24,h⟩ | ⟨hc_24,h⟩
    ·refine Ex.condT _ rfl hc_24 ?_
     refine Ex.skip ?_
     refine Ex.seq ?_
     refine Ex.blockK ?_
     refine Ex.seq ?_
     obtain ⟨r_25,hr_25,h⟩:=bE h
     refine Ex.regI ?_
     refine runI 2 [] [0,3,11,12] [] (mkS 16 [(0,.yld Lp_4.l 0),(3,.int .u64 rest_19),(11,.yld Lp_4.l 0),(12,.int .u64 rest_19)]) (⟨[(C_band_request q_1),[.sl (b_20.map A_band_tour) (some 1)]],[(0,0),(b_20.length,7)]⟩) (by kernel_rfl) trivial ?_
     refine ExI.one ?_
     refine ExO.callL [] [.int .u64 rest_19] rfl rfl (a_math_bits_TrailingZeros rest_19) rfl rfl (d_math_bits_TrailingZeros N rest_19 r_25 hr_25) (b_math_bits_TrailingZeros _ _ _ _) rfl ?_
     refine ExO.nil ?_
     obtain ⟨K_36,hK_37,h⟩:=letE h
     refine ExI.yieldT 0 hLt_8 hL_9 [i6 r_25] rfl rfl rfl (by kernel_rfl) rfl rfl (leC hcn_6 (by simp [setAll])) ?_
     intro ca_26 cb_27 ha_28 hb_29 hma_30 hmb_31 hup_32 hbz_33
     refine Ex.castA (a2:=mkS 46 [(1,.ptr 0 0),(2,i6 0),(3,.ptr 1 0),(14,.fn 105 [] [.rop [.int .u64 r_3]]),(15,i6 r_25)]) (S2:=⟨[(C_band_request q_1),[.sl (b_20.map A_band_tour) (some 1)]],[(0,0),(b_20.length,7)]⟩) (by kernel_rfl) (by kernel_rfl) ?_
     refine Ex.two (fun z S => (z = AEx.norm ∧ ∃ (b_34 : List T_band_tour),K_36 b_34 = some r ∧ S = ⟨[(C_band_request q_1),[.sl (b_34.map A_band_tour) (some 1)]],[(0,0),(b_34.length,7)]⟩)) ?_ ?_
     ·refine rg 1 [1,3,4] (mkS 46 [(1,.ptr 0 0),(3,.ptr 1 0),(4,i6 r_25)]) ⟨[(C_band_request q_1),[.sl (b_20.map A_band_tour) (some 1)]],[(0,0),(b_20.length,7)]⟩ ?_
      refine ⟨rfl,rfl,?_⟩
      refine Ex.blockK ?_
      refine Ex.postF ?_
      obtain ⟨x_38,hx_38,h⟩:=bE h
      refine Ex.drawE (a1:=mkS 46 [(1,.ptr 0 0),(3,.ptr 1 0),(4,i6 r_25),(16,.sl (b_20.map A_band_tour) (some 1)),(17,.ptr 0 0),(18,.ptr 0 6),(19,.sl (q_1.requests_.tours_.map A_band_tour) none),(20,i6 r_25),(21,.rop (C_band_tour x_38)),(22,(A_band_tour x_38)),(23,.sl (([x_38] : List T_band_tour).map A_band_tour) (some 2))]) (noClr_ok _) [] [(1,7)] [] ?_ ?_
      ·refine drS [0,1] 7 [(5,.rop (C_band_tour x_38))] [LGet (q_1.requests_.tours_.map A_band_tour) r_25 7 (C_band_tour x_38)] (mkS 46 [(1,.ptr 0 0),(3,.ptr 1 0),(4,i6 r_25),(16,.sl (b_20.map A_band_tour) (some 1)),(17,.ptr 0 0),(18,.ptr 0 6),(19,.sl (q_1.requests_.tours_.map A_band_tour) none),(20,i6 r_25),(21,.rop (C_band_tour x_38)),(22,(A_band_tour x_38))]) (by simp) (by kernel_rfl) ⟨LGet.of hx_38 rfl,trivial⟩ (by kernel_rfl) ?_
       refine drR 2 7 (([x_38] : List T_band_tour).map A_band_tour) rfl rfl (fun _ => by kernel_rfl) (by simp) rfl rfl ?_
       exact DrO.nil rfl
      ·dsimp only [List.getLastD_cons,List.getLastD_nil]
       obtain ⟨l_39,hl_39,h⟩:=bE h
       refine runH 2 [(0,.app (l_39.map A_band_tour) l_39.length)] [] [LApp b_20.length (b_20.map A_band_tour) (([x_38] : List T_band_tour).map A_band_tour) 7 (l_39.map A_band_tour) l_39.length] (mkS 46 []) (⟨[(C_band_request q_1),[.sl (l_39.map A_band_tour) (some 1)]],[(0,0),(l_39.length,7),(1,7)]⟩) (by kernel_rfl) ⟨LApp.of hl_39 (fun _ => rfl),trivial⟩ ?_
       refine ExO.nil ?_
       refine ⟨mkS 46 [],⟨[(C_band_request q_1),[.sl (l_39.map A_band_tour) (some 1)]],[(0,0),(l_39.length,7),(1,7)]⟩,Forgets.refl _ _ _,?_⟩
       (try simp only [reduceCtorEq,AEx.ex.injEq,Nat.reduceEqDiff,if_true,if_false])
       exact ⟨_,_,forgetA (m:=46) 2 [0,1] [] [(C_band_request q_1),[.sl (l_39.map A_band_tour) (some 1)]] [(0,0),(l_39.length,7)] (leC hb_29 (by simp [setAll])) (by simp) trivial (by simp) rfl (by decide) (sig0 2 hmb_31 rfl),⟨by first | rfl | trivial,l_39,h,rfl⟩⟩
     ·rintro z a2 S (⟨rfl,b_34,h,rfl⟩)
      subst hK_37
      refine runI 1 [] [0,3,15] [] (mkS 16 [(0,.yld Lp_4.l 0),(3,.int .u64 rest_19),(15,.bool false)]) (⟨[(C_band_request q_1),[.sl (b_34.map A_band_tour) (some 1)]],[(0,0),(b_34.length,7)]⟩) (by kernel_rfl) trivial ?_
      refine ExI.nil ?_
      refine Ex.cond (b:=false) rfl ?_
      refine Ex.skip ?_
      obtain ⟨n_40,hn_40,h⟩:=bE h
      refine regH 5 [(3,.eq (.int .u64 n_40))] [0,3] [AV.int .u64 (IntKind.u64.wrap (((BitVec.ofInt (IntKind.bits .u64) rest_19 &&& BitVec.ofInt (IntKind.bits .u64) (IntKind.u64.wrap (rest_19 - 1))).toNat : Nat) : Int)) = AV.int .u64 n_40] (mkS 16 [(0,.yld Lp_4.l 0),(3,.int .u64 n_40)]) (⟨[(C_band_request q_1),[.sl (b_34.map A_band_tour) (some 1)]],[(0,0),(b_34.length,7)]⟩) (by kernel_rfl) ⟨congrArg (AV.int .u64) (Option.some.inj hn_40),trivial⟩ rfl ?_
      dsimp only
      exact ⟨_,_,Forgets.refl _ _ _,k,Nat.lt_succ_self k,n_40,b_34,h,rfl,rfl⟩
    ·refine Ex.condF _ rfl hc_24 ?_
     refine Ex.exit ?_
     (try simp only [reduceCtorEq,AEx.ex.injEq,Nat.reduceEqDiff,if_true,if_false])
     exact ⟨_,_,forgetK [],b_20,h,rfl,rfl⟩
  ·rintro a S ⟨b_15,h,rfl,rfl⟩
   subst hK_18
   exact ⟨_,_,Forgets.refl _ _ _,.inl rfl,0,rfl,⟨by first | rfl | trivial,b_15,h,rfl⟩⟩
 ·rintro k S (⟨rfl,b_11,h,rfl⟩)
  subst hK_14
  refine Ex.seq (Ex.seq ?_)
  refine regH 6 [(4,.eq (i6 ((q_1.requests_.city_.Sleep.length : Nat) : Int)))] [3,28,29,30] [AV.int .i64 (((q_1.requests_.city_.Sleep.map (AV.int .i64)).length : Nat) : Int) = AV.int .i64 ((q_1.requests_.city_.Sleep.length : Nat) : Int)] (mkS 46 [(3,.ptr 1 0),(28,.sl (q_1.requests_.city_.Sleep.map (AV.int .i64)) none),(29,i6 ((q_1.requests_.city_.Sleep.length : Nat) : Int)),(30,i6 0)]) (⟨[(C_band_request q_1),[.sl (b_11.map A_band_tour) (some 1)]],[(0,0),(b_11.length,7)]⟩) (by kernel_rfl) ⟨lenM _ _,trivial⟩ rfl ?_
  obtain ⟨K_42,hK_43,h⟩:=letE h
  refine Ex.blockJ (fun a S => K_42 () = some r ∧ a = mkS 46 [] ∧ S = ⟨[],[]⟩) ?_ ?_
  ·obtain ⟨B_46,hB_47,h⟩:=loop1I h
   refine Ex.loopF (fun k a S => ∃ (y_44 : Int),loop1 B_46 k y_44 = some r ∧ a = mkS 46 [(3,.ptr 1 0),(28,.sl (q_1.requests_.city_.Sleep.map (AV.int .i64)) none),(29,i6 ((q_1.requests_.city_.Sleep.length : Nat) : Int)),(30,i6 y_44)] ∧ S = ⟨[(C_band_request q_1),[.sl (b_11.map A_band_tour) (some 0)]],[(b_11.length,7)]⟩) N ⟨_,_,forgetA (m:=46) 2 [1] [(3,.ptr 1 0),(28,.sl (q_1.requests_.city_.Sleep.map (AV.int .i64)) none),(29,i6 ((q_1.requests_.city_.Sleep.length : Nat) : Int)),(30,i6 0)] [(C_band_request q_1),[.sl (b_11.map A_band_tour) (some 0)]] [(b_11.length,7)] (by simp [setAll]) (by simp) ⟨rfl,(reN (cleanI _ _)),rfl,rfl,trivial⟩ (by simp) rfl (by decide),0,h,rfl,rfl⟩ ?_
   rintro k a S ⟨y_44,h,rfl,rfl⟩
   cases k with
   | zero => exact (loop1Z h).elim
   | succ k =>
    replace h:=loop1S h hB_47
    refine Ex.seq (rg 1 [3,28,29,30,31] (mkS 46 [(3,.ptr 1 0),(28,.sl (q_1.requests_.city_.Sleep.map (AV.int .i64)) none),(29,i6 ((q_1.requests_.city_.Sleep.length : Nat) : Int)),(30,i6 y_44),(31,.bool (decide (y_44 < ((q_1.requests_.city_.Sleep.length : Nat) : Int))))]) ⟨[(C_band_request q_1),[.sl (b_11.map A_band_tour) (some 0)]],[(b_11.length,7)]⟩ ?_)
    refine Ex.seq ?_
    rcases condI h with ⟨hc_48,h⟩ | ⟨hc_48,h⟩
    ·refine Ex.condT _ rfl hc_48 ?_
     refine Ex.skip ?_
     refine Ex.seq ?_
     refine Ex.blockK ?_
     refine Ex.seq ?_
     obtain ⟨x_49,hx_49,h⟩:=bE h
     refine regH 5 [(1,.rop [i6 x_49])] [3,5,6,28,29,30] [LGet (q_1.requests_.city_.Sleep.map (AV.int .i64)) y_44 1 [i6 x_49]] (mkS 46 [(3,.ptr 1 0),(5,i6 y_44),(6,i6 x_49),(28,.sl (q_1.requests_.city_.Sleep.map (AV.int .i64)) none),(29,i6 ((q_1.requests_.city_.Sleep.length : Nat) : Int)),(30,i6 y_44)]) (⟨[(C_band_request q_1),[.sl (b_11.map A_band_tour) (some 0)]],[(b_11.length,7)]⟩) (by kernel_rfl) ⟨LGet.of hx_49 rfl,trivial⟩ rfl ?_
     refine Ex.seq ?_
     obtain ⟨r_50,hr_50,h⟩:=bE h
     refine Ex.reg (rn 2 [3,6,28,29,30,36,37] (mkS 46 [(3,.ptr 1 0),(6,i6 x_49),(28,.sl (q_1.requests_.city_.Sleep.map (AV.int .i64)) none),(29,i6 ((q_1.requests_.city_.Sleep.length : Nat) : Int)),(30,i6 y_44),(36,.sl (b_11.map A_band_tour) (some 0)),(37,i6 y_44)]) ⟨[(C_band_request q_1),[.sl (b_11.map A_band_tour) (some 0)]],[(b_11.length,7)]⟩ ?_)
     refine ExO.callL [] [.sl (b_11.map A_band_tour) (some 0),i6 y_44] rfl rfl (a_band_nightOf b_11 y_44) rfl rfl (d_band_nightOf N b_11 y_44 r_50 hr_50) (b_band_nightOf _ _ _ _) rfl ?_
     obtain ⟨r_51,hr_51,h⟩:=bE h
     refine ExO.callL [] [.agg (flat (r_50.map AV.bool))] rfl rfl (by simp; try rfl) rfl rfl (d_band_night_sleep N r_50 r_51 hr_51) (b_band_night_sleep _ _ _ _) rfl ?_
     refine rn 5 [3,6,8,28,29,30] (mkS 46 [(3,.ptr 1 0),(6,i6 x_49),(8,i6 r_51.2),(28,.sl (q_1.requests_.city_.Sleep.map (AV.int .i64)) none),(29,i6 ((q_1.requests_.city_.Sleep.length : Nat) : Int)),(30,i6 y_44)]) ⟨[(C_band_request q_1),[.sl (b_11.map A_band_tour) (some 0)]],[(b_11.length,7)]⟩ ?_
     refine ExO.nil ?_
     refine Ex.seq (rg 3 [3,28,29,30,44] (mkS 46 [(3,.ptr 1 0),(28,.sl (q_1.requests_.city_.Sleep.map (AV.int .i64)) none),(29,i6 ((q_1.requests_.city_.Sleep.length : Nat) : Int)),(30,i6 y_44),(44,.bool (decide (r_51.2 < x_49)))]) ⟨[(C_band_request q_1),[.sl (b_11.map A_band_tour) (some 0)]],[(b_11.length,7)]⟩ ?_)
     rcases condI h with ⟨hc_52,h⟩ | ⟨hc_52,h⟩
     ·refine Ex.condT _ rfl hc_52 ?_
      refine Ex.seq (rg 1 [2] (mkS 46 [(2,i6 11)]) ⟨[(C_band_request q_1),[.sl (b_11.map A_band_tour) (some 0)]],[(b_11.length,7)]⟩ ?_)
      refine Ex.ret ?_
      obtain rfl:=sJ h
      exact rt (i6 11)
     ·refine Ex.condF _ rfl hc_52 ?_
      refine Ex.skip ?_
      refine rg 2 [3,28,29,30] (mkS 46 [(3,.ptr 1 0),(28,.sl (q_1.requests_.city_.Sleep.map (AV.int .i64)) none),(29,i6 ((q_1.requests_.city_.Sleep.length : Nat) : Int)),(30,i6 (IntKind.i64.wrap (y_44 + 1)))]) ⟨[(C_band_request q_1),[.sl (b_11.map A_band_tour) (some 0)]],[(b_11.length,7)]⟩ ?_
      dsimp only
      exact ⟨_,_,Forgets.refl _ _ _,k,Nat.lt_succ_self k,(IntKind.i64.wrap (y_44 + 1)),h,rfl,rfl⟩
    ·refine Ex.condF _ rfl hc_48 ?_
     refine Ex.exit ?_
     (try simp only [reduceCtorEq,AEx.ex.injEq,Nat.reduceEqDiff,if_true,if_false])
     exact ⟨_,_,forgetA (m:=46) 0 [] [] [] [] (by simp [setAll]) (by simp) trivial (by simp) rfl (by decide),h,rfl,rfl⟩
  ·rintro a S ⟨h,rfl,rfl⟩
   subst hK_43
   refine Ex.seq (rg 1 [2] (mkS 46 [(2,i6 0)]) ⟨[],[]⟩ ?_)
   refine Ex.ret ?_
   obtain rfl:=sJ h
   exact rt (i6 0)
def p_band_firstOf_band_request_clash_band_request_throng_band_request_noise (N : Nat) (a_1 : T_band_request) (a_2 : T_band_request) (a_3 : T_band_request) : Option (Int):=(letJ (fun (_ : Unit) => some 0) (fun k_4 => ((p_band_request_clash N a_1).bind fun r_7 => (bif (r_7 != 0) then some r_7 else ((p_band_request_throng N a_2).bind fun r_9 => (bif (r_9 != 0) then some r_9 else ((p_band_request_noise N a_3).bind fun r_11 => (bif (r_11 != 0) then some r_11 else (k_4 ())))))))))
def v_band_firstOf_band_request_clash_band_request_throng_band_request_noise (r : Int) : AV:=i6 r
attribute [local simp] v_band_firstOf_band_request_clash_band_request_throng_band_request_noise
theorem b_band_firstOf_band_request_clash_band_request_throng_band_request_noise (r : Int) (n n2 m : Nat) : back n n2 m (v_band_firstOf_band_request_clash_band_request_throng_band_request_noise r) = some (v_band_firstOf_band_request_clash_band_request_throng_band_request_noise r):=by simp
theorem d_band_firstOf_band_request_clash_band_request_throng_band_request_noise (N : Nat) (a_1 : T_band_request) (a_2 : T_band_request) (a_3 : T_band_request) (r : Int) (h : p_band_firstOf_band_request_clash_band_request_throng_band_request_noise N a_1 a_2 a_3 = some r) : Does Tryd.prog 98 [.sl [.fn 99 [(A_band_request a_1)] [],.fn 100 [(A_band_request a_2)] [],.fn 101 [(A_band_request a_3)] []] none] [] fun v c => v = v_band_firstOf_band_request_clash_band_request_throng_band_request_noise r ∧ c = []:=by
 unfold p_band_firstOf_band_request_clash_band_request_throng_band_request_noise at h
 refine Does.ofL comp98 _ _ rfl rfl ?_
 refine Ex.seq (rg 1 [0] (mkS 18 [(0,.sl [.fn 99 [(A_band_request a_1)] [],.fn 100 [(A_band_request a_2)] [],.fn 101 [(A_band_request a_3)] []] none)]) ⟨[],[]⟩ ?_)
 refine Ex.seq (Ex.seq ?_)
 refine rg 3 [6,7,8] (mkS 18 [(6,.sl [.fn 99 [(A_band_request a_1)] [],.fn 100 [(A_band_request a_2)] [],.fn 101 [(A_band_request a_3)] []] none),(7,i6 3),(8,i6 0)]) ⟨[],[]⟩ ?_
 obtain ⟨K_5,hK_6,h⟩:=letE h
 refine Ex.blockJ (fun a S => K_5 () = some r ∧ a = mkS 18 [] ∧ S = ⟨[],[]⟩) ?_ ?_
 ·refine Ex.unroll 32 ?_
  refine Unr.step ?_
  refine Ex.seq (rg 1 [6,7,8,9] (mkS 18 [(6,.sl [.fn 99 [(A_band_request a_1)] [],.fn 100 [(A_band_request a_2)] [],.fn 101 [(A_band_request a_3)] []] none),(7,i6 3),(8,i6 0),(9,.bool true)]) ⟨[],[]⟩ ?_)
  refine Ex.seq ?_
  refine Ex.cond (b:=true) rfl ?_
  refine Ex.skip ?_
  refine Ex.seq ?_
  refine Ex.blockK ?_
  refine Ex.seq (rg 3 [4,6,7,8] (mkS 18 [(4,.fn 99 [(A_band_request a_1)] []),(6,.sl [.fn 99 [(A_band_request a_1)] [],.fn 100 [(A_band_request a_2)] [],.fn 101 [(A_band_request a_3)] []] none),(7,i6 3),(8,i6 0)]) ⟨[],[]⟩ ?_)
  refine Ex.seq ?_
  obtain ⟨r_7,hr_7,h⟩:=bE h
  refine Ex.reg (rn 1 [6,7,8,12] (mkS 18 [(6,.sl [.fn 99 [(A_band_request a_1)] [],.fn 100 [(A_band_request a_2)] [],.fn 101 [(A_band_request a_3)] []] none),(7,i6 3),(8,i6 0),(12,.fn 99 [(A_band_request a_1)] [])]) ⟨[],[]⟩ ?_)
  refine ExO.callL [] [(A_band_request a_1)] rfl rfl (a_band_request_clash a_1) rfl rfl (d_band_request_clash N a_1 r_7 hr_7) (b_band_request_clash _ _ _ _) rfl ?_
  refine rn 1 [5,6,7,8] (mkS 18 [(5,i6 r_7),(6,.sl [.fn 99 [(A_band_request a_1)] [],.fn 100 [(A_band_request a_2)] [],.fn 101 [(A_band_request a_3)] []] none),(7,i6 3),(8,i6 0)]) ⟨[],[]⟩ ?_
  refine ExO.nil ?_
  refine Ex.seq (rg 2 [5,6,7,8,15] (mkS 18 [(5,i6 r_7),(6,.sl [.fn 99 [(A_band_request a_1)] [],.fn 100 [(A_band_request a_2)] [],.fn 101 [(A_band_request a_3)] []] none),(7,i6 3),(8,i6 0),(15,.bool (r_7 != 0))]) ⟨[],[]⟩ ?_)
  rcases condI h with ⟨hc_8,h⟩ | ⟨hc_8,h⟩
  ·refine Ex.condT _ rfl hc_8 ?_
   refine Ex.seq (rg 2 [2] (mkS 18 [(2,i6 r_7)]) ⟨[],[]⟩ ?_)
   refine Ex.ret ?_
   obtain rfl:=sJ h
   exact rt (i6 r_7)
  ·refine Ex.condF _ rfl hc_8 ?_
   refine Ex.skip ?_
   refine rg 2 [6,7,8] (mkS 18 [(6,.sl [.fn 99 [(A_band_request a_1)] [],.fn 100 [(A_band_request a_2)] [],.fn 101 [(A_band_request a_3)] []] none),(7,i6 3),(8,i6 1)]) ⟨[],[]⟩ ?_
   dsimp only
   refine Unr.step ?_
   refine Ex.seq (rg 1 [6,7,8,9] (mkS 18 [(6,.sl [.fn 99 [(A_band_request a_1)] [],.fn 100 [(A_band_request a_2)] [],.fn 101 [(A_band_request a_3)] []] none),(7,i6 3),(8,i6 1),(9,.bool true)]) ⟨[],[]⟩ ?_)
   refine Ex.seq ?_
   refine Ex.cond (b:=true) rfl ?_
   refine Ex.skip ?_
   refine Ex.seq ?_
   refine Ex.blockK ?_
   refine Ex.seq (rg 3 [4,6,7,8] (mkS 18 [(4,.fn 100 [(A_band_request a_2)] []),(6,.sl [.fn 99 [(A_band_request a_1)] [],.fn 100 [(A_band_request a_2)] [],.fn 101 [(A_band_request a_3)] []] none),(7,i6 3),(8,i6 1)]) ⟨[],[]⟩ ?_)
   refine Ex.seq ?_
   obtain ⟨r_9,hr_9,h⟩:=bE h
   refine Ex.reg (rn 1 [6,7,8,12] (mkS 18 [(6,.sl [.fn 99 [(A_band_request a_1)] [],.fn 100 [(A_band_request a_2)] [],.fn 101 [(A_band_request a_3)] []] none),(7,i6 3),(8,i6 1),(12,.fn 100 [(A_band_request a_2)] [])]) ⟨[],[]⟩ ?_)
   refine ExO.callL [] [(A_band_request a_2)] rfl rfl (a_band_request_throng a_2) rfl rfl (d_band_request_throng N a_2 r_9 hr_9) (b_band_request_throng _ _ _ _) rfl ?_
   refine rn 1 [5,6,7,8] (mkS 18 [(5,i6 r_9),(6,.sl [.fn 99 [(A_band_request a_1)] [],.fn 100 [(A_band_request a_2)] [],.fn 101 [(A_band_request a_3)] []] none),(7,i6 3),(8,i6 1)]) ⟨[],[]⟩ ?_
   refine ExO.nil ?_
   refine Ex.seq (rg 2 [5,6,7,8,15] (mkS 18 [(5,i6 r_9),(6,.sl [.fn 99 [(A_band_request a_1)] [],.fn 100 [(A_band_request a_2)] [],.fn 101 [(A_band_request a_3)] []] none),(7,i6 3),(8,i6 1),(15,.bool (r_9 != 0))]) ⟨[],[]⟩ ?_)
   rcases condI h with ⟨hc_10,h⟩ | ⟨hc_10,h⟩
   ·refine Ex.condT _ rfl hc_10 ?_
    refine Ex.seq (rg 2 [2] (mkS 18 [(2,i6 r_9)]) ⟨[],[]⟩ ?_)
    refine Ex.ret ?_
    obtain rfl:=sJ h
    exact rt (i6 r_9)
   ·refine Ex.condF _ rfl hc_10 ?_
    refine Ex.skip ?_
    refine rg 2 [6,7,8] (mkS 18 [(6,.sl [.fn 99 [(A_band_request a_1)] [],.fn 100 [(A_band_request a_2)] [],.fn 101 [(A_band_request a_3)] []] none),(7,i6 3),(8,i6 2)]) ⟨[],[]⟩ ?_
    dsimp only
    refine Unr.step ?_
    refine Ex.seq (rg 1 [6,7,8,9] (mkS 18 [(6,.sl [.fn 99 [(A_band_request a_1)] [],.fn 100 [(A_band_request a_2)] [],.fn 101 [(A_band_request a_3)] []] none),(7,i6 3),(8,i6 2),(9,.bool true)]) ⟨[],[]⟩ ?_)
    refine Ex.seq ?_
    refine Ex.cond (b:=true) rfl ?_
    refine Ex.skip ?_
    refine Ex.seq ?_
    refine Ex.blockK ?_
    refine Ex.seq (rg 3 [4,6,7,8] (mkS 18 [(4,.fn 101 [(A_band_request a_3)] []),(6,.sl [.fn 99 [(A_band_request a_1)] [],.fn 100 [(A_band_request a_2)] [],.fn 101 [(A_band_request a_3)] []] none),(7,i6 3),(8,i6 2)]) ⟨[],[]⟩ ?_)
    refine Ex.seq ?_
    obtain ⟨r_11,hr_11,h⟩:=bE h
    refine Ex.reg (rn 1 [6,7,8,12] (mkS 18 [(6,.sl [.fn 99 [(A_band_request a_1)] [],.fn 100 [(A_band_request a_2)] [],.fn 101 [(A_band_request a_3)] []] none),(7,i6 3),(8,i6 2),(12,.fn 101 [(A_band_request a_3)] [])]) ⟨[],[]⟩ ?_)
    refine ExO.callL [] [(A_band_request a_3)] rfl rfl (a_band_request_noise a_3) rfl rfl (d_band_request_noise N a_3 r_11 hr_11) (b_band_request_noise _ _ _ _) rfl ?_
    refine rn 1 [5,6,7,8] (mkS 18 [(5,i6 r_11),(6,.sl [.fn 99 [(A_band_request a_1)] [],.fn 100 [(A_band_request a_2)] [],.fn 101 [(A_band_request a_3)] []] none),(7,i6 3),(8,i6 2)]) ⟨[],[]⟩ ?_
    refine ExO.nil ?_
    refine Ex.seq (rg 2 [5,6,7,8,15] (mkS 18 [(5,i6 r_11),(6,.sl [.fn 99 [(A_band_request a_1)] [],.fn 100 [(A_band_request a_2)] [],.fn 101 [(A_band_request a_3)] []] none),(7,i6 3),(8,i6 2),(15,.bool (r_11 != 0))]) ⟨[],[]⟩ ?_)
    rcases condI h with ⟨hc_12,h⟩ | ⟨hc_12,h⟩
    ·refine Ex.condT _ rfl hc_12 ?_
     refine Ex.seq (rg 2 [2] (mkS 18 [(2,i6 r_11)]) ⟨[],[]⟩ ?_)
     refine Ex.ret ?_
     obtain rfl:=sJ h
     exact rt (i6 r_11)
    ·refine Ex.condF _ rfl hc_12 ?_
     refine Ex.skip ?_
     refine rg 2 [6,7,8] (mkS 18 [(6,.sl [.fn 99 [(A_band_request a_1)] [],.fn 100 [(A_band_request a_2)] [],.fn 101 [(A_band_request a_3)] []] none),(7,i6 3),(8,i6 3)]) ⟨[],[]⟩ ?_
     dsimp only
     refine Unr.step ?_
     refine Ex.seq (rg 1 [6,7,8,9] (mkS 18 [(6,.sl [.fn 99 [(A_band_request a_1)] [],.fn 100 [(A_band_request a_2)] [],.fn 101 [(A_band_request a_3)] []] none),(7,i6 3),(8,i6 3),(9,.bool false)]) ⟨[],[]⟩ ?_)
     refine Ex.seq ?_
     refine Ex.cond (b:=false) rfl ?_
     refine Ex.exit ?_
     (try simp only [reduceCtorEq,AEx.ex.injEq,Nat.reduceEqDiff,if_true,if_false])
     exact ⟨_,_,forgetK [],h,rfl,rfl⟩
 ·rintro a S ⟨h,rfl,rfl⟩
  subst hK_6
  refine Ex.seq (rg 1 [2] (mkS 18 [(2,i6 0)]) ⟨[],[]⟩ ?_)
  refine Ex.ret ?_
  obtain rfl:=sJ h
  exact rt (i6 0)
def p_band_requests_wrong (N : Nat) (r_1 : T_band_requests) (band_2 : Int) (granted_3 : Int) : Option (Int):=((p_band_firstOf_band_request_clash_band_request_throng_band_request_noise N (⟨r_1,band_2,granted_3⟩ : T_band_request) (⟨r_1,band_2,granted_3⟩ : T_band_request) (⟨r_1,band_2,granted_3⟩ : T_band_request)).bind fun r_4 => some r_4)
def v_band_requests_wrong (r : Int) : AV:=i6 r
attribute [local simp] v_band_requests_wrong
theorem a_band_requests_wrong (r_1 : T_band_requests) (band_2 : Int) (granted_3 : Int) : [(A_band_requests r_1),i6 band_2,.int .u64 granted_3].mapM (ren []) = some [(A_band_requests r_1),i6 band_2,.int .u64 granted_3]:=by simp
theorem b_band_requests_wrong (r : Int) (n n2 m : Nat) : back n n2 m (v_band_requests_wrong r) = some (v_band_requests_wrong r):=by simp
theorem d_band_requests_wrong (N : Nat) (r_1 : T_band_requests) (band_2 : Int) (granted_3 : Int) (r : Int) (h : p_band_requests_wrong N r_1 band_2 granted_3 = some r) : Does Tryd.prog 78 [(A_band_requests r_1),i6 band_2,.int .u64 granted_3] [] fun v c => v = v_band_requests_wrong r ∧ c = []:=by
 unfold p_band_requests_wrong at h
 refine Does.ofL comp78 _ _ rfl rfl ?_
 refine Ex.seq (rg 2 [1,2,3] (mkS 20 [(1,i6 band_2),(2,.int .u64 granted_3),(3,.ptr 0 0)]) ⟨[(C_band_requests r_1)],[]⟩ ?_)
 refine Ex.seq (rg 6 [7] (mkS 20 [(7,.ptr 1 0)]) ⟨[(C_band_requests r_1),[.sl (r_1.city_.Town.Rooms.map (AV.int .i64)) none,.sl (r_1.city_.Town.Streets.map A_Street) none,.sl (r_1.city_.Town.Groups.map A_Group) none,i6 r_1.city_.Town.Steps,i6 r_1.city_.Break,.sl (r_1.city_.Sleep.map (AV.int .i64)) none,.sl (r_1.tours_.map A_band_tour) none,.sl (r_1.crosses_.map (AV.int .u64)) none,i6 band_2,.int .u64 granted_3]],[]⟩ ?_)
 refine Ex.seq ?_
 obtain ⟨r_4,hr_4,h⟩:=bE h
 refine Ex.reg (rn 7 [18] (mkS 20 [(18,.sl [.fn 99 [.agg [.sl (r_1.city_.Town.Rooms.map (AV.int .i64)) none,.sl (r_1.city_.Town.Streets.map A_Street) none,.sl (r_1.city_.Town.Groups.map A_Group) none,i6 r_1.city_.Town.Steps,i6 r_1.city_.Break,.sl (r_1.city_.Sleep.map (AV.int .i64)) none,.sl (r_1.tours_.map A_band_tour) none,.sl (r_1.crosses_.map (AV.int .u64)) none,i6 band_2,.int .u64 granted_3]] [],.fn 100 [.agg [.sl (r_1.city_.Town.Rooms.map (AV.int .i64)) none,.sl (r_1.city_.Town.Streets.map A_Street) none,.sl (r_1.city_.Town.Groups.map A_Group) none,i6 r_1.city_.Town.Steps,i6 r_1.city_.Break,.sl (r_1.city_.Sleep.map (AV.int .i64)) none,.sl (r_1.tours_.map A_band_tour) none,.sl (r_1.crosses_.map (AV.int .u64)) none,i6 band_2,.int .u64 granted_3]] [],.fn 101 [.agg [.sl (r_1.city_.Town.Rooms.map (AV.int .i64)) none,.sl (r_1.city_.Town.Streets.map A_Street) none,.sl (r_1.city_.Town.Groups.map A_Group) none,i6 r_1.city_.Town.Steps,i6 r_1.city_.Break,.sl (r_1.city_.Sleep.map (AV.int .i64)) none,.sl (r_1.tours_.map A_band_tour) none,.sl (r_1.crosses_.map (AV.int .u64)) none,i6 band_2,.int .u64 granted_3]] []] (some 0))]) ⟨[(C_band_requests r_1),[.sl (r_1.city_.Town.Rooms.map (AV.int .i64)) none,.sl (r_1.city_.Town.Streets.map A_Street) none,.sl (r_1.city_.Town.Groups.map A_Group) none,i6 r_1.city_.Town.Steps,i6 r_1.city_.Break,.sl (r_1.city_.Sleep.map (AV.int .i64)) none,.sl (r_1.tours_.map A_band_tour) none,.sl (r_1.crosses_.map (AV.int .u64)) none,i6 band_2,.int .u64 granted_3]],[(3,1)]⟩ ?_)
 refine ExO.callL [] [.sl [.fn 99 [.agg [.sl (r_1.city_.Town.Rooms.map (AV.int .i64)) none,.sl (r_1.city_.Town.Streets.map A_Street) none,.sl (r_1.city_.Town.Groups.map A_Group) none,i6 r_1.city_.Town.Steps,i6 r_1.city_.Break,.sl (r_1.city_.Sleep.map (AV.int .i64)) none,.sl (r_1.tours_.map A_band_tour) none,.sl (r_1.crosses_.map (AV.int .u64)) none,i6 band_2,.int .u64 granted_3]] [],.fn 100 [.agg [.sl (r_1.city_.Town.Rooms.map (AV.int .i64)) none,.sl (r_1.city_.Town.Streets.map A_Street) none,.sl (r_1.city_.Town.Groups.map A_Group) none,i6 r_1.city_.Town.Steps,i6 r_1.city_.Break,.sl (r_1.city_.Sleep.map (AV.int .i64)) none,.sl (r_1.tours_.map A_band_tour) none,.sl (r_1.crosses_.map (AV.int .u64)) none,i6 band_2,.int .u64 granted_3]] [],.fn 101 [.agg [.sl (r_1.city_.Town.Rooms.map (AV.int .i64)) none,.sl (r_1.city_.Town.Streets.map A_Street) none,.sl (r_1.city_.Town.Groups.map A_Group) none,i6 r_1.city_.Town.Steps,i6 r_1.city_.Break,.sl (r_1.city_.Sleep.map (AV.int .i64)) none,.sl (r_1.tours_.map A_band_tour) none,.sl (r_1.crosses_.map (AV.int .u64)) none,i6 band_2,.int .u64 granted_3]] []] (some 0)] rfl rfl (by simp; try rfl) rfl rfl (d_band_firstOf_band_request_clash_band_request_throng_band_request_noise N (⟨r_1,band_2,granted_3⟩ : T_band_request) (⟨r_1,band_2,granted_3⟩ : T_band_request) (⟨r_1,band_2,granted_3⟩ : T_band_request) r_4 hr_4) (b_band_firstOf_band_request_clash_band_request_throng_band_request_noise _ _ _ _) rfl ?_
 refine rn 1 [6] (mkS 20 [(6,i6 r_4)]) ⟨[(C_band_requests r_1),[.sl (r_1.city_.Town.Rooms.map (AV.int .i64)) none,.sl (r_1.city_.Town.Streets.map A_Street) none,.sl (r_1.city_.Town.Groups.map A_Group) none,i6 r_1.city_.Town.Steps,i6 r_1.city_.Break,.sl (r_1.city_.Sleep.map (AV.int .i64)) none,.sl (r_1.tours_.map A_band_tour) none,.sl (r_1.crosses_.map (AV.int .u64)) none,i6 band_2,.int .u64 granted_3]],[(3,1)]⟩ ?_
 refine ExO.nil ?_
 refine Ex.ret ?_
 obtain rfl:=sJ h
 exact rt (i6 r_4)
def p_band_Grant (N : Nat) (c_1 : T_City) (l_2 : (List T_Band)) : Option ((List Int) × Int):=((p_band_toursOf N c_1 l_2).bind fun r_3 => (bif (r_3.2 != 0) then some ([],r_3.2) else ((p_band_requestsOf N c_1 r_3.1).bind fun r_5 => (letJ (fun (answers_6 : List Int) => some (answers_6,0)) (fun k_7 => (loop3 (fun rec_13 (granted_10 : Int) (answers_11 : List Int) (y_12 : Int) => (bif (decide (y_12 < ((r_3.1.length : Nat) : Int))) then (letJ (fun (granted_17 : Int) (answers_18 : List Int) => (rec_13 granted_17 answers_18 (IntKind.i64.wrap (y_12 + 1)))) (fun k_19 => ((p_band_requests_wrong N r_5 y_12 granted_10).bind fun r_22 => (bif (r_22 == 0) then ((p_band_choice_with N granted_10 y_12).bind fun r_24 => ((pushI answers_11 ([r_22] : List Int)).bind fun l_25 => (k_19 r_24 l_25))) else ((pushI answers_11 ([r_22] : List Int)).bind fun l_26 => (k_19 granted_10 l_26)))))) else (k_7 answers_11))) N 0 [] 0))))))
def v_band_Grant (r : (List Int) × Int) : AV:=.tup [.sl (r.1.map (AV.int .i64)) none,i6 r.2]
attribute [local simp] v_band_Grant
theorem a_band_Grant (c_1 : T_City) (l_2 : (List T_Band)) : [(A_City c_1),.sl (l_2.map A_Band) none].mapM (ren []) = some [(A_City c_1),.sl (l_2.map A_Band) none]:=by simp
theorem b_band_Grant (r : (List Int) × Int) (n n2 m : Nat) : back n n2 m (v_band_Grant r) = some (v_band_Grant r):=by simp
theorem d_band_Grant (N : Nat) (c_1 : T_City) (l_2 : (List T_Band)) (r : (List Int) × Int) (h : p_band_Grant N c_1 l_2 = some r) : Does Tryd.prog 39 [(A_City c_1),.sl (l_2.map A_Band) none] [] fun v c => v = v_band_Grant r ∧ c = []:=by
 unfold p_band_Grant at h
 refine Does.ofL comp39 _ _ rfl rfl ?_
 refine Ex.seq (rg 3 [1,2] (mkS 45 [(1,.sl (l_2.map A_Band) none),(2,.ptr 0 0)]) ⟨[(C_City c_1)],[]⟩ ?_)
 refine Ex.seq ?_
 obtain ⟨r_3,hr_3,h⟩:=bE h
 refine Ex.reg (rn 2 [2,14,15] (mkS 45 [(2,.ptr 0 0),(14,(A_City c_1)),(15,.sl (l_2.map A_Band) none)]) ⟨[(C_City c_1)],[]⟩ ?_)
 refine ExO.callL [] [(A_City c_1),.sl (l_2.map A_Band) none] rfl rfl (a_band_toursOf c_1 l_2) rfl rfl (d_band_toursOf N c_1 l_2 r_3 hr_3) (b_band_toursOf _ _ _ _) rfl ?_
 refine rn 5 [2,6,7] (mkS 45 [(2,.ptr 0 0),(6,.sl (r_3.1.map A_band_tour) none),(7,i6 r_3.2)]) ⟨[(C_City c_1)],[]⟩ ?_
 refine ExO.nil ?_
 refine Ex.seq (Ex.seq ?_)
 refine rg 2 [2,6,7,20] (mkS 45 [(2,.ptr 0 0),(6,.sl (r_3.1.map A_band_tour) none),(7,i6 r_3.2),(20,.bool (r_3.2 != 0))]) ⟨[(C_City c_1)],[]⟩ ?_
 rcases condI h with ⟨hc_4,h⟩ | ⟨hc_4,h⟩
 ·refine Ex.condT _ rfl hc_4 ?_
  refine Ex.seq (rg 3 [4,5] (mkS 45 [(4,.nils),(5,i6 r_3.2)]) ⟨[(C_City c_1)],[]⟩ ?_)
  refine Ex.ret ?_
  obtain rfl:=sJ h
  exact rt (.tup [.nils,i6 r_3.2])
 ·refine Ex.condF _ rfl hc_4 ?_
  refine Ex.skip ?_
  refine Ex.seq ?_
  obtain ⟨r_5,hr_5,h⟩:=bE h
  refine Ex.reg (rn 2 [6,22,23] (mkS 45 [(6,.sl (r_3.1.map A_band_tour) none),(22,(A_City c_1)),(23,.sl (r_3.1.map A_band_tour) none)]) ⟨[(C_City c_1)],[]⟩ ?_)
  refine ExO.callL [] [(A_City c_1),.sl (r_3.1.map A_band_tour) none] rfl rfl (a_band_requestsOf c_1 r_3.1) rfl rfl (d_band_requestsOf N c_1 r_3.1 r_5 hr_5) (b_band_requestsOf _ _ _ _) rfl ?_
  refine rn 2 [6,8] (mkS 45 [(6,.sl (r_3.1.map A_band_tour) none),(8,.ptr 1 0)]) ⟨[(C_City c_1),(C_band_requests r_5)],[]⟩ ?_
  refine ExO.nil ?_
  refine Ex.seq (rg 1 [6,8,9] (mkS 45 [(6,.sl (r_3.1.map A_band_tour) none),(8,.ptr 1 0),(9,.int .u64 0)]) ⟨[(C_City c_1),(C_band_requests r_5)],[]⟩ ?_)
  refine Ex.seq (rg 1 [6,8,9,10] (mkS 45 [(6,.sl (r_3.1.map A_band_tour) none),(8,.ptr 1 0),(9,.int .u64 0),(10,.nils)]) ⟨[(C_City c_1),(C_band_requests r_5)],[]⟩ ?_)
  refine Ex.seq (Ex.seq ?_)
  refine regH 3 [(1,.eq (i6 ((r_3.1.length : Nat) : Int)))] [8,9,10,26,27] [AV.int .i64 (((r_3.1.map A_band_tour).length : Nat) : Int) = AV.int .i64 ((r_3.1.length : Nat) : Int)] (mkS 45 [(8,.ptr 1 0),(9,.int .u64 0),(10,.nils),(26,i6 ((r_3.1.length : Nat) : Int)),(27,i6 0)]) (⟨[(C_City c_1),(C_band_requests r_5)],[]⟩) (by kernel_rfl) ⟨lenM _ _,trivial⟩ rfl ?_
  obtain ⟨K_8,hK_9,h⟩:=letE h
  refine Ex.blockJ (fun a S => ∃ (answers_6 : List Int),K_8 answers_6 = some r ∧ a = mkS 45 [(10,.sl (answers_6.map (AV.int .i64)) (some 0))] ∧ S = ⟨[],[(answers_6.length,1)]⟩) ?_ ?_
  ·refine Ex.forget (nilK 10 1 rfl) ?_
   refine Ex.castA (a2:=mkS 45 [(8,.ptr 1 0),(9,.int .u64 0),(10,.sl (([] : List Int).map (AV.int .i64)) (some 0)),(26,i6 ((r_3.1.length : Nat) : Int)),(27,i6 0)]) (S2:=⟨[(C_City c_1),(C_band_requests r_5)],[(0,1)]⟩) (by kernel_rfl) (by kernel_rfl) ?_
   obtain ⟨B_14,hB_15,h⟩:=loop3I h
   refine Ex.loopF (fun k a S => ∃ (granted_10 : Int),∃ (answers_11 : List Int),∃ (y_12 : Int),loop3 B_14 k granted_10 answers_11 y_12 = some r ∧ a = mkS 45 [(8,.ptr 1 0),(9,.int .u64 granted_10),(10,.sl (answers_11.map (AV.int .i64)) (some 0)),(26,i6 ((r_3.1.length : Nat) : Int)),(27,i6 y_12)] ∧ S = ⟨[(C_City c_1),(C_band_requests r_5)],[(answers_11.length,1)]⟩) N ⟨_,_,Forgets.refl _ _ _,0,[],0,h,rfl,rfl⟩ ?_
   rintro k a S ⟨granted_10,answers_11,y_12,h,rfl,rfl⟩
   cases k with
   | zero => exact (loop3Z h).elim
   | succ k =>
    replace h:=loop3S h hB_15
    refine Ex.seq (rg 1 [8,9,10,26,27,28] (mkS 45 [(8,.ptr 1 0),(9,.int .u64 granted_10),(10,.sl (answers_11.map (AV.int .i64)) (some 0)),(26,i6 ((r_3.1.length : Nat) : Int)),(27,i6 y_12),(28,.bool (decide (y_12 < ((r_3.1.length : Nat) : Int))))]) ⟨[(C_City c_1),(C_band_requests r_5)],[(answers_11.length,1)]⟩ ?_)
    refine Ex.seq ?_
    rcases condI h with ⟨hc_16,h⟩ | ⟨hc_16,h⟩
    ·refine Ex.condT _ rfl hc_16 ?_
     refine Ex.skip ?_
     refine Ex.seq ?_
     obtain ⟨K_20,hK_21,h⟩:=letE h
     refine Ex.blockJ (fun a S => ∃ (granted_17 : Int),∃ (answers_18 : List Int),K_20 granted_17 answers_18 = some r ∧ a = mkS 45 [(8,.ptr 1 0),(9,.int .u64 granted_17),(10,.sl (answers_18.map (AV.int .i64)) (some 0)),(26,i6 ((r_3.1.length : Nat) : Int)),(27,i6 y_12)] ∧ S = ⟨[(C_City c_1),(C_band_requests r_5)],[(answers_18.length,1)]⟩) ?_ ?_
     ·refine Ex.seq (rg 2 [8,9,10,11,26,27] (mkS 45 [(8,.ptr 1 0),(9,.int .u64 granted_10),(10,.sl (answers_11.map (AV.int .i64)) (some 0)),(11,i6 y_12),(26,i6 ((r_3.1.length : Nat) : Int)),(27,i6 y_12)]) ⟨[(C_City c_1),(C_band_requests r_5)],[(answers_11.length,1)]⟩ ?_)
      refine Ex.seq ?_
      obtain ⟨r_22,hr_22,h⟩:=bE h
      refine Ex.reg (rn 3 [8,9,10,11,26,27,30,31,32] (mkS 45 [(8,.ptr 1 0),(9,.int .u64 granted_10),(10,.sl (answers_11.map (AV.int .i64)) (some 0)),(11,i6 y_12),(26,i6 ((r_3.1.length : Nat) : Int)),(27,i6 y_12),(30,(A_band_requests r_5)),(31,i6 y_12),(32,.int .u64 granted_10)]) ⟨[(C_City c_1),(C_band_requests r_5)],[(answers_11.length,1)]⟩ ?_)
      refine ExO.callL [] [(A_band_requests r_5),i6 y_12,.int .u64 granted_10] rfl rfl (a_band_requests_wrong r_5 y_12 granted_10) rfl rfl (d_band_requests_wrong N r_5 y_12 granted_10 r_22 hr_22) (b_band_requests_wrong _ _ _ _) rfl ?_
      refine rn 1 [8,9,10,11,12,26,27] (mkS 45 [(8,.ptr 1 0),(9,.int .u64 granted_10),(10,.sl (answers_11.map (AV.int .i64)) (some 0)),(11,i6 y_12),(12,i6 r_22),(26,i6 ((r_3.1.length : Nat) : Int)),(27,i6 y_12)]) ⟨[(C_City c_1),(C_band_requests r_5)],[(answers_11.length,1)]⟩ ?_
      refine ExO.nil ?_
      refine Ex.seq (Ex.seq ?_)
      refine rg 2 [8,9,10,11,12,26,27,35] (mkS 45 [(8,.ptr 1 0),(9,.int .u64 granted_10),(10,.sl (answers_11.map (AV.int .i64)) (some 0)),(11,i6 y_12),(12,i6 r_22),(26,i6 ((r_3.1.length : Nat) : Int)),(27,i6 y_12),(35,.bool (r_22 == 0))]) ⟨[(C_City c_1),(C_band_requests r_5)],[(answers_11.length,1)]⟩ ?_
      rcases condI h with ⟨hc_23,h⟩ | ⟨hc_23,h⟩
      ·refine Ex.condT _ rfl hc_23 ?_
       obtain ⟨r_24,hr_24,h⟩:=bE h
       refine Ex.reg (rn 2 [8,10,12,26,27,36,37] (mkS 45 [(8,.ptr 1 0),(10,.sl (answers_11.map (AV.int .i64)) (some 0)),(12,i6 r_22),(26,i6 ((r_3.1.length : Nat) : Int)),(27,i6 y_12),(36,.int .u64 granted_10),(37,i6 y_12)]) ⟨[(C_City c_1),(C_band_requests r_5)],[(answers_11.length,1)]⟩ ?_)
       refine ExO.callL [] [.int .u64 granted_10,i6 y_12] rfl rfl (a_band_choice_with granted_10 y_12) rfl rfl (d_band_choice_with N granted_10 y_12 r_24 hr_24) (b_band_choice_with _ _ _ _) rfl ?_
       refine rn 1 [8,9,10,12,26,27] (mkS 45 [(8,.ptr 1 0),(9,.int .u64 r_24),(10,.sl (answers_11.map (AV.int .i64)) (some 0)),(12,i6 r_22),(26,i6 ((r_3.1.length : Nat) : Int)),(27,i6 y_12)]) ⟨[(C_City c_1),(C_band_requests r_5)],[(answers_11.length,1)]⟩ ?_
       refine ExO.nil ?_
       obtain ⟨l_25,hl_25,h⟩:=bE h
       refine regH 5 [(3,.app (l_25.map (AV.int .i64)) l_25.length)] [8,9,10,26,27] [LApp answers_11.length (answers_11.map (AV.int .i64)) (([r_22] : List Int).map (AV.int .i64)) 1 (l_25.map (AV.int .i64)) l_25.length] (mkS 45 [(8,.ptr 1 0),(9,.int .u64 r_24),(10,.sl (l_25.map (AV.int .i64)) (some 0)),(26,i6 ((r_3.1.length : Nat) : Int)),(27,i6 y_12)]) (⟨[(C_City c_1),(C_band_requests r_5)],[(l_25.length,1),(1,1)]⟩) (by kernel_rfl) ⟨LApp.of hl_25 (fun _ => rfl),trivial⟩ rfl ?_
       (try simp only [reduceCtorEq,AEx.ex.injEq,Nat.reduceEqDiff,if_true,if_false])
       exact ⟨_,_,forgetA (m:=45) 2 [0] [(8,.ptr 1 0),(9,.int .u64 r_24),(10,.sl (l_25.map (AV.int .i64)) (some 0)),(26,i6 ((r_3.1.length : Nat) : Int)),(27,i6 y_12)] [(C_City c_1),(C_band_requests r_5)] [(l_25.length,1)] (by simp [setAll]) (by simp) ⟨rfl,rfl,(reT (cleanI _ _) rfl),rfl,rfl,trivial⟩ (by simp) rfl (by decide),r_24,l_25,h,rfl,rfl⟩
      ·refine Ex.condF _ rfl hc_23 ?_
       refine Ex.skip ?_
       obtain ⟨l_26,hl_26,h⟩:=bE h
       refine regH 5 [(3,.app (l_26.map (AV.int .i64)) l_26.length)] [8,9,10,26,27] [LApp answers_11.length (answers_11.map (AV.int .i64)) (([r_22] : List Int).map (AV.int .i64)) 1 (l_26.map (AV.int .i64)) l_26.length] (mkS 45 [(8,.ptr 1 0),(9,.int .u64 granted_10),(10,.sl (l_26.map (AV.int .i64)) (some 0)),(26,i6 ((r_3.1.length : Nat) : Int)),(27,i6 y_12)]) (⟨[(C_City c_1),(C_band_requests r_5)],[(l_26.length,1),(1,1)]⟩) (by kernel_rfl) ⟨LApp.of hl_26 (fun _ => rfl),trivial⟩ rfl ?_
       (try simp only [reduceCtorEq,AEx.ex.injEq,Nat.reduceEqDiff,if_true,if_false])
       exact ⟨_,_,forgetA (m:=45) 2 [0] [(8,.ptr 1 0),(9,.int .u64 granted_10),(10,.sl (l_26.map (AV.int .i64)) (some 0)),(26,i6 ((r_3.1.length : Nat) : Int)),(27,i6 y_12)] [(C_City c_1),(C_band_requests r_5)] [(l_26.length,1)] (by simp [setAll]) (by simp) ⟨rfl,rfl,(reT (cleanI _ _) rfl),rfl,rfl,trivial⟩ (by simp) rfl (by decide),granted_10,l_26,h,rfl,rfl⟩
     ·rintro a S ⟨granted_17,answers_18,h,rfl,rfl⟩
      subst hK_21
      refine rg 2 [8,9,10,26,27] (mkS 45 [(8,.ptr 1 0),(9,.int .u64 granted_17),(10,.sl (answers_18.map (AV.int .i64)) (some 0)),(26,i6 ((r_3.1.length : Nat) : Int)),(27,i6 (IntKind.i64.wrap (y_12 + 1)))]) ⟨[(C_City c_1),(C_band_requests r_5)],[(answers_18.length,1)]⟩ ?_
      dsimp only
      exact ⟨_,_,Forgets.refl _ _ _,k,Nat.lt_succ_self k,granted_17,answers_18,(IntKind.i64.wrap (y_12 + 1)),h,rfl,rfl⟩
    ·refine Ex.condF _ rfl hc_16 ?_
     refine Ex.exit ?_
     (try simp only [reduceCtorEq,AEx.ex.injEq,Nat.reduceEqDiff,if_true,if_false])
     exact ⟨_,_,forgetA (m:=45) 0 [0] [(10,.sl (answers_11.map (AV.int .i64)) (some 0))] [] [(answers_11.length,1)] (by simp [setAll]) (by simp) ⟨(reT (cleanI _ _) rfl),trivial⟩ (by simp) rfl (by decide),answers_11,h,rfl,rfl⟩
  ·rintro a S ⟨answers_6,h,rfl,rfl⟩
   subst hK_9
   refine Ex.seq (rg 3 [4,5] (mkS 45 [(4,.sl (answers_6.map (AV.int .i64)) (some 0)),(5,i6 0)]) ⟨[],[(answers_6.length,1)]⟩ ?_)
   refine Ex.ret ?_
   obtain rfl:=sJ h
   exact rt (.tup [.sl (answers_6.map (AV.int .i64)) (some 0),i6 0])
def p_bl7_quarter (N : Nat)  : Option (T_City):=some (⟨(⟨[110,80,50],[(⟨0,1⟩ : T_Street),(⟨1,2⟩ : T_Street),(⟨0,2⟩ : T_Street)],[],6⟩ : T_Town),5,[590,500,0]⟩ : T_City)
def v_bl7_quarter (r : T_City) : AV:=(A_City r)
attribute [local simp] v_bl7_quarter
theorem a_bl7_quarter  : [].mapM (ren []) = some []:=by simp
theorem b_bl7_quarter (r : T_City) (n n2 m : Nat) : back n n2 m (v_bl7_quarter r) = some (v_bl7_quarter r):=by simp
theorem d_bl7_quarter (N : Nat)  (r : T_City) (h : p_bl7_quarter N  = some r) : Does Tryd.prog 50 [] [] fun v c => v = v_bl7_quarter r ∧ c = []:=by
 unfold p_bl7_quarter at h
 refine Does.ofL comp50 _ _ rfl rfl ?_
 refine Ex.seq (rg 1 [0] (mkS 9 [(0,.ptr 0 0)]) ⟨[[.nils,.nils,.nils,i6 0,i6 0,.nils]],[]⟩ ?_)
 refine Ex.seq (rg 9 [0] (mkS 9 [(0,.ptr 0 0)]) ⟨[[.sl (([110,80,50] : List Int).map (AV.int .i64)) (some 0),.sl (([(⟨0,1⟩ : T_Street),(⟨1,2⟩ : T_Street),(⟨0,2⟩ : T_Street)] : List T_Street).map A_Street) (some 1),.nils,i6 6,i6 5,.sl (([590,500,0] : List Int).map (AV.int .i64)) (some 2)]],[(3,1),(3,2),(3,1)]⟩ ?_)
 refine Ex.ret ?_
 obtain rfl:=sJ h
 exact rt (.agg [.sl (([110,80,50] : List Int).map (AV.int .i64)) (some 0),.sl (([(⟨0,1⟩ : T_Street),(⟨1,2⟩ : T_Street),(⟨0,2⟩ : T_Street)] : List T_Street).map A_Street) (some 1),.nils,i6 6,i6 5,.sl (([590,500,0] : List Int).map (AV.int .i64)) (some 2)])
def p_bl7_span (N : Nat) (low_1 : Int) (high_2 : Int) : Option (T_Span):=some (⟨low_1,high_2⟩ : T_Span)
def v_bl7_span (r : T_Span) : AV:=(A_Span r)
attribute [local simp] v_bl7_span
theorem a_bl7_span (low_1 : Int) (high_2 : Int) : [i6 low_1,i6 high_2].mapM (ren []) = some [i6 low_1,i6 high_2]:=by simp
theorem b_bl7_span (r : T_Span) (n n2 m : Nat) : back n n2 m (v_bl7_span r) = some (v_bl7_span r):=by simp
theorem d_bl7_span (N : Nat) (low_1 : Int) (high_2 : Int) (r : T_Span) (h : p_bl7_span N low_1 high_2 = some r) : Does Tryd.prog 83 [i6 low_1,i6 high_2] [] fun v c => v = v_bl7_span r ∧ c = []:=by
 unfold p_bl7_span at h
 refine Does.ofL comp83 _ _ rfl rfl ?_
 refine Ex.seq (rg 1 [0,1,4] (mkS 8 [(0,i6 low_1),(1,i6 high_2),(4,.ptr 0 0)]) ⟨[[i6 0,i6 0]],[]⟩ ?_)
 refine Ex.seq (rg 4 [4] (mkS 8 [(4,.ptr 0 0)]) ⟨[[i6 low_1,i6 high_2]],[]⟩ ?_)
 refine Ex.ret ?_
 obtain rfl:=sJ h
 exact rt (.agg [i6 low_1,i6 high_2])
def p_bl7_bands (N : Nat)  : Option ((List T_Band)):=((p_bl7_span N 100 110).bind fun r_1 => ((p_bl7_span N 120 120).bind fun r_2 => ((p_bl7_span N 300 300).bind fun r_3 => ((p_bl7_span N 650 650).bind fun r_4 => some ([(⟨0,[0,1],r_1,20,50⟩ : T_Band),(⟨2,[1],r_2,30,40⟩ : T_Band),(⟨1,[],r_3,10,90⟩ : T_Band),(⟨0,[],r_4,10,1⟩ : T_Band)])))))
def v_bl7_bands (r : (List T_Band)) : AV:=.sl (r.map A_Band) none
attribute [local simp] v_bl7_bands
theorem a_bl7_bands  : [].mapM (ren []) = some []:=by simp
theorem b_bl7_bands (r : (List T_Band)) (n n2 m : Nat) : back n n2 m (v_bl7_bands r) = some (v_bl7_bands r):=by simp
theorem d_bl7_bands (N : Nat)  (r : (List T_Band)) (h : p_bl7_bands N  = some r) : Does Tryd.prog 51 [] [] fun v c => v = v_bl7_bands r ∧ c = []:=by
 unfold p_bl7_bands at h
 refine Does.ofL comp51 _ _ rfl rfl ?_
 refine Ex.seq (rg 1 [] (mkS 12 []) ⟨[],[]⟩ ?_)
 refine Ex.seq ?_
 refine Ex.postF ?_
 obtain ⟨r_1,hr_1,h⟩:=bE h
 refine Ex.reg (rn 1 [1] (mkS 12 [(1,.sl (([0,1] : List Int).map (AV.int .i64)) (some 0))]) ⟨[],[(2,1)]⟩ ?_)
 refine ExO.callL [] [i6 100,i6 110] rfl rfl (a_bl7_span 100 110) rfl rfl (d_bl7_span N 100 110 r_1 hr_1) (b_bl7_span _ _ _ _) rfl ?_
 obtain ⟨r_2,hr_2,h⟩:=bE h
 refine rn 2 [3,4] (mkS 12 [(3,.agg [i6 0,.sl (([0,1] : List Int).map (AV.int .i64)) (some 0),i6 r_1.Lo,i6 r_1.Hi,i6 20,i6 50]),(4,.sl (([1] : List Int).map (AV.int .i64)) (some 1))]) ⟨[],[(2,1),(1,1)]⟩ ?_
 refine ExO.callL [] [i6 120,i6 120] rfl rfl (a_bl7_span 120 120) rfl rfl (d_bl7_span N 120 120 r_2 hr_2) (b_bl7_span _ _ _ _) rfl ?_
 obtain ⟨r_3,hr_3,h⟩:=bE h
 refine rn 1 [3,6] (mkS 12 [(3,.agg [i6 0,.sl (([0,1] : List Int).map (AV.int .i64)) (some 0),i6 r_1.Lo,i6 r_1.Hi,i6 20,i6 50]),(6,.agg [i6 2,.sl (([1] : List Int).map (AV.int .i64)) (some 1),i6 r_2.Lo,i6 r_2.Hi,i6 30,i6 40])]) ⟨[],[(2,1),(1,1)]⟩ ?_
 refine ExO.callL [] [i6 300,i6 300] rfl rfl (a_bl7_span 300 300) rfl rfl (d_bl7_span N 300 300 r_3 hr_3) (b_bl7_span _ _ _ _) rfl ?_
 obtain ⟨r_4,hr_4,h⟩:=bE h
 refine rn 1 [3,6,8] (mkS 12 [(3,.agg [i6 0,.sl (([0,1] : List Int).map (AV.int .i64)) (some 0),i6 r_1.Lo,i6 r_1.Hi,i6 20,i6 50]),(6,.agg [i6 2,.sl (([1] : List Int).map (AV.int .i64)) (some 1),i6 r_2.Lo,i6 r_2.Hi,i6 30,i6 40]),(8,.agg [i6 1,.nils,i6 r_3.Lo,i6 r_3.Hi,i6 10,i6 90])]) ⟨[],[(2,1),(1,1)]⟩ ?_
 refine ExO.callL [] [i6 650,i6 650] rfl rfl (a_bl7_span 650 650) rfl rfl (d_bl7_span N 650 650 r_4 hr_4) (b_bl7_span _ _ _ _) rfl ?_
 refine rn 3 [0] (mkS 12 [(0,.sl [.agg [i6 0,.sl (([0,1] : List Int).map (AV.int .i64)) (some 0),i6 r_1.Lo,i6 r_1.Hi,i6 20,i6 50],.agg [i6 2,.sl (([1] : List Int).map (AV.int .i64)) (some 1),i6 r_2.Lo,i6 r_2.Hi,i6 30,i6 40],.agg [i6 1,.nils,i6 r_3.Lo,i6 r_3.Hi,i6 10,i6 90],.agg [i6 0,.nils,i6 r_4.Lo,i6 r_4.Hi,i6 10,i6 1]] (some 2))]) ⟨[],[(2,1),(1,1),(4,6)]⟩ ?_
 refine ExO.nil ?_
 refine ⟨mkS 12 [(0,.sl (([(⟨0,[0,1],r_1,20,50⟩ : T_Band),(⟨2,[1],r_2,30,40⟩ : T_Band),(⟨1,[],r_3,10,90⟩ : T_Band),(⟨0,[],r_4,10,1⟩ : T_Band)] : List T_Band).map A_Band) (some 2))],⟨[],[(2,1),(1,1),(4,6)]⟩,Forgets.castR (by kernel_rfl) rfl (fadeE 0 [.agg [i6 0,.sl (([0,1] : List Int).map (AV.int .i64)) (some 0),i6 r_1.Lo,i6 r_1.Hi,i6 20,i6 50],.agg [i6 2,.sl (([1] : List Int).map (AV.int .i64)) (some 1),i6 r_2.Lo,i6 r_2.Hi,i6 30,i6 40],.agg [i6 1,.nils,i6 r_3.Lo,i6 r_3.Hi,i6 10,i6 90],.agg [i6 0,.nils,i6 r_4.Lo,i6 r_4.Hi,i6 10,i6 1]] (some 2) rfl),?_⟩
 refine Ex.ret ?_
 obtain rfl:=sJ h
 exact rt (.sl (([(⟨0,[0,1],r_1,20,50⟩ : T_Band),(⟨2,[1],r_2,30,40⟩ : T_Band),(⟨1,[],r_3,10,90⟩ : T_Band),(⟨0,[],r_4,10,1⟩ : T_Band)] : List T_Band).map A_Band) (some 2))
def p_bl7_later (N : Nat) (start_1 : Int) : Option (T_Band):=((p_bl7_bands N).bind fun r_2 => ((getI r_2 1).bind fun x_3 => ((p_bl7_span N start_1 start_1).bind fun r_4 => some (⟨x_3.First,x_3.Path,r_4,x_3.Stay,x_3.People⟩ : T_Band))))
def v_bl7_later (r : T_Band) : AV:=(A_Band r)
attribute [local simp] v_bl7_later
theorem b_bl7_later (r : T_Band) (n n2 m : Nat) : back n n2 m (v_bl7_later r) = some (v_bl7_later r):=by simp
theorem d_bl7_later (N : Nat) (start_1 : Int) (r : T_Band) (h : p_bl7_later N start_1 = some r) : Does Tryd.prog 52 [i6 start_1] [] fun v c => v = v_bl7_later r ∧ c = []:=by
 unfold p_bl7_later at h
 refine Does.ofL comp52 _ _ rfl rfl ?_
 refine Ex.seq (rg 1 [0,2] (mkS 12 [(0,i6 start_1),(2,.ptr 0 0)]) ⟨[[i6 0,.nils,i6 0,i6 0,i6 0,i6 0]],[]⟩ ?_)
 refine Ex.seq ?_
 obtain ⟨r_2,hr_2,h⟩:=bE h
 refine Ex.reg ?_
 refine ExO.callL [] [] rfl rfl (a_bl7_bands) rfl rfl (d_bl7_bands N r_2 hr_2) (b_bl7_bands _ _ _ _) rfl ?_
 obtain ⟨x_3,hx_3,h⟩:=bE h
 refine runH 4 [(0,.rop (C_Band x_3))] [0,2,3] [LGet (r_2.map A_Band) 1 6 (C_Band x_3)] (mkS 12 [(0,i6 start_1),(2,.ptr 0 0),(3,.ptr 1 0)]) (⟨[[i6 0,.nils,i6 0,i6 0,i6 0,i6 0],(C_Band x_3)],[]⟩) (by kernel_rfl) ⟨LGet.of hx_3 rfl,trivial⟩ ?_
 refine ExO.nil ?_
 refine Ex.seq ?_
 obtain ⟨r_4,hr_4,h⟩:=bE h
 refine Ex.reg (rn 2 [2,3,7,8] (mkS 12 [(2,.ptr 0 0),(3,.ptr 1 0),(7,i6 start_1),(8,i6 start_1)]) ⟨[[i6 0,.nils,i6 0,i6 0,i6 0,i6 0],(C_Band x_3)],[]⟩ ?_)
 refine ExO.callL [] [i6 start_1,i6 start_1] rfl rfl (a_bl7_span start_1 start_1) rfl rfl (d_bl7_span N start_1 start_1 r_4 hr_4) (b_bl7_span _ _ _ _) rfl ?_
 refine rn 2 [2,3] (mkS 12 [(2,.ptr 0 0),(3,.ptr 1 0)]) ⟨[[i6 0,.nils,i6 0,i6 0,i6 0,i6 0],[i6 x_3.First,.sl (x_3.Path.map (AV.int .i64)) none,i6 r_4.Lo,i6 r_4.Hi,i6 x_3.Stay,i6 x_3.People]],[]⟩ ?_
 refine ExO.nil ?_
 refine Ex.seq (rg 2 [2] (mkS 12 [(2,.ptr 0 0)]) ⟨[[i6 x_3.First,.sl (x_3.Path.map (AV.int .i64)) none,i6 r_4.Lo,i6 r_4.Hi,i6 x_3.Stay,i6 x_3.People],[i6 x_3.First,.sl (x_3.Path.map (AV.int .i64)) none,i6 r_4.Lo,i6 r_4.Hi,i6 x_3.Stay,i6 x_3.People]],[]⟩ ?_)
 refine Ex.ret ?_
 obtain rfl:=sJ h
 exact rt (.agg [i6 x_3.First,.sl (x_3.Path.map (AV.int .i64)) none,i6 r_4.Lo,i6 r_4.Hi,i6 x_3.Stay,i6 x_3.People])
def p_bl7_awake (N : Nat)  : Option (Bool):=((p_bl7_quarter N).bind fun r_1 => ((p_bl7_bands N).bind fun r_2 => ((p_band_Grant N r_1 r_2).bind fun r_3 => ((p_bl7_quarter N).bind fun r_4 => ((p_bl7_bands N).bind fun r_5 => ((getI r_5 0).bind fun x_6 => ((p_bl7_later N 60).bind fun r_7 => ((p_band_Cross N r_4 x_6 r_7).bind fun r_8 => ((p_bl7_quarter N).bind fun r_10 => ((p_bl7_bands N).bind fun r_11 => ((partI r_11 0 1).bind fun l_12 => ((p_band_Sleep N r_10 l_12 0).bind fun r_13 => (bif (r_3.2 == 0) then (bif (r_8.2 == 0) then (bif (r_13.2.2 == 0) then ((p_bk_EqErrors N r_3.1 [0,10,13,11]).bind fun r_17 => (bif r_17 then (bif (r_8.1 == 3) then (bif (r_13.1 == 130) then some (r_13.2.1 == 590) else some false) else some false) else some false)) else some false) else some false) else some false)))))))))))))
def v_bl7_awake (r : Bool) : AV:=.bool r
attribute [local simp] v_bl7_awake
theorem a_bl7_awake  : [].mapM (ren []) = some []:=by simp
theorem b_bl7_awake (r : Bool) (n n2 m : Nat) : back n n2 m (v_bl7_awake r) = some (v_bl7_awake r):=by simp
theorem d_bl7_awake (N : Nat)  (r : Bool) (h : p_bl7_awake N  = some r) : Does Tryd.prog 14 [] [] fun v c => v = v_bl7_awake r ∧ c = []:=by
 unfold p_bl7_awake at h
 refine Does.ofL comp14 _ _ rfl rfl ?_
 refine Ex.seq (rg 1 [] (mkS 58 []) ⟨[],[]⟩ ?_)
 refine Ex.seq ?_
 obtain ⟨r_1,hr_1,h⟩:=bE h
 refine Ex.reg ?_
 refine ExO.callL [] [] rfl rfl (a_bl7_quarter) rfl rfl (d_bl7_quarter N r_1 hr_1) (b_bl7_quarter _ _ _ _) rfl ?_
 obtain ⟨r_2,hr_2,h⟩:=bE h
 refine ExO.callL [] [] rfl rfl (a_bl7_bands) rfl rfl (d_bl7_bands N r_2 hr_2) (b_bl7_bands _ _ _ _) rfl ?_
 obtain ⟨r_3,hr_3,h⟩:=bE h
 refine ExO.callL [] [(A_City r_1),.sl (r_2.map A_Band) none] rfl rfl (a_band_Grant r_1 r_2) rfl rfl (d_band_Grant N r_1 r_2 r_3 hr_3) (b_band_Grant _ _ _ _) rfl ?_
 refine rn 5 [1,2] (mkS 58 [(1,.sl (r_3.1.map (AV.int .i64)) none),(2,i6 r_3.2)]) ⟨[],[]⟩ ?_
 refine ExO.nil ?_
 refine Ex.seq ?_
 obtain ⟨r_4,hr_4,h⟩:=bE h
 obtain ⟨r_5,hr_5,h⟩:=bE h
 obtain ⟨x_6,hx_6,h⟩:=bE h
 obtain ⟨r_7,hr_7,h⟩:=bE h
 obtain ⟨r_8,hr_8,h⟩:=bE h
 have hT_9 : DoesA Tryd.prog [⟨50,[],[],(v_bl7_quarter r_4),[]⟩,⟨51,[],[],(v_bl7_bands r_5),[]⟩,⟨52,[i6 60],[],(v_bl7_later r_7),[]⟩,⟨32,[(A_City r_4),(A_Band x_6),(A_Band r_7)],[],(v_band_Cross r_8),[]⟩] ∧ ConsA [⟨50,[],[],(v_bl7_quarter r_4),[]⟩,⟨51,[],[],(v_bl7_bands r_5),[]⟩,⟨52,[i6 60],[],(v_bl7_later r_7),[]⟩,⟨32,[(A_City r_4),(A_Band x_6),(A_Band r_7)],[],(v_band_Cross r_8),[]⟩]:=⟨⟨(d_bl7_quarter N r_4 hr_4),rfl,(d_bl7_bands N r_5 hr_5),rfl,(d_bl7_later N 60 r_7 hr_7),rfl,(d_band_Cross N r_4 x_6 r_7 r_8 hr_8),rfl,trivial⟩,⟨⟨ConsR.ne rfl,ConsR.ne rfl,ConsR.ne rfl,trivial⟩,⟨ConsR.ne rfl,ConsR.ne rfl,trivial⟩,⟨ConsR.ne rfl,trivial⟩,trivial,trivial⟩⟩
 refine Ex.drawE (a1:=mkS 58 [(1,.sl (r_3.1.map (AV.int .i64)) none),(2,i6 r_3.2),(3,i6 r_8.1),(14,.tup [i6 r_8.1,i6 r_8.2]),(15,(A_City r_4)),(16,.sl (r_5.map A_Band) none),(17,.rop (C_Band x_6)),(18,(A_Band x_6)),(19,(A_Band r_7)),(20,.tup [i6 r_8.1,i6 r_8.2]),(21,i6 r_8.1),(22,i6 r_8.2)]) (tabO_ok hT_9.1) [] [] [] ?_ ?_
 ·refine drC hT_9.2 0 _ [] (v_bl7_quarter r_4) rfl rfl rfl rfl rfl (fun _ => rfl) rfl (by simp; try rfl) (fun _ => b_bl7_quarter _ _ _ _) ?_
  refine drC hT_9.2 1 _ [] (v_bl7_bands r_5) rfl rfl rfl rfl rfl (fun _ => rfl) rfl (by simp; try rfl) (fun _ => b_bl7_bands _ _ _ _) ?_
  refine drS [] 2 [(0,.rop (C_Band x_6))] [LGet (r_5.map A_Band) 0 6 (C_Band x_6)] (mkS 58 [(1,.sl (r_3.1.map (AV.int .i64)) none),(2,i6 r_3.2),(15,(A_City r_4)),(16,.sl (r_5.map A_Band) none),(17,.rop (C_Band x_6)),(18,(A_Band x_6))]) (by simp) (by kernel_rfl) ⟨LGet.of hx_6 rfl,trivial⟩ (by kernel_rfl) ?_
  refine drC hT_9.2 2 _ [i6 60] (v_bl7_later r_7) rfl rfl rfl rfl rfl (fun _ => rfl) rfl (by simp; try rfl) (fun _ => b_bl7_later _ _ _ _) ?_
  refine drC hT_9.2 3 _ [(A_City r_4),(A_Band x_6),(A_Band r_7)] (v_band_Cross r_8) rfl rfl rfl rfl rfl (fun _ => rfl) rfl (by simp; try rfl) (fun _ => b_band_Cross _ _ _ _) ?_
  refine drS [] 4 [] [] (mkS 58 [(1,.sl (r_3.1.map (AV.int .i64)) none),(2,i6 r_3.2),(3,i6 r_8.1),(14,.tup [i6 r_8.1,i6 r_8.2]),(15,(A_City r_4)),(16,.sl (r_5.map A_Band) none),(17,.rop (C_Band x_6)),(18,(A_Band x_6)),(19,(A_Band r_7)),(20,.tup [i6 r_8.1,i6 r_8.2]),(21,i6 r_8.1),(22,i6 r_8.2)]) (by simp) (by kernel_rfl) trivial (by kernel_rfl) ?_
  exact DrO.nil rfl
 ·dsimp only [List.getLastD_cons,List.getLastD_nil]
  refine rn 1 [1,2,3,4] (mkS 58 [(1,.sl (r_3.1.map (AV.int .i64)) none),(2,i6 r_3.2),(3,i6 r_8.1),(4,i6 r_8.2)]) ⟨[],[]⟩ ?_
  refine ExO.nil ?_
  refine Ex.seq ?_
  obtain ⟨r_10,hr_10,h⟩:=bE h
  refine Ex.reg ?_
  refine ExO.callL [] [] rfl rfl (a_bl7_quarter) rfl rfl (d_bl7_quarter N r_10 hr_10) (b_bl7_quarter _ _ _ _) rfl ?_
  obtain ⟨r_11,hr_11,h⟩:=bE h
  refine ExO.callL [] [] rfl rfl (a_bl7_bands) rfl rfl (d_bl7_bands N r_11 hr_11) (b_bl7_bands _ _ _ _) rfl ?_
  obtain ⟨l_12,hl_12,h⟩:=bE h
  obtain ⟨r_13,hr_13,h⟩:=bE h
  refine runH 1 [(0,.sc (l_12.map A_Band))] [1,2,3,4,24,26] [LSlc (r_11.map A_Band) none (some 1) 6 (l_12.map A_Band)] (mkS 58 [(1,.sl (r_3.1.map (AV.int .i64)) none),(2,i6 r_3.2),(3,i6 r_8.1),(4,i6 r_8.2),(24,(A_City r_10)),(26,.sl (l_12.map A_Band) none)]) (⟨[],[]⟩) (by kernel_rfl) ⟨partI.ofR (f:=A_Band) (fun _ => rfl) hl_12,trivial⟩ ?_
  refine ExO.callL [] [(A_City r_10),.sl (l_12.map A_Band) none,i6 0] rfl rfl (a_band_Sleep r_10 l_12 0) rfl rfl (d_band_Sleep N r_10 l_12 0 r_13 hr_13) (b_band_Sleep _ _ _ _) rfl ?_
  refine rn 7 [1,2,3,4,5,6,7] (mkS 58 [(1,.sl (r_3.1.map (AV.int .i64)) none),(2,i6 r_3.2),(3,i6 r_8.1),(4,i6 r_8.2),(5,i6 r_13.1),(6,i6 r_13.2.1),(7,i6 r_13.2.2)]) ⟨[],[]⟩ ?_
  refine ExO.nil ?_
  refine Ex.seq ?_
  rcases condI h with ⟨hc_14,h⟩ | ⟨hc_14,h⟩
  ·rcases condI h with ⟨hc_15,h⟩ | ⟨hc_15,h⟩
   ·rcases condI h with ⟨hc_16,h⟩ | ⟨hc_16,h⟩
    ·obtain ⟨r_17,hr_17,h⟩:=bE h
     refine Ex.reg ?_
     refine runH 13 [(2,.eq (.bool true)),(6,.eq (.bool true)),(10,.eq (.bool true))] [3,5,6,41,42,43] [AV.bool (r_3.2 == 0) = AV.bool true,AV.bool (r_8.2 == 0) = AV.bool true,AV.bool (r_13.2.2 == 0) = AV.bool true] (mkS 58 [(3,i6 r_8.1),(5,i6 r_13.1),(6,i6 r_13.2.1),(41,.bool true),(42,.sl (r_3.1.map (AV.int .i64)) none),(43,.sl (([0,10,13,11] : List Int).map (AV.int .i64)) (some 0))]) (⟨[],[(4,1)]⟩) (by kernel_rfl) ⟨congrArg AV.bool hc_14,congrArg AV.bool hc_15,congrArg AV.bool hc_16,trivial⟩ ?_
     refine ExO.callL [] [.sl (r_3.1.map (AV.int .i64)) none,.sl (([0,10,13,11] : List Int).map (AV.int .i64)) (some 0)] rfl rfl (a_bk_EqErrors r_3.1 [0,10,13,11]) rfl rfl (d_bk_EqErrors N r_3.1 [0,10,13,11] r_17 hr_17) (b_bk_EqErrors _ _ _ _) rfl ?_
     rcases condI h with ⟨hc_18,h⟩ | ⟨hc_18,h⟩
     ·rcases condI h with ⟨hc_19,h⟩ | ⟨hc_19,h⟩
      ·rcases condI h with ⟨hc_20,h⟩ | ⟨hc_20,h⟩
       ·refine runH 14 [(1,.eq (.bool true)),(5,.eq (.bool true)),(9,.eq (.bool true))] [0] [AV.bool r_17 = AV.bool true,AV.bool (r_8.1 == 3) = AV.bool true,AV.bool (r_13.1 == 130) = AV.bool true] (mkS 58 [(0,.bool (r_13.2.1 == 590))]) (⟨[],[(4,1)]⟩) (by kernel_rfl) ⟨congrArg AV.bool hc_18,congrArg AV.bool hc_19,congrArg AV.bool hc_20,trivial⟩ ?_
        refine ExO.nil ?_
        refine Ex.ret ?_
        obtain rfl:=sJ h
        exact rt (.bool (r_13.2.1 == 590))
       ·refine runH 14 [(1,.eq (.bool true)),(5,.eq (.bool true)),(9,.eq (.bool false))] [0] [AV.bool r_17 = AV.bool true,AV.bool (r_8.1 == 3) = AV.bool true,AV.bool (r_13.1 == 130) = AV.bool false] (mkS 58 [(0,.bool false)]) (⟨[],[(4,1)]⟩) (by kernel_rfl) ⟨congrArg AV.bool hc_18,congrArg AV.bool hc_19,congrArg AV.bool hc_20,trivial⟩ ?_
        refine ExO.nil ?_
        refine Ex.ret ?_
        obtain rfl:=sJ h
        exact rt (.bool false)
      ·refine runH 14 [(1,.eq (.bool true)),(5,.eq (.bool false))] [0] [AV.bool r_17 = AV.bool true,AV.bool (r_8.1 == 3) = AV.bool false] (mkS 58 [(0,.bool false)]) (⟨[],[(4,1)]⟩) (by kernel_rfl) ⟨congrArg AV.bool hc_18,congrArg AV.bool hc_19,trivial⟩ ?_
       refine ExO.nil ?_
       refine Ex.ret ?_
       obtain rfl:=sJ h
       exact rt (.bool false)
     ·refine runH 14 [(1,.eq (.bool false))] [0] [AV.bool r_17 = AV.bool false] (mkS 58 [(0,.bool false)]) (⟨[],[(4,1)]⟩) (by kernel_rfl) ⟨congrArg AV.bool hc_18,trivial⟩ ?_
      refine ExO.nil ?_
      refine Ex.ret ?_
      obtain rfl:=sJ h
      exact rt (.bool false)
    ·refine regH 28 [(2,.eq (.bool true)),(6,.eq (.bool true)),(10,.eq (.bool false))] [0] [AV.bool (r_3.2 == 0) = AV.bool true,AV.bool (r_8.2 == 0) = AV.bool true,AV.bool (r_13.2.2 == 0) = AV.bool false] (mkS 58 [(0,.bool false)]) (⟨[],[]⟩) (by kernel_rfl) ⟨congrArg AV.bool hc_14,congrArg AV.bool hc_15,congrArg AV.bool hc_16,trivial⟩ rfl ?_
     refine Ex.ret ?_
     obtain rfl:=sJ h
     exact rt (.bool false)
   ·refine regH 28 [(2,.eq (.bool true)),(6,.eq (.bool false))] [0] [AV.bool (r_3.2 == 0) = AV.bool true,AV.bool (r_8.2 == 0) = AV.bool false] (mkS 58 [(0,.bool false)]) (⟨[],[]⟩) (by kernel_rfl) ⟨congrArg AV.bool hc_14,congrArg AV.bool hc_15,trivial⟩ rfl ?_
    refine Ex.ret ?_
    obtain rfl:=sJ h
    exact rt (.bool false)
  ·refine regH 28 [(2,.eq (.bool false))] [0] [AV.bool (r_3.2 == 0) = AV.bool false] (mkS 58 [(0,.bool false)]) (⟨[],[]⟩) (by kernel_rfl) ⟨congrArg AV.bool hc_14,trivial⟩ rfl ?_
   refine Ex.ret ?_
   obtain rfl:=sJ h
   exact rt (.bool false)
end Go.Proofs.YtkchfjblcfbajaaDoor
end
section
namespace Go.Proofs.YtkchfjblcfbajaaDoor
open Go.RowKit

def NW (w : List Bool) (P : Nat → Prop) : Prop:=w.length = 720 ∧ ∀ m : Nat,m < 720 → ∃ b,w[m]? = some b ∧ (b = true ↔ P m)
theorem NW.congr {w : List Bool} {P Q : Nat → Prop} (h : NW w P) (k : ∀ m,m < 720 → (P m ↔ Q m)) : NW w Q :=
 ⟨h.1,fun m hm => by obtain ⟨b,h1,h2⟩:=h.2 m hm; exact ⟨b,h1,h2.trans (k m hm)⟩⟩
theorem with_c (N : Nat) (hN : 1000 < N) (w : List Bool) (P : Nat → Prop) (h : NW w P) (lo hi : Int) (h0 : 0 ≤ lo) (h1 : lo ≤ hi + 1) (h2 : hi ≤ 719) : ∃ w',p_band_night_with N w ⟨lo,hi⟩ = some w' ∧ NW w' (fun m => P m ∨ lo ≤ (m : Int) ∧ (m : Int) ≤ hi):=by
 unfold p_band_night_with
 let T : Option (List Bool) → Prop:=fun x => ∃ w',x = some w' ∧ NW w' (fun m => P m ∨ lo ≤ (m : Int) ∧ (m : Int) ≤ hi)
 show T _
 refine letJ_gen T _ _ (fun K1 hK1 => ?_)
 refine loop2_T T (fun x (w : List Bool) => lo ≤ x ∧ x ≤ hi + 1 ∧ NW w (fun m => P m ∨ lo ≤ (m : Int) ∧ (m : Int) < x)) (fun x w => (hi + 1 - x).toNat) ?_ N lo w ⟨Int.le_refl _,h1,h.congr fun m _ => ⟨.inl,fun hh => hh.elim id fun h => by omega⟩⟩ (by omega)
 rintro rec x w ⟨x0,x1,hw⟩ ih
 by_cases hx : x ≤ hi
 ·rw [dT hx,cond_true]
  have hix : idxI x 720 = some ():=by unfold idxI; rw [if_pos (by omega)]
  obtain ⟨k,rfl⟩ : ∃ k : Nat,x = (k : Int):=⟨x.toNat,by omega⟩
  obtain ⟨b,hb,_⟩:=hw.2 k (by omega)
  have hset : setI w (k : Int) (fun (y : Bool) => true) = some (w.set k true):=by
   unfold setI; rw [Int.toNat_natCast,hb]; rfl
  rw [hix,Option.bind_some,hset,Option.bind_some,w64 (x:=(k : Int) + 1) (by omega) (by omega)]
  refine ih _ _ ⟨by omega,by omega,by rw [List.length_set]; exact hw.1,fun m hm => ?_⟩ (by omega)
  obtain ⟨b',hb',hb2⟩:=hw.2 m hm
  by_cases he : k = m
  ·subst he
   exact ⟨true,by rw [List.getElem?_set_self (by rw [hw.1]; omega)],⟨fun _ => .inr ⟨x0,by omega⟩,fun _ => rfl⟩⟩
  ·refine ⟨b',by rw [List.getElem?_set_ne he]; exact hb',?_⟩
   rw [hb2]
   constructor
   ·rintro (h | h)
    ·exact .inl h
    ·exact .inr ⟨h.1,by omega⟩
   ·rintro (h | h)
    ·exact .inl h
    ·exact .inr ⟨h.1,by omega⟩
 ·rw [dF hx,cond_false,hK1]
  have hl:=hw.1
  have e1 : lenI w 720 = some ():=by unfold lenI; rw [if_pos hl]
  have e2 : len2 (List.replicate 720 false) w 720 = some ():=by unfold len2; rw [if_pos ⟨List.length_replicate,hl⟩]
  dsimp only
  rw [e1,Option.bind_some,e2]
  refine ⟨w,rfl,hw.congr fun m _ => ?_⟩
  constructor
  ·rintro (h | h)
   ·exact .inl h
   ·exact .inr ⟨h.1,by omega⟩
  ·rintro (h | h)
   ·exact .inl h
   ·exact .inr ⟨h.1,by omega⟩
def Heard (t : T_band_tour) (q : Int) (m : Nat) : Prop:=∃ k : Nat,k < t.squares_.length ∧ t.squares_[k]? = some q ∧ t.Band.Start.Lo + (k : Int) * t.Band.Stay ≤ (m : Int) ∧ (m : Int) < t.Band.Start.Hi + (k : Int) * t.Band.Stay + t.Band.Stay
theorem night_c (N : Nat) (hN : 1000 < N) (ts : List T_band_tour) (q : Int) (hl : ts.length ≤ 100) (h : ∀ t ∈ ts,∃ c,GoodT c t) : ∃ w,p_band_nightOf N ts q = some w ∧ NW w (fun m => ∃ t ∈ ts,Heard t q m):=by
 unfold p_band_nightOf
 have e0 : len2 (List.replicate 720 false) (List.replicate 720 false) 720 = some ():=by unfold len2; rw [if_pos ⟨List.length_replicate,List.length_replicate⟩]
 rw [e0,Option.bind_some]
 let T : Option (List Bool) → Prop:=fun x => ∃ w,x = some w ∧ NW w (fun m => ∃ t ∈ ts,Heard t q m)
 show T _
 refine letJ_gen T _ _ (fun K1 hK1 => ?_)
 refine loop2_T T (fun y (w : List Bool) => ∃ j : Nat,y = (j : Int) ∧ j ≤ ts.length ∧ NW w (fun m => ∃ (i : Nat) (t : T_band_tour),i < j ∧ ts[i]? = some t ∧ Heard t q m)) (fun y w => ts.length - y.toNat) ?_ N 0 _ ⟨0,rfl,Nat.zero_le _,List.length_replicate,fun m hm => ⟨false,by rw [List.getElem?_replicate,if_pos hm],⟨fun hh => (by cases hh),fun ⟨i,t,hi,_⟩ => absurd hi (Nat.not_lt_zero _)⟩⟩⟩ (by simp; omega)
 rintro rec y w ⟨j,rfl,hj,hw⟩ ih
 by_cases hjl : j < ts.length
 ·have hx : ts[j]? = some ts[j]:=List.getElem?_eq_getElem hjl
  generalize htj : ts[j] = t at hx
  obtain ⟨c,hg⟩:=h t (List.mem_of_getElem? hx)
  have g0:=hg.s0; have g1:=hg.s1; have g2:=hg.en; have gm:=hg.mul; have gl:=hg.wk.len; have gp:=hg.pl; have y0:=hg.y0; have y1:=hg.y1
  rw [ltD hjl,cond_true,getD_at hx,Option.bind_some]
  have hspan : (⟨t.Band.Start.Lo,t.Band.Start.Hi⟩ : T_Span) = t.Band.Start:=rfl
  have hvs:=visits_c N hN c t hg t.Band.Start.Lo t.Band.Start.Hi (by omega) (by omega) (by omega) (by omega)
  rw [hspan] at hvs
  rw [hvs,Option.bind_some]
  have hvl : (visL t t.Band.Start.Lo t.Band.Start.Hi).length = t.squares_.length:=by simp [visL]
  refine letJ_gen T _ _ (fun K2 hK2 => ?_)
  refine loop2_T T (fun z (w : List Bool) => ∃ k : Nat,z = (k : Int) ∧ k ≤ t.squares_.length ∧ NW w (fun m => (∃ (i : Nat) (t : T_band_tour),i < j ∧ ts[i]? = some t ∧ Heard t q m) ∨ ∃ k' : Nat,k' < k ∧ k' < t.squares_.length ∧ t.squares_[k']? = some q ∧ t.Band.Start.Lo + (k' : Int) * t.Band.Stay ≤ (m : Int) ∧ (m : Int) < t.Band.Start.Hi + (k' : Int) * t.Band.Stay + t.Band.Stay)) (fun z w => t.squares_.length - z.toNat) ?_ N 0 w ⟨0,rfl,Nat.zero_le _,hw.congr fun m _ => ⟨.inl,fun hh => hh.elim id fun ⟨k,hk,_⟩ => absurd hk (Nat.not_lt_zero _)⟩⟩ (by simp; omega)
  rintro rec2 z w2 ⟨k,rfl,hk,hw2⟩ ih2
  rw [hvl]
  by_cases hkl : k < t.squares_.length
  ·rw [ltD hkl,cond_true]
   have hv : (visL t t.Band.Start.Lo t.Band.Start.Hi)[k]? = some (vis t t.Band.Start.Lo t.Band.Start.Hi k):=by simp [visL,hkl]
   simp only [letJ_eq]
   rw [getD_at hv,Option.bind_some,nadd1 k (by omega)]
   have hqk : t.squares_[k]? = some t.squares_[k]:=List.getElem?_eq_getElem hkl
   obtain ⟨m0,m1,m2,m3⟩:=hg.kmul k hkl
   have hsqk : (vis t t.Band.Start.Lo t.Band.Start.Hi k).square_ = t.squares_[k]:=by simp [vis,hqk]
   rw [hsqk]
   by_cases he : t.squares_[k] = q
   ·rw [show (t.squares_[k] == q) = true from by simpa using he,cond_true]
    have e1 : lenI w2 720 = some ():=by unfold lenI; rw [if_pos hw2.1]
    rw [e1,Option.bind_some]
    obtain ⟨w3,e3,hw3⟩:=with_c N hN w2 _ hw2 (t.Band.Start.Lo + (k : Int) * t.Band.Stay) (t.Band.Start.Hi + ((k : Int) + 1) * t.Band.Stay - 1) (by omega) (by omega) (by omega)
    have hsp : (vis t t.Band.Start.Lo t.Band.Start.Hi k).Span = ⟨t.Band.Start.Lo + (k : Int) * t.Band.Stay,t.Band.Start.Hi + ((k : Int) + 1) * t.Band.Stay - 1⟩:=rfl
    rw [hsp,e3,Option.bind_some]
    have e2 : len2 w2 w3 720 = some ():=by unfold len2; rw [if_pos ⟨hw2.1,hw3.1⟩]
    rw [e2,Option.bind_some]
    refine ih2 _ _ ⟨k + 1,rfl,by omega,hw3.congr fun m _ => ?_⟩ (by omega)
    constructor
    ·rintro ((h | ⟨k',h1,h2⟩) | h)
     ·exact .inl h
     ·exact .inr ⟨k',by omega,h2⟩
     ·exact .inr ⟨k,by omega,hkl,by rw [hqk,he],h.1,by omega⟩
    ·rintro (h | ⟨k',h1,h2,h3,h4,h5⟩)
     ·exact .inl (.inl h)
     ·by_cases hkk : k' = k
      ·subst hkk; exact .inr ⟨h4,by omega⟩
      ·exact .inl (.inr ⟨k',by omega,h2,h3,h4,h5⟩)
   ·rw [show (t.squares_[k] == q) = false from by simpa using he,cond_false]
    refine ih2 _ _ ⟨k + 1,rfl,by omega,hw2.congr fun m _ => ?_⟩ (by omega)
    constructor
    ·rintro (h | ⟨k',h1,h2⟩)
     ·exact .inl h
     ·exact .inr ⟨k',by omega,h2⟩
    ·rintro (h | ⟨k',h1,h2,h3,h4⟩)
     ·exact .inl h
     ·by_cases hkk : k' = k
      ·subst hkk; rw [hqk] at h3; exact absurd (Option.some.inj h3) he
      ·exact .inr ⟨k',by omega,h2,h3,h4⟩
  ·have : k = t.squares_.length:=by omega
   subst this
   rw [ltE,cond_false,hK2,nadd1 j (by omega)]
   refine ih _ _ ⟨j + 1,rfl,by omega,hw2.congr fun m _ => ?_⟩ (by omega)
   constructor
   ·rintro (⟨i,t',h1,h2,h3⟩ | ⟨k',h1,h2⟩)
    ·exact ⟨i,t',by omega,h2,h3⟩
    ·exact ⟨j,t,by omega,hx,⟨k',h2⟩⟩
   ·rintro ⟨i,t',h1,h2,h3⟩
    by_cases hij : i = j
    ·subst hij
     rw [hx] at h2; cases h2
     obtain ⟨k',g1,g2⟩:=h3
     exact .inr ⟨k',g1,g1,g2⟩
    ·exact .inl ⟨i,t',by omega,h2,h3⟩
 ·have : j = ts.length:=by omega
  subst this
  rw [ltE,cond_false,hK1]
  have hwl:=hw.1
  have e1 : lenI w 720 = some ():=by unfold lenI; rw [if_pos hwl]
  have e2 : len2 (List.replicate 720 false) w 720 = some ():=by unfold len2; rw [if_pos ⟨List.length_replicate,hwl⟩]
  dsimp only
  rw [e1,Option.bind_some,e2]
  refine ⟨w,rfl,hw.congr fun m _ => ?_⟩
  constructor
  ·rintro ⟨i,t,_,h2,h3⟩
   exact ⟨t,List.mem_of_getElem? h2,h3⟩
  ·rintro ⟨t,ht,h3⟩
   obtain ⟨i,hi,rfl⟩:=List.mem_iff_getElem.1 ht
   exact ⟨i,_,hi,List.getElem?_eq_getElem hi,h3⟩
noncomputable def runP (P : Nat → Prop) : Nat → Nat
 | 0 => 0
 | m + 1 => by
  classical
  exact if P m then 0 else runP P m + 1
theorem runP_t {P : Nat → Prop} {m : Nat} (h : P m) : runP P (m + 1) = 0:=by simp [runP,h]
theorem runP_f {P : Nat → Prop} {m : Nat} (h : ¬ P m) : runP P (m + 1) = runP P m + 1:=by simp [runP,h]
theorem runP_le (P : Nat → Prop) : ∀ m,runP P m ≤ m
 | 0 => Nat.le_refl _
 | m + 1 => by
  by_cases h : P m
  ·rw [runP_t h]; omega
  ·rw [runP_f h]; have:=runP_le P m; omega
structure SleepOf (P : Nat → Prop) (from_ many : Nat) : Prop where
 le : ∀ m,m ≤ 720 → runP P m ≤ many
 zero : many = 0 → from_ = 0
 at_ : 0 < many → from_ + many ≤ 720 ∧ runP P (from_ + many) = many ∧ ∀ m,m < from_ + many → runP P m < many
theorem sleep_c (N : Nat) (hN : 1000 < N) (w : List Bool) (P : Nat → Prop) (h : NW w P) : ∃ from_ many : Nat,p_band_night_sleep N w = some ((from_ : Int),(many : Int)) ∧ SleepOf P from_ many:=by
 unfold p_band_night_sleep
 have e1 : lenI w 720 = some ():=by unfold lenI; rw [if_pos h.1]
 rw [e1,Option.bind_some]
 let T : Option (Int × Int) → Prop:=fun x => ∃ from_ many : Nat,x = some ((from_ : Int),(many : Int)) ∧ SleepOf P from_ many
 show T _
 refine letJ_gen T _ _ (fun K1 hK1 => ?_)
 refine loop4_T T (fun f m r y => ∃ f' m' j : Nat,f = (f' : Int) ∧ m = (m' : Int) ∧ y = (j : Int) ∧ j ≤ 720 ∧ r = (runP P j : Int) ∧ (∀ k,k ≤ j → runP P k ≤ m') ∧ (m' = 0 → f' = 0) ∧ (0 < m' → f' + m' ≤ j ∧ runP P (f' + m') = m' ∧ ∀ k,k < f' + m' → runP P k < m')) (fun f m r y => 720 - y.toNat) ?_ N 0 0 0 0 ⟨0,0,0,rfl,rfl,rfl,by omega,rfl,fun k hk => by rw [Nat.le_zero.1 hk]; exact Nat.le_refl _,fun _ => rfl,fun hh => absurd hh (Nat.lt_irrefl _)⟩ (by omega)
 rintro rec f m r y ⟨f',m',j,rfl,rfl,rfl,hj,rfl,hle,hz,hat⟩ ih
 by_cases hj2 : j < 720
 ·rw [dT (show ((j : Int) < 720) by omega),cond_true]
  simp only [letJ_eq]
  obtain ⟨b,hb,hbP⟩:=h.2 j hj2
  have hga : getA w (j : Int) 720 = some b:=by unfold getA; rw [if_pos (by omega),Int.toNat_natCast,hb]
  rw [hga,Option.bind_some,nadd1 j (by omega)]
  have hrl:=runP_le P j
  have step : ∀ r' : Nat,runP P (j + 1) = r' → T (bif (decide ((r' : Int) > (m' : Int))) then (rec (IntKind.i64.wrap ((IntKind.i64.wrap ((j : Int) - (r' : Int))) + 1)) (r' : Int) (r' : Int) ((j + 1 : Nat) : Int)) else (rec (f' : Int) (m' : Int) (r' : Int) ((j + 1 : Nat) : Int))):=by
   intro r' hr'
   have hr'l:=runP_le P (j + 1)
   rw [hr'] at hr'l
   by_cases hgt : (r' : Int) > (m' : Int)
   ·rw [dT hgt,cond_true,w64 (x:=(j : Int) - (r' : Int)) (by omega) (by omega),w64 (x:=(j : Int) - (r' : Int) + 1) (by omega) (by omega)]
    have e2 : (j : Int) - (r' : Int) + 1 = ((j + 1 - r' : Nat) : Int):=by omega
    rw [e2]
    refine ih _ _ _ _ ⟨j + 1 - r',r',j + 1,rfl,rfl,rfl,by omega,by rw [hr'],fun k hk => ?_,fun hh => by omega,fun _ => ⟨by omega,by rw [show j + 1 - r' + r' = j + 1 by omega]; exact hr',fun k hk => ?_⟩⟩ (by omega)
    ·by_cases hk2 : k = j + 1
     ·subst hk2; omega
     ·have:=hle k (by omega); omega
    ·have:=hle k (by omega); omega
   ·rw [dF hgt,cond_false]
    refine ih _ _ _ _ ⟨f',m',j + 1,rfl,rfl,rfl,by omega,by rw [hr'],fun k hk => ?_,hz,fun hh => ?_⟩ (by omega)
    ·by_cases hk2 : k = j + 1
     ·subst hk2; omega
     ·exact hle k (by omega)
    ·obtain ⟨g1,g2,g3⟩:=hat hh
     exact ⟨by omega,g2,g3⟩
  cases b with
  | true =>
   rw [cond_true]
   exact step 0 (runP_t (hbP.1 rfl))
  | false =>
   rw [cond_false,w64 (x:=(runP P j : Int) + 1) (by omega) (by omega)]
   have:=step (runP P j + 1) (runP_f fun hp => by have:=hbP.2 hp; cases this)
   rw [show ((runP P j + 1 : Nat) : Int) = (runP P j : Int) + 1 by omega] at this
   exact this
 ·have : j = 720:=by omega
  subst this
  rw [dF (show ¬ (((720 : Nat) : Int) < 720) by omega),cond_false,hK1]
  exact ⟨f',m',rfl,⟨fun k hk => hle k hk,hz,hat⟩⟩
theorem sleepT_c (N : Nat) (hN : 1000 < N) (ts : List T_band_tour) (q : Int) (hl : ts.length ≤ 100) (h : ∀ t ∈ ts,∃ c,GoodT c t) : ∃ (w : List Bool) (from_ many : Nat),p_band_nightOf N ts q = some w ∧ p_band_night_sleep N w = some ((from_ : Int),(many : Int)) ∧ SleepOf (fun m => ∃ t ∈ ts,Heard t q m) from_ many:=by
 obtain ⟨w,e,hw⟩:=night_c N hN ts q hl h
 obtain ⟨f,m,e2,hs⟩:=sleep_c N hN w _ hw
 exact ⟨w,f,m,e,e2,hs⟩
end Go.Proofs.YtkchfjblcfbajaaDoor
end
section
namespace Go.Proofs.YtkchfjblcfbajaaDoor
open Go.RowKit

theorem idxL {α : Type} (l : List α) (p : α → Bool) {body : (Int → Option Int) → Int → Option Int} {N : Nat} (hN : l.length < N) (hend : ∀ rec,body rec (l.length : Int) = some (-1)) (hstep : ∀ rec (i : Nat) x,l[i]? = some x → body rec (i : Int) = bif p x then some (i : Int) else rec ((i + 1 : Nat) : Int)) : ∃ r,loop1 body N 0 = some r ∧ ((r = -1 ∧ ∀ x ∈ l,p x = false) ∨ ∃ (k : Nat) (x : α),r = (k : Int) ∧ l[k]? = some x ∧ p x = true):=by
 refine loop1_T (fun x => ∃ r,x = some r ∧ ((r = -1 ∧ ∀ x ∈ l,p x = false) ∨ ∃ (k : Nat) (x : α),r = (k : Int) ∧ l[k]? = some x ∧ p x = true)) (fun y => ∃ i : Nat,y = (i : Int) ∧ i ≤ l.length ∧ ∀ (j : Nat) x,j < i → l[j]? = some x → p x = false) (fun y => l.length - y.toNat) ?_ N 0 ⟨0,rfl,Nat.zero_le _,fun j x hj => absurd hj (Nat.not_lt_zero _)⟩ (by simpa using hN)
 rintro rec y ⟨i,rfl,hi,hno⟩ ih
 by_cases hlt : i < l.length
 ·have hx : l[i]? = some l[i]:=List.getElem?_eq_getElem hlt
  rw [hstep rec i _ hx]
  cases hp : p l[i] with
  | true => exact ⟨_,rfl,.inr ⟨i,_,rfl,hx,hp⟩⟩
  | false =>
   rw [cond_false]
   refine ih _ ⟨i + 1,rfl,by omega,fun j x hj hjx => ?_⟩ (by omega)
   by_cases hji : j = i
   ·subst hji; rw [hx] at hjx; cases hjx; exact hp
   ·exact hno j x (by omega) hjx
 ·have : i = l.length:=by omega
  subst this
  rw [hend]
  refine ⟨_,rfl,.inl ⟨rfl,fun x hm => ?_⟩⟩
  obtain ⟨j,hj,rfl⟩:=List.mem_iff_getElem.1 hm
  exact hno j _ hj (List.getElem?_eq_getElem hj)
end Go.Proofs.YtkchfjblcfbajaaDoor
end
section
namespace Go.Proofs.YtkchfjblcfbajaaDoor
open Go.RowKit
set_option maxHeartbeats 400000

def meetsV (v w : T_band_visit) (p : Int) : Bool:=(v.square_ == w.square_ && decide (w.Span.Lo - v.Span.Hi ≤ p) && decide (v.Span.Lo - w.Span.Hi ≤ p)) || (v.street_ == w.street_ && v.street_ != -1 && v.Span.Lo == w.Span.Lo)
structure VisOk (v : T_band_visit) : Prop where
 l0 : 0 ≤ v.Span.Lo
 l1 : v.Span.Lo ≤ 100000
 h0 : -1 ≤ v.Span.Hi
 h1 : v.Span.Hi ≤ 100000
theorem meets_p (N : Nat) (v w : T_band_visit) (p : Int) (hv : VisOk v) (hw : VisOk w) : p_band_visit_meets N v w p = some (meetsV v w p):=by
 unfold p_band_visit_meets meetsV
 have:=hv.l0; have:=hv.l1; have:=hv.h0; have:=hv.h1; have:=hw.l0; have:=hw.l1; have:=hw.h0; have:=hw.h1
 rw [w64 (x:=w.Span.Lo - v.Span.Hi) (by omega) (by omega),w64 (x:=v.Span.Lo - w.Span.Hi) (by omega) (by omega)]
 simp only [letJ_eq]
 cases (v.square_ == w.square_) <;> cases decide (w.Span.Lo - v.Span.Hi ≤ p) <;> cases decide (v.Span.Lo - w.Span.Hi ≤ p) <;> cases (v.street_ == w.street_) <;> cases (v.street_ != -1) <;> simp
theorem vis_ok {c : T_City} {t : T_band_tour} (h : GoodT c t) {s : Int} (h0 : 0 ≤ s) (h1 : s ≤ 1000) {k : Nat} (hk : k < t.squares_.length) : VisOk (vis t s s k):=by
 obtain ⟨m0,m1,m2,m3⟩:=h.kmul k hk
 have:=h.y0; have:=h.y1
 exact ⟨by simp only [vis]; omega,by simp only [vis]; omega,by simp only [vis]; omega,by simp only [vis]; omega⟩
theorem visL_ok {c : T_City} {t : T_band_tour} (h : GoodT c t) {s : Int} (h0 : 0 ≤ s) (h1 : s ≤ 1000) : ∀ v ∈ visL t s s,VisOk v:=by
 intro v hv
 simp only [visL,List.mem_map,List.mem_range] at hv
 obtain ⟨k,hk,rfl⟩:=hv
 exact vis_ok h h0 h1 hk
theorem any_of_idx {α : Type} {l : List α} {p : α → Bool} {r : Int} (h : (r = -1 ∧ ∀ x ∈ l,p x = false) ∨ ∃ (k : Nat) (x : α),r = (k : Int) ∧ l[k]? = some x ∧ p x = true) : decide (r ≥ 0) = l.any p:=by
 rcases h with ⟨rfl,h⟩ | ⟨k,x,rfl,h1,h2⟩
 ·rw [dF (by omega)]
  symm; rw [List.any_eq_false]
  intro x hx; rw [h x hx]; decide
 ·rw [dT (by omega)]
  symm; rw [List.any_eq_true]
  exact ⟨x,List.mem_of_getElem? h1,h2⟩
theorem meet1_p (N : Nat) (hN : 1000 < N) (v : T_band_visit) (ws : List T_band_visit) (p : Int) (hv : VisOk v) (hw : ∀ w ∈ ws,VisOk w) (hl : ws.length ≤ 100) : p_band_meet_1 N v ws p = some (ws.any fun w => meetsV v w p):=by
 unfold p_band_meet_1 p_slices_ContainsFunc_band_visit_band_visit_band_meet_1_1 p_slices_IndexFunc_band_visit_band_visit_band_meet_1_1
 simp only [letJ_eq]
 obtain ⟨r,e,h⟩:=idxL ws (fun w => meetsV v w p) (N:=N) (by omega) (body:=fun rec_8 y_7 => (bif (decide (y_7 < ((ws.length : Nat) : Int))) then ((getI ws y_7).bind fun x_12 => ((p_band_meet_1_1 N x_12 v p).bind fun r_13 => (bif r_13 then some y_7 else (rec_8 (IntKind.i64.wrap (y_7 + 1)))))) else some (-1))) (fun rec => by simp only [ltE,cond_false]) (fun rec i x hx => by
  have hlt:=(List.getElem?_eq_some_iff.1 hx).1
  have e1 : p_band_meet_1_1 N x v p = some (meetsV v x p):=by
   unfold p_band_meet_1_1
   rw [meets_p N v x p hv (hw x (List.mem_of_getElem? hx))]; rfl
  simp only [ltD hlt,cond_true,getD_at hx,Option.bind_some,e1,nadd1 i (by omega)])
 rw [e,Option.bind_some,Option.bind_some,any_of_idx h]
theorem meet_p (N : Nat) (hN : 1000 < N) (vs ws : List T_band_visit) (p : Int) (hv : ∀ v ∈ vs,VisOk v) (hw : ∀ w ∈ ws,VisOk w) (hlv : vs.length ≤ 100) (hl : ws.length ≤ 100) : p_band_meet N vs ws p = some (vs.any fun v => ws.any fun w => meetsV v w p):=by
 unfold p_band_meet p_slices_ContainsFunc_band_visit_band_visit_band_meet_1 p_slices_IndexFunc_band_visit_band_visit_band_meet_1
 simp only [letJ_eq]
 obtain ⟨r,e,h⟩:=idxL vs (fun v => ws.any fun w => meetsV v w p) (N:=N) (by omega) (body:=fun rec_8 y_7 => (bif (decide (y_7 < ((vs.length : Nat) : Int))) then ((getI vs y_7).bind fun x_12 => ((p_band_meet_1 N x_12 ws p).bind fun r_13 => (bif r_13 then some y_7 else (rec_8 (IntKind.i64.wrap (y_7 + 1)))))) else some (-1))) (fun rec => by simp only [ltE,cond_false]) (fun rec i x hx => by
  have hlt:=(List.getElem?_eq_some_iff.1 hx).1
  simp only [ltD hlt,cond_true,getD_at hx,Option.bind_some,meet1_p N hN x ws p (hv x (List.mem_of_getElem? hx)) hw hl,nadd1 i (by omega)])
 rw [e,Option.bind_some,Option.bind_some,any_of_idx h]
def MB (a b : T_band_tour) (p s1 s2 : Int) : Bool:=(visL a s1 s1).any fun v => (visL b s2 s2).any fun w => meetsV v w p
theorem meetT_p {c c' : T_City} (N : Nat) (hN : 1000 < N) (a b : T_band_tour) (ha : GoodT c a) (hb : GoodT c' b) (p s1 s2 : Int) (h1 : 0 ≤ s1) (h2 : s1 ≤ 1000) (h3 : 0 ≤ s2) (h4 : s2 ≤ 1000) : p_band_meet N (visL a s1 s1) (visL b s2 s2) p = some (MB a b p s1 s2):=by
 have e1:=ha.wk.len; have e2:=ha.pl; have e3:=hb.wk.len; have e4:=hb.pl
 exact meet_p N hN _ _ p (visL_ok ha h1 h2) (visL_ok hb h3 h4) (by simp [visL]; omega) (by simp [visL]; omega)
theorem ex_snoc {lo x : Int} {P : Int → Prop} (h : lo ≤ x) : (∃ s,lo ≤ s ∧ s < x + 1 ∧ P s) ↔ (∃ s,lo ≤ s ∧ s < x ∧ P s) ∨ P x:=by
 constructor
 ·rintro ⟨s,h1,h2,h3⟩
  by_cases he : s = x
  ·subst he; exact .inr h3
  ·exact .inl ⟨s,h1,by omega,h3⟩
 ·rintro (⟨s,h1,h2,h3⟩ | h3)
  ·exact ⟨s,h1,by omega,h3⟩
  ·exact ⟨x,h,by omega,h3⟩
theorem verdict_c {c c' : T_City} (N : Nat) (hN : 1000 < N) (a b : T_band_tour) (ha : GoodT c a) (hb : GoodT c' b) (p : Int) : ∃ v,p_band_verdict N a b p = some v ∧ (v = 1 ∨ v = 2 ∨ v = 3) ∧ (v = 1 ↔ ∀ s1,a.Band.Start.Lo ≤ s1 → s1 ≤ a.Band.Start.Hi → ∀ s2,b.Band.Start.Lo ≤ s2 → s2 ≤ b.Band.Start.Hi → MB a b p s1 s2 = true) ∧ (v = 2 ↔ ∀ s1,a.Band.Start.Lo ≤ s1 → s1 ≤ a.Band.Start.Hi → ∀ s2,b.Band.Start.Lo ≤ s2 → s2 ≤ b.Band.Start.Hi → MB a b p s1 s2 = false):=by
 unfold p_band_verdict
 have a0:=ha.s0; have a1:=ha.s1; have a2:=ha.en; have am:=ha.mul
 have b0:=hb.s0; have b1:=hb.s1; have b2:=hb.en; have bm:=hb.mul
 rw [show p_band_tour_starts N a = some a from rfl,Option.bind_some]
 let R : Int → (Int → Prop) → Prop:=fun x P => ∃ s,a.Band.Start.Lo ≤ s ∧ s < x ∧ P s
 let T : Option Int → Prop:=fun x => ∃ v,x = some v ∧ (v = 1 ∨ v = 2 ∨ v = 3) ∧ (v = 1 ↔ ∀ s1,a.Band.Start.Lo ≤ s1 → s1 ≤ a.Band.Start.Hi → ∀ s2,b.Band.Start.Lo ≤ s2 → s2 ≤ b.Band.Start.Hi → MB a b p s1 s2 = true) ∧ (v = 2 ↔ ∀ s1,a.Band.Start.Lo ≤ s1 → s1 ≤ a.Band.Start.Hi → ∀ s2,b.Band.Start.Lo ≤ s2 → s2 ≤ b.Band.Start.Hi → MB a b p s1 s2 = false)
 show T _
 refine letJ_gen T _ _ (fun K1 hK1 => ?_)
 refine letJ_gen T _ _ (fun K2 hK2 => ?_)
 refine loop3_T T (fun start x y => a.Band.Start.Lo ≤ start ∧ start ≤ a.Band.Start.Hi + 1 ∧ (x = true ↔ ∃ s1,a.Band.Start.Lo ≤ s1 ∧ s1 < start ∧ ∃ s2,b.Band.Start.Lo ≤ s2 ∧ s2 < b.Band.Start.Hi + 1 ∧ MB a b p s1 s2 = true) ∧ (y = true ↔ ∃ s1,a.Band.Start.Lo ≤ s1 ∧ s1 < start ∧ ∃ s2,b.Band.Start.Lo ≤ s2 ∧ s2 < b.Band.Start.Hi + 1 ∧ MB a b p s1 s2 = false)) (fun start x y => (a.Band.Start.Hi + 1 - start).toNat) ?_ N a.Band.Start.Lo false false ⟨Int.le_refl _,by omega,⟨fun hh => (by cases hh),fun ⟨s,h1,h2,_⟩ => by omega⟩,⟨fun hh => (by cases hh),fun ⟨s,h1,h2,_⟩ => by omega⟩⟩ (by omega)
 rintro rec start x y ⟨p0,p1,px,py⟩ ih
 by_cases hle : start ≤ a.Band.Start.Hi
 ·rw [dT hle,cond_true]
  refine letJ_gen T _ _ (fun K3 hK3 => ?_)
  rw [visits_c N hN c a ha start start (by omega) (by omega) (by omega) (by omega),Option.bind_some,show p_band_tour_starts N b = some b from rfl,Option.bind_some]
  refine letJ_gen T _ _ (fun K4 hK4 => ?_)
  refine letJ_gen T _ _ (fun K5 hK5 => ?_)
  refine loop3_T T (fun other x' y' => b.Band.Start.Lo ≤ other ∧ other ≤ b.Band.Start.Hi + 1 ∧ (x' = true ↔ (x = true ∨ ∃ s2,b.Band.Start.Lo ≤ s2 ∧ s2 < other ∧ MB a b p start s2 = true)) ∧ (y' = true ↔ (y = true ∨ ∃ s2,b.Band.Start.Lo ≤ s2 ∧ s2 < other ∧ MB a b p start s2 = false))) (fun other x y => (b.Band.Start.Hi + 1 - other).toNat) ?_ N b.Band.Start.Lo x y ⟨Int.le_refl _,by omega,⟨.inl,fun hh => hh.elim id fun ⟨s,h1,h2,_⟩ => by omega⟩,⟨.inl,fun hh => hh.elim id fun ⟨s,h1,h2,_⟩ => by omega⟩⟩ (by omega)
  rintro rec2 other x' y' ⟨q0,q1,qx,qy⟩ ih2
  by_cases hle2 : other ≤ b.Band.Start.Hi
  ·rw [dT hle2,cond_true]
   simp only [letJ_eq]
   rw [visits_c N hN c' b hb other other (by omega) (by omega) (by omega) (by omega),Option.bind_some,meetT_p N hN a b ha hb p start other (by omega) (by omega) (by omega) (by omega),Option.bind_some,w64 (x:=other + 1) (by omega) (by omega)]
   cases hm : MB a b p start other with
   | true =>
    rw [cond_true]
    refine ih2 _ _ _ ⟨by omega,by omega,?_,?_⟩ (by omega)
    ·rw [ex_snoc q0]; exact ⟨fun _ => .inr (.inr hm),fun _ => rfl⟩
    ·rw [ex_snoc q0,qy,hm]; simp
   | false =>
    rw [cond_false]
    refine ih2 _ _ _ ⟨by omega,by omega,?_,?_⟩ (by omega)
    ·rw [ex_snoc q0,qx,hm]; simp
    ·rw [ex_snoc q0]; exact ⟨fun _ => .inr (.inr hm),fun _ => rfl⟩
  ·have ho : other = b.Band.Start.Hi + 1:=by omega
   subst ho
   rw [dF hle2,cond_false,hK5,hK4,hK3,w64 (x:=start + 1) (by omega) (by omega)]
   refine ih _ _ _ ⟨by omega,by omega,?_,?_⟩ (by omega)
   ·rw [ex_snoc p0,qx,px]
   ·rw [ex_snoc p0,qy,py]
 ·have hst : start = a.Band.Start.Hi + 1:=by omega
  subst hst
  rw [dF hle,cond_false,hK2,hK1]
  have hy : y = false ↔ ∀ s1,a.Band.Start.Lo ≤ s1 → s1 ≤ a.Band.Start.Hi → ∀ s2,b.Band.Start.Lo ≤ s2 → s2 ≤ b.Band.Start.Hi → MB a b p s1 s2 = true:=by
   constructor
   ·intro h s1 g1 g2 s2 g3 g4
    cases hm : MB a b p s1 s2 with
    | true => rfl
    | false =>
     have:=py.2 ⟨s1,g1,by omega,s2,g3,by omega,hm⟩
     rw [h] at this; cases this
   ·intro h
    cases y with
    | false => rfl
    | true =>
     obtain ⟨s1,g1,g2,s2,g3,g4,g5⟩:=py.1 rfl
     rw [h s1 g1 (by omega) s2 g3 (by omega)] at g5; cases g5
  have hx : x = false ↔ ∀ s1,a.Band.Start.Lo ≤ s1 → s1 ≤ a.Band.Start.Hi → ∀ s2,b.Band.Start.Lo ≤ s2 → s2 ≤ b.Band.Start.Hi → MB a b p s1 s2 = false:=by
   constructor
   ·intro h s1 g1 g2 s2 g3 g4
    cases hm : MB a b p s1 s2 with
    | false => rfl
    | true =>
     have:=px.2 ⟨s1,g1,by omega,s2,g3,by omega,hm⟩
     rw [h] at this; cases this
   ·intro h
    cases x with
    | false => rfl
    | true =>
     obtain ⟨s1,g1,g2,s2,g3,g4,g5⟩:=px.1 rfl
     rw [h s1 g1 (by omega) s2 g3 (by omega)] at g5; cases g5
  have hne : ¬ (x = false ∧ y = false):=fun ⟨e1,e2⟩ => by
   have g1:=hx.1 e1 a.Band.Start.Lo (Int.le_refl _) a1 b.Band.Start.Lo (Int.le_refl _) b1
   have g2:=hy.1 e2 a.Band.Start.Lo (Int.le_refl _) a1 b.Band.Start.Lo (Int.le_refl _) b1
   rw [g1] at g2; cases g2
  refine ⟨if y = false then 1 else if x = false then 2 else 3,?_,?_,?_,?_⟩
  ·cases y <;> cases x <;> rfl
  ·split
   ·exact .inl rfl
   ·split
    ·exact .inr (.inl rfl)
    ·exact .inr (.inr rfl)
  ·rw [← hy]
   cases y <;> cases x <;> simp
  ·rw [← hx]
   cases y <;> cases x <;> simp at hne ⊢
end Go.Proofs.YtkchfjblcfbajaaDoor
end
section
namespace Go.Proofs.YtkchfjblcfbajaaDoor
open Go.RowKit
set_option maxHeartbeats 400000

def bl (x : Nat) : List Nat:=(List.range 6).filter fun k => x.testBit k
theorem with_all : ((List.range 5).all fun k => (List.range (2 ^ k)).all fun x => decide (p_band_choice_with 0 (x : Int) (k : Int) = some ((x + 2 ^ k : Nat) : Int)) && decide (bl (x + 2 ^ k) = bl x ++ [k])) = true:=by kernel_rfl
theorem with_t (N k x : Nat) (hk : k < 5) (hx : x < 2 ^ k) : p_band_choice_with N (x : Int) (k : Int) = some ((x + 2 ^ k : Nat) : Int) ∧ bl (x + 2 ^ k) = bl x ++ [k]:=by
 have h1:=List.all_eq_true.1 (List.all_eq_true.1 with_all k (List.mem_range.2 hk)) x (List.mem_range.2 hx)
 rw [Bool.and_eq_true,decide_eq_true_eq,decide_eq_true_eq] at h1
 exact h1
theorem below_all : ((List.range 6).all fun k => (List.range (2 ^ k)).all fun x => (bl x).all fun i => decide (i < k)) = true:=by kernel_rfl
theorem below_t (k x : Nat) (hk : k < 6) (hx : x < 2 ^ k) : ∀ i ∈ bl x,i < k:=fun i hi =>
 of_decide_eq_true (List.all_eq_true.1 (List.all_eq_true.1 (List.all_eq_true.1 below_all k (List.mem_range.2 hk)) x (List.mem_range.2 hx)) i hi)
theorem and_all : ((List.range 32).all fun x => (List.range 32).all fun y => ((IntKind.u64.wrap (((BitVec.ofInt (IntKind.bits .u64) (x : Int) &&& BitVec.ofInt (IntKind.bits .u64) (y : Int)).toNat : Nat) : Int)) != 0) == ((bl y).any fun k => (bl x).contains k)) = true:=by kernel_rfl
theorem and_t (x y : Nat) (hx : x < 32) (hy : y < 32) : ((IntKind.u64.wrap (((BitVec.ofInt (IntKind.bits .u64) (x : Int) &&& BitVec.ofInt (IntKind.bits .u64) (y : Int)).toNat : Nat) : Int)) != 0) = (bl y).any fun k => (bl x).contains k :=
 eq_of_beq (List.all_eq_true.1 (List.all_eq_true.1 and_all x (List.mem_range.2 hx)) y (List.mem_range.2 hy))
def nextN (x : Nat) : Int:=IntKind.u64.wrap (((BitVec.ofInt (IntKind.bits .u64) (x : Int) &&& BitVec.ofInt (IntKind.bits .u64) (IntKind.u64.wrap ((x : Int) - 1))).toNat : Nat) : Int)
def tzB (x : Nat) : Bool:=match p_math_bits_TrailingZeros 0 (x : Int),bl x with
 | some t,k :: r => decide (t = (k : Int)) && (decide (0 ≤ nextN x) && (decide ((nextN x).toNat < x) && decide (bl (nextN x).toNat = r)))
 | _,_ => false
theorem tz_all : ((List.range 32).all fun x => x == 0 || tzB x) = true:=by kernel_rfl
theorem tz_t (N x : Nat) (h0 : x ≠ 0) (hx : x < 32) : ∃ t r : Nat,p_math_bits_TrailingZeros N (x : Int) = some (t : Int) ∧ nextN x = (r : Int) ∧ r < x ∧ bl x = t :: bl r:=by
 have h1:=List.all_eq_true.1 tz_all x (List.mem_range.2 hx)
 rw [Bool.or_eq_true,beq_iff_eq] at h1
 have h2:=h1.resolve_left h0
 have hN : p_math_bits_TrailingZeros N (x : Int) = p_math_bits_TrailingZeros 0 (x : Int):=rfl
 unfold tzB at h2
 rw [hN]
 split at h2
 ·rename_i t k r e1 e2
  simp only [Bool.and_eq_true,decide_eq_true_eq] at h2
  obtain ⟨g1,g2,g3,g4⟩:=h2
  exact ⟨k,(nextN x).toNat,by rw [e1,g1],by omega,g3,by rw [e2,g4]⟩
 ·cases h2
def crB (N : Nat) (c : T_City) (a b : T_band_tour) : Bool:=decide (p_band_verdict N a b c.Break ≠ some 2)
def thB (c : T_City) (t : T_band_tour) : Bool:=t.squares_.any fun q => decide (t.Band.People > (c.Town.Rooms[q.toNat]?).getD 0)
def noQ (N : Nat) (c : T_City) (g : List T_band_tour) (q : Nat) : Bool:=match (p_band_nightOf N g (q : Int)).bind fun r => p_band_night_sleep N r with
 | some r => decide (r.2 < (c.Sleep[q]?).getD 0)
 | none => false
def noB (N : Nat) (c : T_City) (g : List T_band_tour) : Bool:=(List.range c.Sleep.length).any (noQ N c g)
def ansOf (N : Nat) (c : T_City) (g : List T_band_tour) (t : T_band_tour) : Int:=bif g.any (crB N c t) then 10 else bif thB c t then 13 else bif noB N c (g ++ [t]) then 11 else 0
def nextG (N : Nat) (c : T_City) (g : List T_band_tour) (t : T_band_tour) : List T_band_tour:=bif ansOf N c g t == 0 then g ++ [t] else g
def gr (N : Nat) (c : T_City) : List T_band_tour → List T_band_tour → List Int
 | _,[] => []
 | g,t :: ts => ansOf N c g t :: gr N c (nextG N c g t) ts
structure Row (N : Nat) (c : T_City) (ts : List T_band_tour) (t : T_band_tour) (x k : Nat) : Prop where
 lt : x < 2 ^ k
 mem : ∀ i,i ∈ bl x ↔ i < k ∧ ∃ b,ts[i]? = some b ∧ crB N c t b = true
theorem requests_c (N : Nat) (hN : 1000 < N) (c : T_City) (ts : List T_band_tour) (hl : ts.length ≤ 5) (h : ∀ t ∈ ts,GoodT c t) : ∃ w : List Int,p_band_requestsOf N c ts = some ⟨c,ts,w⟩ ∧ w.length = ts.length ∧ ∀ (i : Nat) t,ts[i]? = some t → ∃ x : Nat,w[i]? = some (x : Int) ∧ Row N c ts t x i:=by
 unfold p_band_requestsOf
 have hmk : mkI ((ts.length : Nat) : Int) = some ts.length:=by unfold mkI; rw [if_pos (by omega),Int.toNat_natCast]
 rw [hmk,Option.bind_some]
 let T : Option T_band_requests → Prop:=fun r => ∃ w : List Int,r = some ⟨c,ts,w⟩ ∧ w.length = ts.length ∧ ∀ (i : Nat) t,ts[i]? = some t → ∃ x : Nat,w[i]? = some (x : Int) ∧ Row N c ts t x i
 show T _
 refine letJ_gen T _ _ (fun K1 hK1 => ?_)
 refine loop2_T T (fun y (w : List Int) => ∃ j : Nat,y = (j : Int) ∧ j ≤ ts.length ∧ w.length = ts.length ∧ (∀ (i : Nat) t,i < j → ts[i]? = some t → ∃ x : Nat,w[i]? = some (x : Int) ∧ Row N c ts t x i) ∧ ∀ i,j ≤ i → i < ts.length → w[i]? = some 0) (fun y w => ts.length - y.toNat) ?_ N 0 _ ⟨0,rfl,Nat.zero_le _,List.length_replicate,fun i t hi => absurd hi (Nat.not_lt_zero _),fun i _ hi => by rw [List.getElem?_replicate,if_pos hi]⟩ (by simp; omega)
 rintro rec y w ⟨j,rfl,hj,hw,hlo,hhi⟩ ih
 by_cases hjl : j < ts.length
 ·have hx : ts[j]? = some ts[j]:=List.getElem?_eq_getElem hjl
  have hpart : partI ts 0 (j : Int) = some (ts.take j):=by unfold partI; rw [if_pos (by omega)]; simp
  rw [ltD hjl,cond_true,getD_at hx,Option.bind_some,hpart,Option.bind_some]
  have htl : (ts.take j).length = j:=by simp; omega
  have hwj : w[j]? = some 0:=hhi j (Nat.le_refl _) hjl
  have hw0 : w = w.set j ((0 : Nat) : Int):=by
   apply List.ext_getElem?
   intro i
   rw [List.getElem?_set]
   by_cases he : j = i
   ·subst he; rw [if_pos rfl,if_pos (by omega),hwj]; rfl
   ·rw [if_neg he]
  refine letJ_gen T _ _ (fun K2 hK2 => ?_)
  refine loop2_T T (fun z (w' : List Int) => ∃ (k x : Nat),z = (k : Int) ∧ k ≤ j ∧ w' = w.set j (x : Int) ∧ Row N c ts ts[j] x k) (fun z w => j - z.toNat) ?_ N 0 w ⟨0,0,rfl,Nat.zero_le _,hw0,⟨by decide,fun i => ⟨fun hh => (by simp [bl] at hh),fun hh => absurd hh.1 (Nat.not_lt_zero _)⟩⟩⟩ (by simp; omega)
  rintro rec2 z w' ⟨k,x,rfl,hk,rfl,hrow⟩ ih2
  rw [htl]
  by_cases hkj : k < j
  ·rw [ltD hkj,cond_true]
   simp only [letJ_eq]
   have hkt : ts[k]? = some ts[k]:=List.getElem?_eq_getElem (by omega)
   have hy : (ts.take j)[k]? = some ts[k]:=by rw [List.getElem?_take_of_lt hkj]; exact hkt
   rw [getD_at hy,Option.bind_some]
   obtain ⟨v,ev,hv,_⟩:=verdict_c N hN ts[j] ts[k] (h _ (List.getElem_mem _)) (h _ (List.getElem_mem _)) c.Break
   rw [ev,Option.bind_some,nadd1 k (by omega)]
   have hcr : crB N c ts[j] ts[k] = true ↔ v ≠ 2:=by simp [crB,ev]
   have hset : (w.set j (x : Int))[j]? = some (x : Int):=List.getElem?_set_self (by omega)
   obtain ⟨w1,w2⟩:=with_t N k x (by omega) hrow.lt
   have hpow : 2 ^ (k + 1) = 2 ^ k + 2 ^ k:=by rw [Nat.pow_succ]; omega
   have hlt:=hrow.lt
   by_cases h2 : v = 2
   ·rw [show (v != 2) = false from by simpa using h2,cond_false]
    refine ih2 _ _ ⟨k + 1,x,rfl,by omega,rfl,by omega,fun i => ?_⟩ (by omega)
    rw [hrow.mem]
    constructor
    ·rintro ⟨g1,g2⟩; exact ⟨by omega,g2⟩
    ·rintro ⟨g1,b,g2,g3⟩
     by_cases he : i = k
     ·subst he
      rw [hkt] at g2; cases g2
      exact absurd h2 (hcr.1 g3)
     ·exact ⟨by omega,b,g2,g3⟩
   ·rw [show (v != 2) = true from by simpa using h2,cond_true]
    have hix : idxI (j : Int) ts.length = some ():=by unfold idxI; rw [if_pos (by omega)]
    have hse : setI (w.set j (x : Int)) (j : Int) (fun _ => ((x + 2 ^ k : Nat) : Int)) = some (w.set j ((x + 2 ^ k : Nat) : Int)):=by
     unfold setI; rw [Int.toNat_natCast,hset,Option.map_some,List.set_set]
    rw [hix,Option.bind_some,Int.toNat_natCast,hset,Option.bind_some,w1,Option.bind_some,Option.bind_some,hse,Option.bind_some]
    refine ih2 _ _ ⟨k + 1,x + 2 ^ k,rfl,by omega,rfl,by omega,fun i => ?_⟩ (by omega)
    rw [w2,List.mem_append,List.mem_singleton,hrow.mem]
    constructor
    ·rintro (⟨g1,g2⟩ | rfl)
     ·exact ⟨by omega,g2⟩
     ·exact ⟨by omega,_,hkt,hcr.2 h2⟩
    ·rintro ⟨g1,b,g2,g3⟩
     by_cases he : i = k
     ·exact .inr he
     ·exact .inl ⟨by omega,b,g2,g3⟩
  ·have hkj2 : k = j:=by omega
   subst hkj2
   rw [ltE,cond_false,hK2,nadd1 k (by omega)]
   refine ih _ _ ⟨k + 1,rfl,by omega,by rw [List.length_set]; exact hw,fun i t hi ht => ?_,fun i hi hi2 => ?_⟩ (by omega)
   ·by_cases he : k = i
    ·subst he
     rw [hx] at ht; cases ht
     exact ⟨x,List.getElem?_set_self (by omega),hrow⟩
    ·rw [List.getElem?_set_ne he]; exact hlo i t (by omega) ht
   ·rw [List.getElem?_set_ne (by omega)]; exact hhi i (by omega) hi2
 ·have : j = ts.length:=by omega
  subst this
  rw [ltE,cond_false,hK1]
  have e1 : lenI w ts.length = some ():=by unfold lenI; rw [if_pos hw]
  dsimp only
  rw [e1,Option.bind_some]
  exact ⟨w,rfl,hw,fun i t ht => hlo i t (List.getElem?_eq_some_iff.1 ht).1 ht⟩
def selOf (ts : List T_band_tour) (x : Nat) : List T_band_tour:=(bl x).filterMap fun i => ts[i]?
theorem mem_sel {ts : List T_band_tour} {x : Nat} {t : T_band_tour} (h : t ∈ selOf ts x) : t ∈ ts:=by
 simp only [selOf,List.mem_filterMap] at h
 obtain ⟨i,_,h⟩:=h
 exact List.mem_of_getElem? h
theorem clash_c (N : Nat) (c : T_City) (ts : List T_band_tour) (w : List Int) (hl : ts.length ≤ 5) (j x : Nat) (t : T_band_tour) (ht : ts[j]? = some t) (hx : x < 2 ^ j) (hw : ∃ y : Nat,w[j]? = some (y : Int) ∧ Row N c ts t y j) : p_band_request_clash N ⟨⟨c,ts,w⟩,(j : Int),(x : Int)⟩ = some (bif (selOf ts x).any (crB N c t) then 10 else 0):=by
 unfold p_band_request_clash
 obtain ⟨y,e,hrow⟩:=hw
 have hj:=(List.getElem?_eq_some_iff.1 ht).1
 have hpow : 2 ^ j ≤ 2 ^ 4:=Nat.pow_le_pow_right (by omega) (by omega)
 have hlt:=hrow.lt
 dsimp only
 rw [getD_at e,Option.bind_some,Option.bind_some,and_t y x (by omega) (by omega)]
 have key : ((bl x).any fun k => (bl y).contains k) = (selOf ts x).any (crB N c t):=by
  rw [Bool.eq_iff_iff,List.any_eq_true,List.any_eq_true]
  constructor
  ·rintro ⟨i,h1,h2⟩
   rw [List.contains_iff_mem] at h2
   obtain ⟨_,b,h3,h4⟩:=(hrow.mem i).1 h2
   exact ⟨b,by simp only [selOf,List.mem_filterMap]; exact ⟨i,h1,h3⟩,h4⟩
  ·rintro ⟨b,h1,h2⟩
   simp only [selOf,List.mem_filterMap] at h1
   obtain ⟨i,h3,h4⟩:=h1
   refine ⟨i,h3,?_⟩
   rw [List.contains_iff_mem]
   exact (hrow.mem i).2 ⟨below_t j x (by omega) hx i h3,b,h4,h2⟩
 rw [key]
 cases (selOf ts x).any (crB N c t) <;> rfl
theorem throng_c (N : Nat) (hN : 1000 < N) (c : T_City) (hc : GoodC c) (ts : List T_band_tour) (w : List Int) (j : Nat) (x : Int) (t : T_band_tour) (ht : ts[j]? = some t) (hg : GoodT c t) : p_band_request_throng N ⟨⟨c,ts,w⟩,(j : Int),x⟩ = some (bif thB c t then 13 else 0):=by
 unfold p_band_request_throng
 dsimp only
 rw [getD_at ht,Option.bind_some]
 have hlen:=hg.wk.len; have hpl:=hg.pl
 have hsq:=hg.wk.mem ⟨hg.f0,hg.f1⟩ hc.tw.st
 let T : Option Int → Prop:=fun r => r = some (bif thB c t then 13 else 0)
 show T _
 refine letJ_gen T _ _ (fun K1 hK1 => ?_)
 refine loop1_T T (fun y => ∃ i : Nat,y = (i : Int) ∧ i ≤ t.squares_.length ∧ ∀ (k : Nat) q,k < i → t.squares_[k]? = some q → ¬ t.Band.People > (c.Town.Rooms[q.toNat]?).getD 0) (fun y => t.squares_.length - y.toNat) ?_ N 0 ⟨0,rfl,Nat.zero_le _,fun k q hk => absurd hk (Nat.not_lt_zero _)⟩ (by simp; omega)
 rintro rec y ⟨i,rfl,hi,hno⟩ ih
 by_cases hil : i < t.squares_.length
 ·have hq : t.squares_[i]? = some t.squares_[i]:=List.getElem?_eq_getElem hil
  generalize t.squares_[i] = q at hq
  obtain ⟨q0,q1⟩:=hsq q (List.mem_of_getElem? hq)
  obtain ⟨r,e1,e2,_⟩:=getI_lt q0 q1
  rw [ltD hil,cond_true,getD_at hq,Option.bind_some,e1,Option.bind_some]
  by_cases hp : t.Band.People > r
  ·rw [dT hp,cond_true]
   have : thB c t = true:=List.any_eq_true.2 ⟨q,List.mem_of_getElem? hq,by rw [e2,Option.getD_some]; exact decide_eq_true hp⟩
   show some 13 = some _
   rw [this]; rfl
  ·rw [dF hp,cond_false,nadd1 i (by omega)]
   refine ih _ ⟨i + 1,rfl,by omega,fun k q' hk hq' => ?_⟩ (by omega)
   by_cases he : k = i
   ·subst he; rw [hq] at hq'; cases hq'; rw [e2,Option.getD_some]; exact hp
   ·exact hno k q' (by omega) hq'
 ·have : i = t.squares_.length:=by omega
  subst this
  rw [ltE,cond_false,hK1]
  have : thB c t = false:=by
   unfold thB
   rw [List.any_eq_false]
   intro q hq
   obtain ⟨k,hk,rfl⟩:=List.mem_iff_getElem.1 hq
   rw [decide_eq_true_eq]
   exact hno k _ hk (List.getElem?_eq_getElem hk)
  show some 0 = some _
  rw [this]; rfl
theorem noise_c (N : Nat) (hN : 1000 < N) (c : T_City) (hc : GoodC c) (ts : List T_band_tour) (w : List Int) (hl : ts.length ≤ 5) (h : ∀ t ∈ ts,GoodT c t) (j x : Nat) (t : T_band_tour) (ht : ts[j]? = some t) (hx : x < 2 ^ j) : p_band_request_noise N ⟨⟨c,ts,w⟩,(j : Int),(x : Int)⟩ = some (bif noB N c (selOf ts x ++ [t]) then 11 else 0):=by
 unfold p_band_request_noise
 have hj:=(List.getElem?_eq_some_iff.1 ht).1
 have hpow : 2 ^ j ≤ 2 ^ 4:=Nat.pow_le_pow_right (by omega) (by omega)
 obtain ⟨w1,w2⟩:=with_t N j x (by omega) hx
 dsimp only
 rw [w1,Option.bind_some,show p_band_choice_bands N ((x + 2 ^ j : Nat) : Int) = some ((x + 2 ^ j : Nat) : Int) from rfl,Option.bind_some]
 have hsel : selOf ts (x + 2 ^ j) = selOf ts x ++ [t]:=by simp [selOf,w2,List.filterMap_append,ht]
 have hsl : (selOf ts (x + 2 ^ j)).length ≤ 6:=by
  unfold selOf
  refine Nat.le_trans (List.length_filterMap_le _ _) ?_
  unfold bl
  exact List.length_filter_le _ _
 have hmem : ∀ t' ∈ selOf ts x ++ [t],t' ∈ ts:=fun t' h' => by rw [← hsel] at h'; exact mem_sel h'
 let T : Option Int → Prop:=fun r => r = some (bif noB N c (selOf ts x ++ [t]) then 11 else 0)
 show T _
 refine letJ_gen T _ _ (fun K1 hK1 => ?_)
 refine letJ_gen T _ _ (fun K2 hK2 => ?_)
 refine loop2_T T (fun rest (b : List T_band_tour) => ∃ y : Nat,rest = (y : Int) ∧ y < 2 ^ (j + 1) ∧ b ++ selOf ts y = selOf ts x ++ [t]) (fun rest b => rest.toNat) ?_ N _ [] ⟨x + 2 ^ j,rfl,by rw [Nat.pow_succ]; omega,by rw [List.nil_append,hsel]⟩ (by omega)
 rintro rec rest b ⟨y,rfl,hy,hb⟩ ih
 by_cases h0 : y = 0
 ·subst h0
  have hb2 : b = selOf ts x ++ [t]:=by
   have : selOf ts 0 = []:=by simp [selOf,bl]
   rw [this,List.append_nil] at hb; exact hb
  subst hb2
  rw [show ((((0 : Nat) : Int)) != 0) = false from rfl,cond_false,hK2]
  dsimp only
  rw [hK1]
  dsimp only
  refine letJ_gen T _ _ (fun K3 hK3 => ?_)
  have hs12:=hc.sl; have hr2:=hc.tw.r2
  refine loop1_T T (fun y => ∃ q : Nat,y = (q : Int) ∧ q ≤ c.Sleep.length ∧ ∀ k,k < q → noQ N c (selOf ts x ++ [t]) k = false) (fun y => c.Sleep.length - y.toNat) ?_ N 0 ⟨0,rfl,Nat.zero_le _,fun k hk => absurd hk (Nat.not_lt_zero _)⟩ (by simp; omega)
  rintro rec2 z ⟨q,rfl,hq,hno⟩ ih2
  by_cases hql : q < c.Sleep.length
  ·have hsq : c.Sleep[q]? = some c.Sleep[q]:=List.getElem?_eq_getElem hql
   rw [ltD hql,cond_true,getD_at hsq,Option.bind_some]
   obtain ⟨w,f,m,e1,e2,_⟩:=sleepT_c N hN (selOf ts x ++ [t]) (q : Int) (by rw [← hsel]; omega) fun t' h' => ⟨c,h _ (hmem t' h')⟩
   rw [e1,Option.bind_some,e2,Option.bind_some]
   have hn : noQ N c (selOf ts x ++ [t]) q = decide ((m : Int) < c.Sleep[q]):=by simp only [noQ,e1,Option.bind_some,e2,hsq,Option.getD_some]
   dsimp only
   rw [← hn]
   cases hv : noQ N c (selOf ts x ++ [t]) q with
   | true =>
    rw [cond_true]
    have : noB N c (selOf ts x ++ [t]) = true:=List.any_eq_true.2 ⟨q,List.mem_range.2 hql,hv⟩
    show some 11 = some _
    rw [this]; rfl
   | false =>
    rw [cond_false,nadd1 q (by omega)]
    refine ih2 _ ⟨q + 1,rfl,by omega,fun k hk => ?_⟩ (by omega)
    by_cases he : k = q
    ·subst he; exact hv
    ·exact hno k (by omega)
  ·have : q = c.Sleep.length:=by omega
   subst this
   rw [ltE,cond_false,hK3]
   have : noB N c (selOf ts x ++ [t]) = false:=by
    unfold noB
    rw [List.any_eq_false]
    intro k hk
    rw [hno k (List.mem_range.1 hk)]; decide
   show some 0 = some _
   rw [this]; rfl
 ·have hp1 : 2 ^ (j + 1) ≤ 2 ^ 5:=Nat.pow_le_pow_right (by omega) (by omega)
  obtain ⟨z,r,e1,e2,hr,e3⟩:=tz_t N y h0 (by omega)
  have hzb : z < j + 1:=below_t (j + 1) y (by omega) hy z (by rw [e3]; exact List.mem_cons_self ..)
  rw [show (((y : Nat) : Int) != 0) = true from by simpa using h0,cond_true,e1,Option.bind_some]
  simp only [letJ_eq]
  obtain ⟨t',hzt⟩ : ∃ t',ts[z]? = some t':=⟨_,List.getElem?_eq_getElem (by omega)⟩
  rw [getD_at hzt,Option.bind_some]
  have hbl : b ++ [t'] ++ selOf ts r = selOf ts x ++ [t]:=by
   rw [← hb]
   simp [selOf,e3,hzt]
  have hbn : b.length ≤ 6:=by
   have:=congrArg List.length hb
   rw [← hsel,List.length_append] at this; omega
  rw [pushI_ok (by simp; omega),Option.bind_some,Option.bind_some]
  have e2' : IntKind.u64.wrap (((BitVec.ofInt (IntKind.bits .u64) (y : Int) &&& BitVec.ofInt (IntKind.bits .u64) (IntKind.u64.wrap ((y : Int) - 1))).toNat : Nat) : Int) = (r : Int):=e2
  rw [e2']
  exact ih _ _ ⟨r,rfl,by omega,hbl⟩ (by omega)
end Go.Proofs.YtkchfjblcfbajaaDoor
end
section
namespace Go.Proofs.YtkchfjblcfbajaaDoor
open Go.RowKit
set_option maxHeartbeats 400000

theorem wrong_c (N : Nat) (hN : 1000 < N) (c : T_City) (hc : GoodC c) (ts : List T_band_tour) (w : List Int) (hl : ts.length ≤ 5) (h : ∀ t ∈ ts,GoodT c t) (j x : Nat) (t : T_band_tour) (ht : ts[j]? = some t) (hx : x < 2 ^ j) (hw : ∃ y : Nat,w[j]? = some (y : Int) ∧ Row N c ts t y j) : p_band_requests_wrong N ⟨c,ts,w⟩ (j : Int) (x : Int) = some (ansOf N c (selOf ts x) t):=by
 unfold p_band_requests_wrong p_band_firstOf_band_request_clash_band_request_throng_band_request_noise
 simp only [letJ_eq]
 rw [clash_c N c ts w hl j x t ht hx hw,throng_c N hN c hc ts w j x t ht (h t (List.mem_of_getElem? ht)),noise_c N hN c hc ts w hl h j x t ht hx]
 simp only [Option.bind_some]
 unfold ansOf
 cases (selOf ts x).any (crB N c t) <;> cases thB c t <;> cases noB N c (selOf ts x ++ [t]) <;> rfl
theorem sel_zero (ts : List T_band_tour) : selOf ts 0 = []:=by
 unfold selOf
 rw [show bl 0 = [] from by decide]; rfl
theorem grant_c (N : Nat) (hN : 1000 < N) (c : T_City) (hc : GoodC c) (ts : List T_band_tour) (hl : ts.length ≤ 5) (h : ∀ t ∈ ts,GoodT c t) : p_band_Grant N c (ts.map (·.Band)) = some (gr N c [] ts,0):=by
 unfold p_band_Grant
 obtain ⟨w,ew,hwl,hw⟩:=requests_c N hN c ts hl h
 rw [tours_c N hN c hc ts (by omega) h,Option.bind_some]
 simp only [bne_self_eq_false,cond_false]
 rw [ew,Option.bind_some]
 let T : Option (List Int × Int) → Prop:=fun r => r = some (gr N c [] ts,0)
 show T _
 refine letJ_gen T _ _ (fun K1 hK1 => ?_)
 refine loop3_T T (fun gx (l : List Int) y => ∃ (j x : Nat),y = (j : Int) ∧ gx = (x : Int) ∧ j ≤ ts.length ∧ x < 2 ^ j ∧ l.length = j ∧ l ++ gr N c (selOf ts x) (ts.drop j) = gr N c [] ts) (fun gx l y => ts.length - y.toNat) ?_ N 0 [] 0 ⟨0,0,rfl,rfl,Nat.zero_le _,by decide,rfl,by rw [sel_zero]; rfl⟩ (by simp; omega)
 rintro rec gx l y ⟨j,x,rfl,rfl,hj,hx,hlj,hl2⟩ ih
 by_cases hjl : j < ts.length
 ·have ht : ts[j]? = some ts[j]:=List.getElem?_eq_getElem hjl
  have hdrop : ts.drop j = ts[j] :: ts.drop (j + 1):=List.drop_eq_getElem_cons hjl
  obtain ⟨w1,w2⟩:=with_t N j x (by omega) hx
  have hpow : 2 ^ (j + 1) = 2 ^ j + 2 ^ j:=by rw [Nat.pow_succ]; omega
  rw [hdrop,gr] at hl2
  have hsel : selOf ts (x + 2 ^ j) = selOf ts x ++ [ts[j]]:=by simp [selOf,w2,List.filterMap_append,ht]
  rw [ltD hjl,cond_true]
  simp only [letJ_eq]
  rw [wrong_c N hN c hc ts w hl h j x _ ht hx (hw j _ ht),Option.bind_some,nadd1 j (by omega),w1]
  generalize ha : ansOf N c (selOf ts x) ts[j] = a at hl2
  have hng : nextG N c (selOf ts x) ts[j] = bif a == 0 then selOf ts x ++ [ts[j]] else selOf ts x:=by unfold nextG; rw [ha]
  rw [hng] at hl2
  rw [pushI_ok (by simp; omega),Option.bind_some,Option.bind_some,Option.bind_some]
  cases hz : a == 0 with
  | true =>
   rw [hz,cond_true] at hl2
   rw [cond_true]
   exact ih _ _ _ ⟨j + 1,x + 2 ^ j,rfl,rfl,by omega,by omega,by simp [hlj],by rw [hsel,← hl2]; simp⟩ (by omega)
  | false =>
   rw [hz,cond_false] at hl2
   rw [cond_false]
   exact ih _ _ _ ⟨j + 1,x,rfl,rfl,by omega,by omega,by simp [hlj],by rw [← hl2]; simp⟩ (by omega)
 ·have : j = ts.length:=by omega
  subst this
  rw [ltE,cond_false,hK1]
  rw [List.drop_length,gr,List.append_nil] at hl2
  rw [hl2]
def kp (N : Nat) (c : T_City) : List T_band_tour → List T_band_tour → List T_band_tour
 | _,[] => []
 | g,t :: ts => (bif ansOf N c g t == 0 then [t] else []) ++ kp N c (nextG N c g t) ts
theorem kp_length (N : Nat) (c : T_City) : ∀ (ts g : List T_band_tour),(kp N c g ts).length ≤ ts.length
 | [],_ => Nat.le_refl _
 | t :: ts,g => by
  rw [kp,List.length_append,List.length_cons]
  have:=kp_length N c ts (nextG N c g t)
  cases hz : ansOf N c g t == 0 <;> simp <;> omega
theorem gr_kp (N : Nat) (c : T_City) : ∀ (ts g : List T_band_tour),∀ a ∈ gr N c g (kp N c g ts),a = 0
 | [],g,a,h => by simp [kp,gr] at h
 | t :: ts,g,a,h => by
  rw [kp] at h
  cases hz : ansOf N c g t == 0 with
  | true =>
   have hn : nextG N c g t = g ++ [t]:=by unfold nextG; rw [hz,cond_true]
   rw [hz,cond_true,List.singleton_append,gr,List.mem_cons] at h
   rcases h with rfl | h
   ·exact eq_of_beq hz
   ·exact gr_kp N c ts _ a h
  | false =>
   have hn : nextG N c g t = g:=by unfold nextG; rw [hz,cond_false]
   rw [hz,cond_false,List.nil_append,hn] at h
   exact gr_kp N c ts g a h
def kept (l : List T_Band) (e : List Int) : List T_Band:=((l.zip e).filter fun p => p.2 == 0).map (·.1)
theorem kept_gr (N : Nat) (c : T_City) : ∀ (ts g : List T_band_tour),kept (ts.map (·.Band)) (gr N c g ts) = (kp N c g ts).map (·.Band)
 | [],g => by simp [kept,kp]
 | t :: ts,g => by
  have ih:=kept_gr N c ts (nextG N c g t)
  unfold kept at ih ⊢
  rw [List.map_cons,gr,kp,List.zip_cons_cons]
  cases hz : ansOf N c g t == 0 with
  | true => rw [List.filter_cons_of_pos (by simpa using hz),List.map_cons,ih]; simp
  | false => rw [List.filter_cons_of_neg (by simpa using hz),ih]; simp
theorem kept_cons (b : T_Band) (l : List T_Band) (x : Int) (e : List Int) : kept (b :: l) (x :: e) = (bif x == 0 then [b] else []) ++ kept l e:=by
 unfold kept
 rw [List.zip_cons_cons]
 cases hz : x == 0 with
 | true => rw [List.filter_cons_of_pos (by simpa using hz)]; simp
 | false => rw [List.filter_cons_of_neg (by simpa using hz)]; simp
end Go.Proofs.YtkchfjblcfbajaaDoor
end
section
namespace Go.Proofs.YtkchfjblcfbajaaDoor
open Go.RowKit
attribute [local simp] ren ren1 AV.plain AV.plain1 AV.clean cleanL cleanI cleanBo cleanSt cleanII plFB clFB faFB KL_bk_Drum KL_Span KL_Street KL_Group KL_Town KL_City KL_Band KL_band_tour KL_band_visit KL_V12_bool KL_band_requests KL_band_request A_bk_Drum C_bk_Drum A_Span C_Span A_Street C_Street A_Group C_Group A_Town C_Town A_City C_City A_Band C_Band A_band_tour C_band_tour A_band_visit C_band_visit A_V12_bool C_V12_bool A_band_requests C_band_requests A_band_request C_band_request back back1 List.idxOf? List.findIdx? List.findIdx?.go re re1 KB_bk_Drum KB_Span KB_Street KB_Group KB_Town KB_City KB_Band KB_band_tour KB_band_visit KB_V12_bool KB_band_requests KB_band_request fadeS fadeV
def v_math_bits_OnesCount32 (r : Int) : AV:=i6 r
attribute [local simp] v_math_bits_OnesCount32
def p_math_bits_OnesCount64 (N : Nat) (x_1 : Int) : Option (Int):=((some (IntKind.u64.wrap (((BitVec.ofInt (IntKind.bits .u64) (Int.fdiv x_1 ((2 : Int) ^ (min (Int.toNat 1) (IntKind.bits .u64)))) &&& BitVec.ofInt (IntKind.bits .u64) 6148914691236517205).toNat : Nat) : Int))).bind fun n_2 => ((some (IntKind.u64.wrap (((BitVec.ofInt (IntKind.bits .u64) x_1 &&& BitVec.ofInt (IntKind.bits .u64) 6148914691236517205).toNat : Nat) : Int))).bind fun n_3 => ((some (IntKind.u64.wrap (((BitVec.ofInt (IntKind.bits .u64) (Int.fdiv (IntKind.u64.wrap (n_2 + n_3)) ((2 : Int) ^ (min (Int.toNat 2) (IntKind.bits .u64)))) &&& BitVec.ofInt (IntKind.bits .u64) 3689348814741910323).toNat : Nat) : Int))).bind fun n_4 => ((some (IntKind.u64.wrap (((BitVec.ofInt (IntKind.bits .u64) (IntKind.u64.wrap (n_2 + n_3)) &&& BitVec.ofInt (IntKind.bits .u64) 3689348814741910323).toNat : Nat) : Int))).bind fun n_5 => ((some (IntKind.u64.wrap ((Int.fdiv (IntKind.u64.wrap (n_4 + n_5)) ((2 : Int) ^ (min (Int.toNat 4) (IntKind.bits .u64)))) + (IntKind.u64.wrap (n_4 + n_5))))).bind fun n_6 => ((some (IntKind.u64.wrap (((BitVec.ofInt (IntKind.bits .u64) n_6 &&& BitVec.ofInt (IntKind.bits .u64) 1085102592571150095).toNat : Nat) : Int))).bind fun n_7 => ((some (Int.fdiv (IntKind.u64.wrap (n_7 + (Int.fdiv n_7 ((2 : Int) ^ (min (Int.toNat 8) (IntKind.bits .u64)))))) ((2 : Int) ^ (min (Int.toNat 16) (IntKind.bits .u64))))).bind fun n_8 => ((some (IntKind.u64.wrap ((IntKind.u64.wrap (n_7 + (Int.fdiv n_7 ((2 : Int) ^ (min (Int.toNat 8) (IntKind.bits .u64)))))) + n_8))).bind fun n_9 => ((some (IntKind.i64.wrap (((BitVec.ofInt (IntKind.bits .i64) (IntKind.i64.wrap (IntKind.u64.wrap (n_9 + (Int.fdiv n_9 ((2 : Int) ^ (min (Int.toNat 32) (IntKind.bits .u64))))))) &&& BitVec.ofInt (IntKind.bits .i64) 127).toNat : Nat) : Int))).bind fun n_10 => some n_10)))))))))
def v_math_bits_OnesCount64 (r : Int) : AV:=i6 r
attribute [local simp] v_math_bits_OnesCount64
theorem a_math_bits_OnesCount64 (x_1 : Int) : [.int .u64 x_1].mapM (ren []) = some [.int .u64 x_1]:=by simp
theorem b_math_bits_OnesCount64 (r : Int) (n n2 m : Nat) : back n n2 m (v_math_bits_OnesCount64 r) = some (v_math_bits_OnesCount64 r):=by simp
theorem d_math_bits_OnesCount64 (N : Nat) (x_1 : Int) (r : Int) (h : p_math_bits_OnesCount64 N x_1 = some r) : Does Tryd.prog 126 [.int .u64 x_1] [] fun v c => v = v_math_bits_OnesCount64 r ∧ c = []:=by
 unfold p_math_bits_OnesCount64 at h
 refine Does.ofL comp126 _ _ rfl rfl ?_
 refine Ex.seq (rg 1 [0] (mkS 35 [(0,.int .u64 x_1)]) ⟨[],[]⟩ ?_)
 refine Ex.seq ?_
 obtain ⟨n_2,hn_2,h⟩:=bE h
 obtain ⟨n_3,hn_3,h⟩:=bE h
 refine regH 7 [(2,.eq (.int .u64 n_2)),(4,.eq (.int .u64 n_3))] [0] [AV.int .u64 (IntKind.u64.wrap (((BitVec.ofInt (IntKind.bits .u64) (Int.fdiv x_1 ((2 : Int) ^ (min (Int.toNat 1) (IntKind.bits .u64)))) &&& BitVec.ofInt (IntKind.bits .u64) 6148914691236517205).toNat : Nat) : Int)) = AV.int .u64 n_2,AV.int .u64 (IntKind.u64.wrap (((BitVec.ofInt (IntKind.bits .u64) x_1 &&& BitVec.ofInt (IntKind.bits .u64) 6148914691236517205).toNat : Nat) : Int)) = AV.int .u64 n_3] (mkS 35 [(0,.int .u64 (IntKind.u64.wrap (n_2 + n_3)))]) (⟨[],[]⟩) (by kernel_rfl) ⟨congrArg (AV.int .u64) (Option.some.inj hn_2),congrArg (AV.int .u64) (Option.some.inj hn_3),trivial⟩ rfl ?_
 refine Ex.seq ?_
 obtain ⟨n_4,hn_4,h⟩:=bE h
 obtain ⟨n_5,hn_5,h⟩:=bE h
 refine regH 7 [(2,.eq (.int .u64 n_4)),(4,.eq (.int .u64 n_5))] [0] [AV.int .u64 (IntKind.u64.wrap (((BitVec.ofInt (IntKind.bits .u64) (Int.fdiv (IntKind.u64.wrap (n_2 + n_3)) ((2 : Int) ^ (min (Int.toNat 2) (IntKind.bits .u64)))) &&& BitVec.ofInt (IntKind.bits .u64) 3689348814741910323).toNat : Nat) : Int)) = AV.int .u64 n_4,AV.int .u64 (IntKind.u64.wrap (((BitVec.ofInt (IntKind.bits .u64) (IntKind.u64.wrap (n_2 + n_3)) &&& BitVec.ofInt (IntKind.bits .u64) 3689348814741910323).toNat : Nat) : Int)) = AV.int .u64 n_5] (mkS 35 [(0,.int .u64 (IntKind.u64.wrap (n_4 + n_5)))]) (⟨[],[]⟩) (by kernel_rfl) ⟨congrArg (AV.int .u64) (Option.some.inj hn_4),congrArg (AV.int .u64) (Option.some.inj hn_5),trivial⟩ rfl ?_
 refine Ex.seq ?_
 obtain ⟨n_6,hn_6,h⟩:=bE h
 obtain ⟨n_7,hn_7,h⟩:=bE h
 refine regH 6 [(3,.eq (.int .u64 n_6)),(4,.eq (.int .u64 n_7))] [0] [AV.int .u64 (IntKind.u64.wrap ((Int.fdiv (IntKind.u64.wrap (n_4 + n_5)) ((2 : Int) ^ (min (Int.toNat 4) (IntKind.bits .u64)))) + (IntKind.u64.wrap (n_4 + n_5)))) = AV.int .u64 n_6,AV.int .u64 (IntKind.u64.wrap (((BitVec.ofInt (IntKind.bits .u64) n_6 &&& BitVec.ofInt (IntKind.bits .u64) 1085102592571150095).toNat : Nat) : Int)) = AV.int .u64 n_7] (mkS 35 [(0,.int .u64 n_7)]) (⟨[],[]⟩) (by kernel_rfl) ⟨congrArg (AV.int .u64) (Option.some.inj hn_6),congrArg (AV.int .u64) (Option.some.inj hn_7),trivial⟩ rfl ?_
 refine Ex.seq (rg 5 [0] (mkS 35 [(0,.int .u64 (IntKind.u64.wrap (n_7 + (Int.fdiv n_7 ((2 : Int) ^ (min (Int.toNat 8) (IntKind.bits .u64)))))))]) ⟨[],[]⟩ ?_)
 refine Ex.seq ?_
 obtain ⟨n_8,hn_8,h⟩:=bE h
 obtain ⟨n_9,hn_9,h⟩:=bE h
 refine regH 5 [(2,.eq (.int .u64 n_8)),(3,.eq (.int .u64 n_9))] [0] [AV.int .u64 (Int.fdiv (IntKind.u64.wrap (n_7 + (Int.fdiv n_7 ((2 : Int) ^ (min (Int.toNat 8) (IntKind.bits .u64)))))) ((2 : Int) ^ (min (Int.toNat 16) (IntKind.bits .u64)))) = AV.int .u64 n_8,AV.int .u64 (IntKind.u64.wrap ((IntKind.u64.wrap (n_7 + (Int.fdiv n_7 ((2 : Int) ^ (min (Int.toNat 8) (IntKind.bits .u64)))))) + n_8)) = AV.int .u64 n_9] (mkS 35 [(0,.int .u64 n_9)]) (⟨[],[]⟩) (by kernel_rfl) ⟨congrArg (AV.int .u64) (Option.some.inj hn_8),congrArg (AV.int .u64) (Option.some.inj hn_9),trivial⟩ rfl ?_
 refine Ex.seq (rg 5 [0] (mkS 35 [(0,.int .u64 (IntKind.u64.wrap (n_9 + (Int.fdiv n_9 ((2 : Int) ^ (min (Int.toNat 32) (IntKind.bits .u64)))))))]) ⟨[],[]⟩ ?_)
 refine Ex.seq ?_
 obtain ⟨n_10,hn_10,h⟩:=bE h
 refine regH 4 [(2,.eq (i6 n_10))] [2] [AV.int .i64 (IntKind.i64.wrap (((BitVec.ofInt (IntKind.bits .i64) (IntKind.i64.wrap (IntKind.u64.wrap (n_9 + (Int.fdiv n_9 ((2 : Int) ^ (min (Int.toNat 32) (IntKind.bits .u64))))))) &&& BitVec.ofInt (IntKind.bits .i64) 127).toNat : Nat) : Int)) = AV.int .i64 n_10] (mkS 35 [(2,i6 n_10)]) (⟨[],[]⟩) (by kernel_rfl) ⟨congrArg (AV.int .i64) (Option.some.inj hn_10),trivial⟩ rfl ?_
 refine Ex.ret ?_
 obtain rfl:=sJ h
 exact rt (i6 n_10)
def p_math_bits_OnesCount (N : Nat) (x_1 : Int) : Option (Int):=((p_math_bits_OnesCount64 N x_1).bind fun r_2 => some r_2)
def v_math_bits_OnesCount (r : Int) : AV:=i6 r
attribute [local simp] v_math_bits_OnesCount
theorem a_math_bits_OnesCount (x_1 : Int) : [.int .u64 x_1].mapM (ren []) = some [.int .u64 x_1]:=by simp
theorem b_math_bits_OnesCount (r : Int) (n n2 m : Nat) : back n n2 m (v_math_bits_OnesCount r) = some (v_math_bits_OnesCount r):=by simp
theorem d_math_bits_OnesCount (N : Nat) (x_1 : Int) (r : Int) (h : p_math_bits_OnesCount N x_1 = some r) : Does Tryd.prog 124 [.int .u64 x_1] [] fun v c => v = v_math_bits_OnesCount r ∧ c = []:=by
 unfold p_math_bits_OnesCount at h
 refine Does.ofL comp124 _ _ rfl rfl ?_
 refine Ex.seq (rg 1 [0] (mkS 8 [(0,.int .u64 x_1)]) ⟨[],[]⟩ ?_)
 refine Ex.seq ?_
 refine Ex.cond (b:=false) rfl ?_
 refine Ex.skip ?_
 refine Ex.seq ?_
 obtain ⟨r_2,hr_2,h⟩:=bE h
 refine Ex.reg (rn 1 [6] (mkS 8 [(6,.int .u64 x_1)]) ⟨[],[]⟩ ?_)
 refine ExO.callL [] [.int .u64 x_1] rfl rfl (a_math_bits_OnesCount64 x_1) rfl rfl (d_math_bits_OnesCount64 N x_1 r_2 hr_2) (b_math_bits_OnesCount64 _ _ _ _) rfl ?_
 refine rn 1 [2] (mkS 8 [(2,i6 r_2)]) ⟨[],[]⟩ ?_
 refine ExO.nil ?_
 refine Ex.ret ?_
 obtain rfl:=sJ h
 exact rt (i6 r_2)
def p_band_choice_count (N : Nat) (x_1 : Int) : Option (Int):=((p_math_bits_OnesCount N x_1).bind fun r_2 => some r_2)
def v_band_choice_count (r : Int) : AV:=i6 r
attribute [local simp] v_band_choice_count
theorem b_band_choice_count (r : Int) (n n2 m : Nat) : back n n2 m (v_band_choice_count r) = some (v_band_choice_count r):=by simp
theorem d_band_choice_count (N : Nat) (x_1 : Int) (r : Int) (h : p_band_choice_count N x_1 = some r) : Does Tryd.prog 117 [.int .u64 x_1] [] fun v c => v = v_band_choice_count r ∧ c = []:=by
 unfold p_band_choice_count at h
 refine Does.ofL comp117 _ _ rfl rfl ?_
 refine Ex.seq (rg 1 [0] (mkS 5 [(0,.int .u64 x_1)]) ⟨[],[]⟩ ?_)
 refine Ex.seq ?_
 obtain ⟨r_2,hr_2,h⟩:=bE h
 refine Ex.reg (rn 1 [3] (mkS 5 [(3,.int .u64 x_1)]) ⟨[],[]⟩ ?_)
 refine ExO.callL [] [.int .u64 x_1] rfl rfl (a_math_bits_OnesCount x_1) rfl rfl (d_math_bits_OnesCount N x_1 r_2 hr_2) (b_math_bits_OnesCount _ _ _ _) rfl ?_
 refine rn 1 [2] (mkS 5 [(2,i6 r_2)]) ⟨[],[]⟩ ?_
 refine ExO.nil ?_
 refine Ex.ret ?_
 obtain rfl:=sJ h
 exact rt (i6 r_2)
def p_cmp_isNaN_int (N : Nat) (x_1 : Int) : Option (Bool):=some (x_1 != x_1)
def v_cmp_isNaN_int (r : Bool) : AV:=.bool r
attribute [local simp] v_cmp_isNaN_int
theorem a_cmp_isNaN_int (x_1 : Int) : [i6 x_1].mapM (ren []) = some [i6 x_1]:=by simp
theorem b_cmp_isNaN_int (r : Bool) (n n2 m : Nat) : back n n2 m (v_cmp_isNaN_int r) = some (v_cmp_isNaN_int r):=by simp
theorem d_cmp_isNaN_int (N : Nat) (x_1 : Int) (r : Bool) (h : p_cmp_isNaN_int N x_1 = some r) : Does Tryd.prog 123 [i6 x_1] [] fun v c => v = v_cmp_isNaN_int r ∧ c = []:=by
 unfold p_cmp_isNaN_int at h
 refine Does.ofL comp123 _ _ rfl rfl ?_
 refine Ex.seq (rg 1 [0] (mkS 6 [(0,i6 x_1)]) ⟨[],[]⟩ ?_)
 refine Ex.seq (rg 4 [2] (mkS 6 [(2,.bool (x_1 != x_1))]) ⟨[],[]⟩ ?_)
 refine Ex.ret ?_
 obtain rfl:=sJ h
 exact rt (.bool (x_1 != x_1))
def p_cmp_Compare_int (N : Nat) (x_1 : Int) (y_2 : Int) : Option (Int):=((p_cmp_isNaN_int N x_1).bind fun r_3 => ((p_cmp_isNaN_int N y_2).bind fun r_4 => (bif r_3 then (bif r_4 then some 0 else some (-1)) else (bif r_4 then some 1 else (bif (decide (x_1 < y_2)) then some (-1) else (bif (decide (x_1 > y_2)) then some 1 else some 0))))))
def v_cmp_Compare_int (r : Int) : AV:=i6 r
attribute [local simp] v_cmp_Compare_int
theorem a_cmp_Compare_int (x_1 : Int) (y_2 : Int) : [i6 x_1,i6 y_2].mapM (ren []) = some [i6 x_1,i6 y_2]:=by simp
theorem b_cmp_Compare_int (r : Int) (n n2 m : Nat) : back n n2 m (v_cmp_Compare_int r) = some (v_cmp_Compare_int r):=by simp
theorem d_cmp_Compare_int (N : Nat) (x_1 : Int) (y_2 : Int) (r : Int) (h : p_cmp_Compare_int N x_1 y_2 = some r) : Does Tryd.prog 116 [i6 x_1,i6 y_2] [] fun v c => v = v_cmp_Compare_int r ∧ c = []:=by
 unfold p_cmp_Compare_int at h
 refine Does.ofL comp116 _ _ rfl rfl ?_
 refine Ex.seq (rg 1 [0,1] (mkS 20 [(0,i6 x_1),(1,i6 y_2)]) ⟨[],[]⟩ ?_)
 refine Ex.seq ?_
 obtain ⟨r_3,hr_3,h⟩:=bE h
 refine Ex.reg (rn 1 [0,1,7] (mkS 20 [(0,i6 x_1),(1,i6 y_2),(7,i6 x_1)]) ⟨[],[]⟩ ?_)
 refine ExO.callL [] [i6 x_1] rfl rfl (a_cmp_isNaN_int x_1) rfl rfl (d_cmp_isNaN_int N x_1 r_3 hr_3) (b_cmp_isNaN_int _ _ _ _) rfl ?_
 refine rn 1 [0,1,5] (mkS 20 [(0,i6 x_1),(1,i6 y_2),(5,.bool r_3)]) ⟨[],[]⟩ ?_
 refine ExO.nil ?_
 refine Ex.seq ?_
 obtain ⟨r_4,hr_4,h⟩:=bE h
 refine Ex.reg (rn 1 [0,1,5,9] (mkS 20 [(0,i6 x_1),(1,i6 y_2),(5,.bool r_3),(9,i6 y_2)]) ⟨[],[]⟩ ?_)
 refine ExO.callL [] [i6 y_2] rfl rfl (a_cmp_isNaN_int y_2) rfl rfl (d_cmp_isNaN_int N y_2 r_4 hr_4) (b_cmp_isNaN_int _ _ _ _) rfl ?_
 refine rn 1 [0,1,5,6] (mkS 20 [(0,i6 x_1),(1,i6 y_2),(5,.bool r_3),(6,.bool r_4)]) ⟨[],[]⟩ ?_
 refine ExO.nil ?_
 refine Ex.seq (Ex.seq ?_)
 refine rg 1 [0,1,6,11] (mkS 20 [(0,i6 x_1),(1,i6 y_2),(6,.bool r_4),(11,.bool r_3)]) ⟨[],[]⟩ ?_
 rcases condI h with ⟨hc_5,h⟩ | ⟨hc_5,h⟩
 ·refine Ex.condT _ rfl hc_5 ?_
  refine Ex.seq (Ex.seq ?_)
  refine rg 1 [12] (mkS 20 [(12,.bool r_4)]) ⟨[],[]⟩ ?_
  rcases condI h with ⟨hc_6,h⟩ | ⟨hc_6,h⟩
  ·refine Ex.condT _ rfl hc_6 ?_
   refine Ex.seq (rg 1 [4] (mkS 20 [(4,i6 0)]) ⟨[],[]⟩ ?_)
   refine Ex.ret ?_
   obtain rfl:=sJ h
   exact rt (i6 0)
  ·refine Ex.condF _ rfl hc_6 ?_
   refine Ex.skip ?_
   refine Ex.seq (rg 1 [4] (mkS 20 [(4,i6 (-1))]) ⟨[],[]⟩ ?_)
   refine Ex.ret ?_
   obtain rfl:=sJ h
   exact rt (i6 (-1))
 ·refine Ex.condF _ rfl hc_5 ?_
  refine Ex.skip ?_
  refine Ex.seq (Ex.seq ?_)
  refine rg 1 [0,1,13] (mkS 20 [(0,i6 x_1),(1,i6 y_2),(13,.bool r_4)]) ⟨[],[]⟩ ?_
  rcases condI h with ⟨hc_7,h⟩ | ⟨hc_7,h⟩
  ·refine Ex.condT _ rfl hc_7 ?_
   refine Ex.seq (rg 1 [4] (mkS 20 [(4,i6 1)]) ⟨[],[]⟩ ?_)
   refine Ex.ret ?_
   obtain rfl:=sJ h
   exact rt (i6 1)
  ·refine Ex.condF _ rfl hc_7 ?_
   refine Ex.skip ?_
   refine Ex.seq (Ex.seq ?_)
   refine rg 3 [0,1,16] (mkS 20 [(0,i6 x_1),(1,i6 y_2),(16,.bool (decide (x_1 < y_2)))]) ⟨[],[]⟩ ?_
   rcases condI h with ⟨hc_8,h⟩ | ⟨hc_8,h⟩
   ·refine Ex.condT _ rfl hc_8 ?_
    refine Ex.seq (rg 1 [4] (mkS 20 [(4,i6 (-1))]) ⟨[],[]⟩ ?_)
    refine Ex.ret ?_
    obtain rfl:=sJ h
    exact rt (i6 (-1))
   ·refine Ex.condF _ rfl hc_8 ?_
    refine Ex.skip ?_
    refine Ex.seq (Ex.seq ?_)
    refine rg 3 [19] (mkS 20 [(19,.bool (decide (x_1 > y_2)))]) ⟨[],[]⟩ ?_
    rcases condI h with ⟨hc_9,h⟩ | ⟨hc_9,h⟩
    ·refine Ex.condT _ rfl hc_9 ?_
     refine Ex.seq (rg 1 [4] (mkS 20 [(4,i6 1)]) ⟨[],[]⟩ ?_)
     refine Ex.ret ?_
     obtain rfl:=sJ h
     exact rt (i6 1)
    ·refine Ex.condF _ rfl hc_9 ?_
     refine Ex.skip ?_
     refine Ex.seq (rg 1 [4] (mkS 20 [(4,i6 0)]) ⟨[],[]⟩ ?_)
     refine Ex.ret ?_
     obtain rfl:=sJ h
     exact rt (i6 0)
def p_band_requests_people (N : Nat) (r_1 : T_band_requests) (x_2 : Int) : Option (Int):=((p_band_choice_bands N x_2).bind fun r_3 => (letJ (fun (b_11 : Int) => some b_11) (fun k_12 => (letJ (fun (b_15 : Int) => (k_12 b_15)) (fun k_16 => (loop2 (fun rec_21 (rest_19 : Int) (b_20 : Int) => (bif (rest_19 != 0) then ((p_math_bits_TrailingZeros N rest_19).bind fun r_25 => (letJ (fun (b_34 : Int) => ((some (IntKind.u64.wrap (((BitVec.ofInt (IntKind.bits .u64) rest_19 &&& BitVec.ofInt (IntKind.bits .u64) (IntKind.u64.wrap (rest_19 - 1))).toNat : Nat) : Int))).bind fun n_39 => (rec_21 n_39 b_34))) (fun k_35 => ((getI r_1.tours_ r_25).bind fun x_38 => (k_35 (IntKind.i64.wrap (b_20 + x_38.Band.People))))))) else (k_16 b_20))) N r_3 0))))))
def v_band_requests_people (r : Int) : AV:=i6 r
attribute [local simp] v_band_requests_people
theorem a_band_requests_people (r_1 : T_band_requests) (x_2 : Int) : [(A_band_requests r_1),.int .u64 x_2].mapM (ren []) = some [(A_band_requests r_1),.int .u64 x_2]:=by simp
theorem b_band_requests_people (r : Int) (n n2 m : Nat) : back n n2 m (v_band_requests_people r) = some (v_band_requests_people r):=by simp
theorem d_band_requests_people (N : Nat) (r_1 : T_band_requests) (x_2 : Int) (r : Int) (h : p_band_requests_people N r_1 x_2 = some r) : Does Tryd.prog 118 [(A_band_requests r_1),.int .u64 x_2] [] fun v c => v = v_band_requests_people r ∧ c = []:=by
 unfold p_band_requests_people at h
 refine Does.ofL comp118 _ _ rfl rfl ?_
 refine Ex.seq (rg 2 [1,2,4] (mkS 20 [(1,.int .u64 x_2),(2,.ptr 0 0),(4,i6 0)]) ⟨[(C_band_requests r_1)],[]⟩ ?_)
 refine Ex.seq (rg 2 [1,2,4,5] (mkS 20 [(1,.int .u64 x_2),(2,.ptr 0 0),(4,i6 0),(5,.ptr 1 0)]) ⟨[(C_band_requests r_1),[i6 0]],[]⟩ ?_)
 refine Ex.seq (Ex.seq ?_)
 obtain ⟨r_3,hr_3,h⟩:=bE h
 refine Ex.reg (rn 1 [2,4,5,7] (mkS 20 [(2,.ptr 0 0),(4,i6 0),(5,.ptr 1 0),(7,.int .u64 x_2)]) ⟨[(C_band_requests r_1),[i6 0]],[]⟩ ?_)
 refine ExO.callL [] [.int .u64 x_2] rfl rfl (a_band_choice_bands x_2) rfl rfl (d_band_choice_bands N x_2 r_3 hr_3) (b_band_choice_bands _ _ _ _) rfl ?_
 refine rn 0 [2,4,5,8] (mkS 20 [(2,.ptr 0 0),(4,i6 0),(5,.ptr 1 0),(8,.fn 105 [] [.rop [.int .u64 r_3]])]) ⟨[(C_band_requests r_1),[i6 0]],[]⟩ ?_
 refine ExO.nil ?_
 refine Ex.blockK ?_
 obtain ⟨K_13,hK_14,h⟩:=letE h
 refine Ex.rangeJ (fun k S => (k = 0 ∧ ∃ (b_11 : Int),K_13 b_11 = some r ∧ S = ⟨[(C_band_requests r_1),[i6 b_11]],[(0,0)]⟩)) 105 [.rop [.int .u64 r_3]] _ rfl comp105 rfl (by simp [setAll]) (by exact trivial) (mkS 16 [(1,.rop [.int .u64 r_3]),(2,.tup []),(3,.tup []),(4,.tup []),(5,.tup []),(6,.tup []),(7,.tup []),(8,.tup []),(9,.tup []),(10,.tup []),(11,.tup []),(12,.tup []),(13,.tup []),(14,.tup []),(15,.tup [])]) (⟨[(C_band_requests r_1),[i6 0]],[(0,0)]⟩) (fun _ => by kernel_rfl) (by kernel_rfl) ?_ ?_
 ·intro cx_5 Lp_4 hcn_6 hcm_7 hLt_8 hL_9 hup_10
  refine Ex.castA (a2:=mkS 16 [(0,.yld Lp_4.l 0),(1,.rop [.int .u64 r_3]),(2,.tup []),(3,.tup []),(4,.tup []),(5,.tup []),(6,.tup []),(7,.tup []),(8,.tup []),(9,.tup []),(10,.tup []),(11,.tup []),(12,.tup []),(13,.tup []),(14,.tup []),(15,.tup [])]) (S2:=⟨[(C_band_requests r_1),[i6 0]],[(0,0)]⟩) (by kernel_rfl) rfl ?_
  refine Ex.seq (rg 2 [0,3] (mkS 16 [(0,.yld Lp_4.l 0),(3,.int .u64 r_3)]) ⟨[(C_band_requests r_1),[i6 0]],[(0,0)]⟩ ?_)
  obtain ⟨K_17,hK_18,h⟩:=letE h
  refine Ex.blockJ (fun a S => ∃ (b_15 : Int),K_17 b_15 = some r ∧ a = mkS 16 [] ∧ S = ⟨[(C_band_requests r_1),[i6 b_15]],[(0,0)]⟩) ?_ ?_
  ·obtain ⟨B_22,hB_23,h⟩:=loop2I h
   refine Ex.loopF (fun k a S => ∃ (rest_19 : Int),∃ (b_20 : Int),loop2 B_22 k rest_19 b_20 = some r ∧ a = mkS 16 [(0,.yld Lp_4.l 0),(3,.int .u64 rest_19)] ∧ S = ⟨[(C_band_requests r_1),[i6 b_20]],[(0,0)]⟩) N ⟨_,_,Forgets.refl _ _ _,r_3,0,h,rfl,rfl⟩ ?_
   rintro k a S ⟨rest_19,b_20,h,rfl,rfl⟩
   cases k with
   | zero => exact (loop2Z h).elim
   | succ k =>
    replace h:=loop2S h hB_23
    refine Ex.seq (Ex.seq ?_)
    refine rg 2 [0,3,6] (mkS 16 [(0,.yld Lp_4.l 0),(3,.int .u64 rest_19),(6,.bool (rest_19 != 0))]) ⟨[(C_band_requests r_1),[i6 b_20]],[(0,0)]⟩ ?_
    rcases condI h with ⟨hc_24,h⟩ | ⟨hc_24,h⟩
    ·refine Ex.condT _ rfl hc_24 ?_
     refine Ex.skip ?_
     refine Ex.seq ?_
     refine Ex.blockK ?_
     refine Ex.seq ?_
     obtain ⟨r_25,hr_25,h⟩:=bE h
     refine Ex.regI ?_
     refine runI 2 [] [0,3,11,12] [] (mkS 16 [(0,.yld Lp_4.l 0),(3,.int .u64 rest_19),(11,.yld Lp_4.l 0),(12,.int .u64 rest_19)]) (⟨[(C_band_requests r_1),[i6 b_20]],[(0,0)]⟩) (by kernel_rfl) trivial ?_
     refine ExI.one ?_
     refine ExO.callL [] [.int .u64 rest_19] rfl rfl (a_math_bits_TrailingZeros rest_19) rfl rfl (d_math_bits_TrailingZeros N rest_19 r_25 hr_25) (b_math_bits_TrailingZeros _ _ _ _) rfl ?_
     refine ExO.nil ?_
     obtain ⟨K_36,hK_37,h⟩:=letE h
     refine ExI.yieldT 0 hLt_8 hL_9 [i6 r_25] rfl rfl rfl (by kernel_rfl) rfl rfl (leC hcn_6 (by simp [setAll])) ?_
     intro ca_26 cb_27 ha_28 hb_29 hma_30 hmb_31 hup_32 hbz_33
     refine Ex.castA (a2:=mkS 20 [(2,.ptr 0 0),(4,i6 0),(5,.ptr 1 0),(8,.fn 105 [] [.rop [.int .u64 r_3]]),(9,i6 r_25)]) (S2:=⟨[(C_band_requests r_1),[i6 b_20]],[(0,0)]⟩) (by kernel_rfl) (by kernel_rfl) ?_
     refine Ex.two (fun z S => (z = AEx.norm ∧ ∃ (b_34 : Int),K_36 b_34 = some r ∧ S = ⟨[(C_band_requests r_1),[i6 b_34]],[(0,0)]⟩)) ?_ ?_
     ·refine rg 1 [2,5,6] (mkS 20 [(2,.ptr 0 0),(5,.ptr 1 0),(6,i6 r_25)]) ⟨[(C_band_requests r_1),[i6 b_20]],[(0,0)]⟩ ?_
      refine ⟨rfl,rfl,?_⟩
      refine Ex.blockK ?_
      obtain ⟨x_38,hx_38,h⟩:=bE h
      refine Ex.drawE (a1:=mkS 20 [(2,.ptr 0 0),(5,.ptr 1 0),(6,i6 r_25),(10,i6 b_20),(11,.ptr 0 6),(12,.sl (r_1.tours_.map A_band_tour) none),(13,i6 r_25),(14,.rop (C_band_tour x_38)),(15,.rop (C_band_tour x_38)),(16,.rop [i6 x_38.Band.People,.sl (x_38.squares_.map (AV.int .i64)) none]),(17,i6 x_38.Band.People)]) (noClr_ok _) [] [] [] ?_ ?_
      ·refine drS [0,1] 8 [(4,.rop (C_band_tour x_38))] [LGet (r_1.tours_.map A_band_tour) r_25 7 (C_band_tour x_38)] (mkS 20 [(2,.ptr 0 0),(5,.ptr 1 0),(6,i6 r_25),(10,i6 b_20),(11,.ptr 0 6),(12,.sl (r_1.tours_.map A_band_tour) none),(13,i6 r_25),(14,.rop (C_band_tour x_38)),(15,.rop (C_band_tour x_38)),(16,.rop [i6 x_38.Band.People,.sl (x_38.squares_.map (AV.int .i64)) none]),(17,i6 x_38.Band.People)]) (by simp) (by kernel_rfl) ⟨LGet.of hx_38 rfl,trivial⟩ (by kernel_rfl) ?_
       exact DrO.nil rfl
      ·dsimp only [List.getLastD_cons,List.getLastD_nil]
       refine rn 2 [] (mkS 20 []) ⟨[(C_band_requests r_1),[i6 (IntKind.i64.wrap (b_20 + x_38.Band.People))]],[(0,0)]⟩ ?_
       refine ExO.nil ?_
       (try simp only [reduceCtorEq,AEx.ex.injEq,Nat.reduceEqDiff,if_true,if_false])
       exact ⟨_,_,Forgets.refl _ _ _,⟨by first | rfl | trivial,(IntKind.i64.wrap (b_20 + x_38.Band.People)),h,rfl⟩⟩
     ·rintro z a2 S (⟨rfl,b_34,h,rfl⟩)
      subst hK_37
      refine runI 1 [] [0,3,15] [] (mkS 16 [(0,.yld Lp_4.l 0),(3,.int .u64 rest_19),(15,.bool false)]) (⟨[(C_band_requests r_1),[i6 b_34]],[(0,0)]⟩) (by kernel_rfl) trivial ?_
      refine ExI.nil ?_
      refine Ex.cond (b:=false) rfl ?_
      refine Ex.skip ?_
      obtain ⟨n_39,hn_39,h⟩:=bE h
      refine regH 5 [(3,.eq (.int .u64 n_39))] [0,3] [AV.int .u64 (IntKind.u64.wrap (((BitVec.ofInt (IntKind.bits .u64) rest_19 &&& BitVec.ofInt (IntKind.bits .u64) (IntKind.u64.wrap (rest_19 - 1))).toNat : Nat) : Int)) = AV.int .u64 n_39] (mkS 16 [(0,.yld Lp_4.l 0),(3,.int .u64 n_39)]) (⟨[(C_band_requests r_1),[i6 b_34]],[(0,0)]⟩) (by kernel_rfl) ⟨congrArg (AV.int .u64) (Option.some.inj hn_39),trivial⟩ rfl ?_
      dsimp only
      exact ⟨_,_,Forgets.refl _ _ _,k,Nat.lt_succ_self k,n_39,b_34,h,rfl,rfl⟩
    ·refine Ex.condF _ rfl hc_24 ?_
     refine Ex.exit ?_
     (try simp only [reduceCtorEq,AEx.ex.injEq,Nat.reduceEqDiff,if_true,if_false])
     exact ⟨_,_,forgetK [],b_20,h,rfl,rfl⟩
  ·rintro a S ⟨b_15,h,rfl,rfl⟩
   subst hK_18
   exact ⟨_,_,Forgets.refl _ _ _,.inl rfl,0,rfl,⟨by first | rfl | trivial,b_15,h,rfl⟩⟩
 ·rintro k S (⟨rfl,b_11,h,rfl⟩)
  subst hK_14
  refine Ex.seq (rg 2 [4] (mkS 20 [(4,i6 b_11)]) ⟨[(C_band_requests r_1),[i6 b_11]],[(0,0)]⟩ ?_)
  refine Ex.ret ?_
  obtain rfl:=sJ h
  exact rt (i6 b_11)
def p_cmp_Or_int (N : Nat) (vals_1 : (List Int)) : Option (Int):=(letJ (fun (_ : Unit) => some 0) (fun k_2 => (loop1 (fun rec_6 (y_5 : Int) => (bif (decide (y_5 < ((vals_1.length : Nat) : Int))) then ((getI vals_1 y_5).bind fun x_10 => (bif (x_10 != 0) then some x_10 else (rec_6 (IntKind.i64.wrap (y_5 + 1))))) else (k_2 ()))) N 0)))
def v_cmp_Or_int (r : Int) : AV:=i6 r
attribute [local simp] v_cmp_Or_int
theorem a_cmp_Or_int (vals_1 : (List Int)) : [.sl (vals_1.map (AV.int .i64)) none].mapM (ren []) = some [.sl (vals_1.map (AV.int .i64)) none]:=by simp
theorem b_cmp_Or_int (r : Int) (n n2 m : Nat) : back n n2 m (v_cmp_Or_int r) = some (v_cmp_Or_int r):=by simp
theorem d_cmp_Or_int (N : Nat) (vals_1 : (List Int)) (r : Int) (h : p_cmp_Or_int N vals_1 = some r) : Does Tryd.prog 115 [.sl (vals_1.map (AV.int .i64)) none] [] fun v c => v = v_cmp_Or_int r ∧ c = []:=by
 unfold p_cmp_Or_int at h
 refine Does.ofL comp115 _ _ rfl rfl ?_
 refine Ex.seq (rg 1 [0] (mkS 18 [(0,.sl (vals_1.map (AV.int .i64)) none)]) ⟨[],[]⟩ ?_)
 refine Ex.seq (rg 1 [0,3] (mkS 18 [(0,.sl (vals_1.map (AV.int .i64)) none),(3,i6 0)]) ⟨[],[]⟩ ?_)
 refine Ex.seq (Ex.seq ?_)
 refine regH 3 [(1,.eq (i6 ((vals_1.length : Nat) : Int)))] [3,6,7,8] [AV.int .i64 (((vals_1.map (AV.int .i64)).length : Nat) : Int) = AV.int .i64 ((vals_1.length : Nat) : Int)] (mkS 18 [(3,i6 0),(6,.sl (vals_1.map (AV.int .i64)) none),(7,i6 ((vals_1.length : Nat) : Int)),(8,i6 0)]) (⟨[],[]⟩) (by kernel_rfl) ⟨lenM _ _,trivial⟩ rfl ?_
 obtain ⟨K_3,hK_4,h⟩:=letE h
 refine Ex.blockJ (fun a S => K_3 () = some r ∧ a = mkS 18 [(3,i6 0)] ∧ S = ⟨[],[]⟩) ?_ ?_
 ·obtain ⟨B_7,hB_8,h⟩:=loop1I h
  refine Ex.loopF (fun k a S => ∃ (y_5 : Int),loop1 B_7 k y_5 = some r ∧ a = mkS 18 [(3,i6 0),(6,.sl (vals_1.map (AV.int .i64)) none),(7,i6 ((vals_1.length : Nat) : Int)),(8,i6 y_5)] ∧ S = ⟨[],[]⟩) N ⟨_,_,Forgets.refl _ _ _,0,h,rfl,rfl⟩ ?_
  rintro k a S ⟨y_5,h,rfl,rfl⟩
  cases k with
  | zero => exact (loop1Z h).elim
  | succ k =>
   replace h:=loop1S h hB_8
   refine Ex.seq (rg 1 [3,6,7,8,9] (mkS 18 [(3,i6 0),(6,.sl (vals_1.map (AV.int .i64)) none),(7,i6 ((vals_1.length : Nat) : Int)),(8,i6 y_5),(9,.bool (decide (y_5 < ((vals_1.length : Nat) : Int))))]) ⟨[],[]⟩ ?_)
   refine Ex.seq ?_
   rcases condI h with ⟨hc_9,h⟩ | ⟨hc_9,h⟩
   ·refine Ex.condT _ rfl hc_9 ?_
    refine Ex.skip ?_
    refine Ex.seq ?_
    refine Ex.blockK ?_
    refine Ex.seq ?_
    obtain ⟨x_10,hx_10,h⟩:=bE h
    refine regH 3 [(0,.rop [i6 x_10])] [3,5,6,7,8] [LGet (vals_1.map (AV.int .i64)) y_5 1 [i6 x_10]] (mkS 18 [(3,i6 0),(5,i6 x_10),(6,.sl (vals_1.map (AV.int .i64)) none),(7,i6 ((vals_1.length : Nat) : Int)),(8,i6 y_5)]) (⟨[],[]⟩) (by kernel_rfl) ⟨LGet.of hx_10 rfl,trivial⟩ rfl ?_
    refine Ex.seq (rg 3 [3,5,6,7,8,14] (mkS 18 [(3,i6 0),(5,i6 x_10),(6,.sl (vals_1.map (AV.int .i64)) none),(7,i6 ((vals_1.length : Nat) : Int)),(8,i6 y_5),(14,.bool (x_10 != 0))]) ⟨[],[]⟩ ?_)
    rcases condI h with ⟨hc_11,h⟩ | ⟨hc_11,h⟩
    ·refine Ex.condT _ rfl hc_11 ?_
     refine Ex.seq (rg 2 [2] (mkS 18 [(2,i6 x_10)]) ⟨[],[]⟩ ?_)
     refine Ex.ret ?_
     obtain rfl:=sJ h
     exact rt (i6 x_10)
    ·refine Ex.condF _ rfl hc_11 ?_
     refine Ex.skip ?_
     refine rg 2 [3,6,7,8] (mkS 18 [(3,i6 0),(6,.sl (vals_1.map (AV.int .i64)) none),(7,i6 ((vals_1.length : Nat) : Int)),(8,i6 (IntKind.i64.wrap (y_5 + 1)))]) ⟨[],[]⟩ ?_
     dsimp only
     exact ⟨_,_,Forgets.refl _ _ _,k,Nat.lt_succ_self k,(IntKind.i64.wrap (y_5 + 1)),h,rfl,rfl⟩
   ·refine Ex.condF _ rfl hc_9 ?_
    refine Ex.exit ?_
    (try simp only [reduceCtorEq,AEx.ex.injEq,Nat.reduceEqDiff,if_true,if_false])
    exact ⟨_,_,forgetK [3],h,rfl,rfl⟩
 ·rintro a S ⟨h,rfl,rfl⟩
  subst hK_4
  refine Ex.seq (rg 2 [2] (mkS 18 [(2,i6 0)]) ⟨[],[]⟩ ?_)
  refine Ex.ret ?_
  obtain rfl:=sJ h
  exact rt (i6 0)
theorem k_band_choice_count (N : Nat) (x_1 : Int) (x_1z : Int) (r s : Int) (hr : p_band_choice_count N x_1 = some r) (hs : p_band_choice_count N x_1z = some s) : ConsR ⟨117,[.int .u64 x_1],[],v_band_choice_count r,[]⟩ ⟨117,[.int .u64 x_1z],[],v_band_choice_count s,[]⟩:=by
 intro _ h1 h2
 have h1 : ([.int .u64 x_1] : List AV) = [.int .u64 x_1z]:=h1
 have h2 : ([] : List (List AV)) = []:=h2
 obtain rfl : x_1 = x_1z:=(intInj _) _ _ (List.cons.inj h1).1
 rw [hr] at hs; cases hs; exact ⟨rfl,rfl⟩
def p_band_requests_compare (N : Nat) (r_1 : T_band_requests) (x_2 : Int) (y_3 : Int) : Option (Int):=((p_band_choice_count N x_2).bind fun r_4 => ((p_band_choice_count N y_3).bind fun r_5 => ((p_cmp_Compare_int N r_4 r_5).bind fun r_6 => ((p_band_requests_people N r_1 x_2).bind fun r_7 => ((p_band_requests_people N r_1 y_3).bind fun r_9 => ((p_cmp_Compare_int N r_7 r_9).bind fun r_10 => ((p_cmp_Or_int N [r_6,r_10]).bind fun r_11 => some r_11)))))))
def v_band_requests_compare (r : Int) : AV:=i6 r
attribute [local simp] v_band_requests_compare
theorem a_band_requests_compare (r_1 : T_band_requests) (x_2 : Int) (y_3 : Int) : [(A_band_requests r_1),.int .u64 x_2,.int .u64 y_3].mapM (ren []) = some [(A_band_requests r_1),.int .u64 x_2,.int .u64 y_3]:=by simp
theorem b_band_requests_compare (r : Int) (n n2 m : Nat) : back n n2 m (v_band_requests_compare r) = some (v_band_requests_compare r):=by simp
theorem d_band_requests_compare (N : Nat) (r_1 : T_band_requests) (x_2 : Int) (y_3 : Int) (r : Int) (h : p_band_requests_compare N r_1 x_2 y_3 = some r) : Does Tryd.prog 104 [(A_band_requests r_1),.int .u64 x_2,.int .u64 y_3] [] fun v c => v = v_band_requests_compare r ∧ c = []:=by
 unfold p_band_requests_compare at h
 refine Does.ofL comp104 _ _ rfl rfl ?_
 refine Ex.seq (rg 2 [1,2,3] (mkS 21 [(1,.int .u64 x_2),(2,.int .u64 y_3),(3,.ptr 0 0)]) ⟨[(C_band_requests r_1)],[]⟩ ?_)
 refine Ex.seq ?_
 obtain ⟨r_4,hr_4,h⟩:=bE h
 obtain ⟨r_5,hr_5,h⟩:=bE h
 obtain ⟨r_6,hr_6,h⟩:=bE h
 obtain ⟨r_7,hr_7,h⟩:=bE h
 have hT_8 : DoesA Tryd.prog [⟨117,[.int .u64 x_2],[],(v_band_choice_count r_4),[]⟩,⟨117,[.int .u64 y_3],[],(v_band_choice_count r_5),[]⟩,⟨116,[i6 r_4,i6 r_5],[],(v_cmp_Compare_int r_6),[]⟩,⟨118,[(A_band_requests r_1),.int .u64 x_2],[],(v_band_requests_people r_7),[]⟩] ∧ ConsA [⟨117,[.int .u64 x_2],[],(v_band_choice_count r_4),[]⟩,⟨117,[.int .u64 y_3],[],(v_band_choice_count r_5),[]⟩,⟨116,[i6 r_4,i6 r_5],[],(v_cmp_Compare_int r_6),[]⟩,⟨118,[(A_band_requests r_1),.int .u64 x_2],[],(v_band_requests_people r_7),[]⟩]:=⟨⟨(d_band_choice_count N x_2 r_4 hr_4),rfl,(d_band_choice_count N y_3 r_5 hr_5),rfl,(d_cmp_Compare_int N r_4 r_5 r_6 hr_6),rfl,(d_band_requests_people N r_1 x_2 r_7 hr_7),rfl,trivial⟩,⟨⟨k_band_choice_count N x_2 y_3 r_4 r_5 hr_4 hr_5,ConsR.ne rfl,ConsR.ne rfl,trivial⟩,⟨ConsR.ne rfl,ConsR.ne rfl,trivial⟩,⟨ConsR.ne rfl,trivial⟩,trivial,trivial⟩⟩
 refine Ex.drawE (a1:=mkS 21 [(1,.int .u64 x_2),(2,.int .u64 y_3),(3,.ptr 0 0),(7,.int .u64 x_2),(8,i6 r_4),(9,.int .u64 y_3),(10,i6 r_5),(11,i6 r_6),(12,(A_band_requests r_1)),(13,.int .u64 x_2),(14,i6 r_7),(15,(A_band_requests r_1)),(16,.int .u64 y_3)]) (tabO_ok hT_8.1) [] [] [] ?_ ?_
 ·refine drS [0] 1 [] [] (mkS 21 [(1,.int .u64 x_2),(2,.int .u64 y_3),(3,.ptr 0 0),(7,.int .u64 x_2)]) (by simp) (by kernel_rfl) trivial (by kernel_rfl) ?_
  refine drC hT_8.2 0 _ [.int .u64 x_2] (v_band_choice_count r_4) rfl rfl rfl rfl rfl (fun _ => rfl) rfl (by simp; try rfl) (fun _ => b_band_choice_count _ _ _ _) ?_
  refine drS [0] 1 [] [] (mkS 21 [(1,.int .u64 x_2),(2,.int .u64 y_3),(3,.ptr 0 0),(7,.int .u64 x_2),(8,i6 r_4),(9,.int .u64 y_3)]) (by simp) (by kernel_rfl) trivial (by kernel_rfl) ?_
  refine drC hT_8.2 1 _ [.int .u64 y_3] (v_band_choice_count r_5) rfl rfl rfl rfl rfl (fun _ => rfl) rfl (by simp; try rfl) (fun _ => b_band_choice_count _ _ _ _) ?_
  refine drC hT_8.2 2 _ [i6 r_4,i6 r_5] (v_cmp_Compare_int r_6) rfl rfl rfl rfl rfl (fun _ => rfl) rfl (by simp; try rfl) (fun _ => b_cmp_Compare_int _ _ _ _) ?_
  refine drS [0] 2 [] [] (mkS 21 [(1,.int .u64 x_2),(2,.int .u64 y_3),(3,.ptr 0 0),(7,.int .u64 x_2),(8,i6 r_4),(9,.int .u64 y_3),(10,i6 r_5),(11,i6 r_6),(12,(A_band_requests r_1)),(13,.int .u64 x_2)]) (by simp) (by kernel_rfl) trivial (by kernel_rfl) ?_
  refine drC hT_8.2 3 _ [(A_band_requests r_1),.int .u64 x_2] (v_band_requests_people r_7) rfl rfl rfl rfl rfl (fun _ => rfl) rfl (by simp; try rfl) (fun _ => b_band_requests_people _ _ _ _) ?_
  refine drS [0] 2 [] [] (mkS 21 [(1,.int .u64 x_2),(2,.int .u64 y_3),(3,.ptr 0 0),(7,.int .u64 x_2),(8,i6 r_4),(9,.int .u64 y_3),(10,i6 r_5),(11,i6 r_6),(12,(A_band_requests r_1)),(13,.int .u64 x_2),(14,i6 r_7),(15,(A_band_requests r_1)),(16,.int .u64 y_3)]) (by simp) (by kernel_rfl) trivial (by kernel_rfl) ?_
  exact DrO.nil rfl
 ·dsimp only [List.getLastD_cons,List.getLastD_nil]
  obtain ⟨r_9,hr_9,h⟩:=bE h
  refine ExO.callL [] [(A_band_requests r_1),.int .u64 y_3] rfl rfl (a_band_requests_people r_1 y_3) rfl rfl (d_band_requests_people N r_1 y_3 r_9 hr_9) (b_band_requests_people _ _ _ _) rfl ?_
  obtain ⟨r_10,hr_10,h⟩:=bE h
  refine ExO.callL [] [i6 r_7,i6 r_9] rfl rfl (a_cmp_Compare_int r_7 r_9) rfl rfl (d_cmp_Compare_int N r_7 r_9 r_10 hr_10) (b_cmp_Compare_int _ _ _ _) rfl ?_
  obtain ⟨r_11,hr_11,h⟩:=bE h
  refine rn 1 [19] (mkS 21 [(19,.sl (([r_6,r_10] : List Int).map (AV.int .i64)) (some 0))]) ⟨[(C_band_requests r_1)],[(2,1)]⟩ ?_
  refine ExO.callL [] [.sl (([r_6,r_10] : List Int).map (AV.int .i64)) (some 0)] rfl rfl (a_cmp_Or_int [r_6,r_10]) rfl rfl (d_cmp_Or_int N [r_6,r_10] r_11 hr_11) (b_cmp_Or_int _ _ _ _) rfl ?_
  refine rn 1 [6] (mkS 21 [(6,i6 r_11)]) ⟨[(C_band_requests r_1)],[(2,1)]⟩ ?_
  refine ExO.nil ?_
  refine Ex.ret ?_
  obtain rfl:=sJ h
  exact rt (i6 r_11)
def p_band_requests_best (N : Nat) (r_1 : T_band_requests) : Option (Int):=(letJ (fun (b_9 : Int) => some b_9) (fun k_41 => ((loop3 (ρ:=(Int)) (fun rec_10 (chosen_6 : Int) (next_7 : Int) (b_8 : Int) => (bif (next_7 == ((r_1.tours_.length : Nat) : Int)) then ((p_band_requests_compare N r_1 chosen_6 b_8).bind fun r_19 => (bif (decide (r_19 > 0)) then some chosen_6 else some b_8)) else (letJ (fun (b_21 : Int) => (letJ (fun (b_37 : Int) => some b_37) (fun k_38 => ((rec_10 chosen_6 (IntKind.i64.wrap (next_7 + 1)) b_21).bind fun s_35 => ((fun t => k_38 t) s_35))))) (fun k_22 => ((p_band_requests_wrong N r_1 next_7 chosen_6).bind fun r_25 => (bif (r_25 == 0) then ((p_band_choice_with N chosen_6 next_7).bind fun r_27 => (letJ (fun (b_31 : Int) => (k_22 b_31)) (fun k_32 => ((rec_10 r_27 (IntKind.i64.wrap (next_7 + 1)) b_8).bind fun s_29 => ((fun t => k_32 t) s_29))))) else (k_22 b_8))))))) N 0 0 0).bind fun s_16 => ((fun t => k_41 t) s_16))))
def v_band_requests_best (r : Int) : AV:=.int .u64 r
attribute [local simp] v_band_requests_best
theorem a_band_requests_best (r_1 : T_band_requests) : [(A_band_requests r_1)].mapM (ren []) = some [(A_band_requests r_1)]:=by simp
theorem b_band_requests_best (r : Int) (n n2 m : Nat) : back n n2 m (v_band_requests_best r) = some (v_band_requests_best r):=by simp
theorem d_band_requests_best (N : Nat) (r_1 : T_band_requests) (r : Int) (h : p_band_requests_best N r_1 = some r) : Does Tryd.prog 81 [(A_band_requests r_1)] [] fun v c => v = v_band_requests_best r ∧ c = []:=by
 unfold p_band_requests_best at h
 refine Does.ofL comp81 _ _ rfl rfl ?_
 refine Ex.seq (rg 2 [1] (mkS 9 [(1,.ptr 0 0)]) ⟨[(C_band_requests r_1)],[]⟩ ?_)
 refine Ex.seq (rg 2 [1,3] (mkS 9 [(1,.ptr 0 0),(3,.ptr 1 0)]) ⟨[(C_band_requests r_1),[.int .u64 0]],[]⟩ ?_)
 refine Ex.seq (rg 1 [1,3,4] (mkS 9 [(1,.ptr 0 0),(3,.ptr 1 0),(4,.ptr 2 0)]) ⟨[(C_band_requests r_1),[.int .u64 0],[.nilf]],[]⟩ ?_)
 refine Ex.seq (rg 2 [3,4] (mkS 9 [(3,.ptr 1 0),(4,.ptr 2 0)]) ⟨[(C_band_requests r_1),[.int .u64 0],[.fn 103 [] [.ptr 0 0,.ptr 1 0,.ptr 2 0]]],[]⟩ ?_)
 refine Ex.seq ?_
 refine Ex.reg (rn 1 [3,6] (mkS 9 [(3,.ptr 1 0),(6,.fn 103 [] [.ptr 0 0,.ptr 1 0,.ptr 2 0])]) ⟨[(C_band_requests r_1),[.int .u64 0],[.fn 103 [] [.ptr 0 0,.ptr 1 0,.ptr 2 0]]],[]⟩ ?_)
 obtain ⟨K_42,hK_43,h⟩:=letE h
 obtain ⟨s_16,hs_17,h⟩:=bE h
 obtain ⟨B_11,hB_12,hs_17⟩:=loop3I hs_17
 have hY_15 : ∀ (k : Nat) (chosen_6 : Int) (next_7 : Int) (b_8 : Int) (r : (Int)),loop3 B_11 k chosen_6 next_7 b_8 = some r → ∀ (cx_2 : Cx),cx_2.n = 3 → cx_2.m = 0 → (∀ L' a' ps' x' y',LpOk Tryd.prog (Cx.nat 0) L' a' ps' x' y' → LpOk Tryd.prog cx_2 L' a' ps' x' y') → Ex cx_2 .plain Tryd.prog F103.code (mkS 35 [(0,.int .u64 chosen_6),(1,i6 next_7),(2,.ptr 0 0),(3,.ptr 1 0),(4,.ptr 2 0),(5,.tup []),(6,.tup []),(7,.tup []),(8,.tup []),(9,.tup []),(10,.tup []),(11,.tup []),(12,.tup []),(13,.tup []),(14,.tup []),(15,.tup []),(16,.tup []),(17,.tup []),(18,.tup []),(19,.tup []),(20,.tup []),(21,.tup []),(22,.tup []),(23,.tup []),(24,.tup []),(25,.tup []),(26,.tup []),(27,.tup []),(28,.tup []),(29,.tup []),(30,.tup []),(31,.tup []),(32,.tup []),(33,.tup []),(34,.tup [])]) (⟨[(C_band_requests r_1),[.int .u64 b_8],[.fn 103 [] [.ptr 0 0,.ptr 1 0,.ptr 2 0]]],[]⟩) fun z a' S' => ∃ a2 S2,Forgets cx_2 a' S' a2 S2 ∧ (z = .norm ∨ z = .ret) ∧ ∃ v,evRes a2 S2 F103.res = some v ∧ (fun v S => (∃ (b_9 : Int),b_9 = r ∧ v = .tup [] ∧ S = ⟨[(C_band_requests r_1),[.int .u64 b_9],[.fn 103 [] [.ptr 0 0,.ptr 1 0,.ptr 2 0]]],[]⟩)) v S2:=by
  intro k_13
  induction k_13 with
  | zero => intro chosen_6 next_7 b_8 r h; exact (loop3Z h).elim
  | succ k ih_14 =>
   intro chosen_6 next_7 b_8 r h cx_2 hcn_3 hcm_4 hup_5
   replace h:=loop3S h hB_12
   refine Ex.seq (Ex.seq ?_)
   refine regH 5 [(3,.eq (i6 ((r_1.tours_.length : Nat) : Int)))] [0,1,2,3,4,11] [AV.int .i64 (((r_1.tours_.map A_band_tour).length : Nat) : Int) = AV.int .i64 ((r_1.tours_.length : Nat) : Int)] (mkS 35 [(0,.int .u64 chosen_6),(1,i6 next_7),(2,.ptr 0 0),(3,.ptr 1 0),(4,.ptr 2 0),(11,.bool (next_7 == ((r_1.tours_.length : Nat) : Int)))]) (⟨[(C_band_requests r_1),[.int .u64 b_8],[.fn 103 [] [.ptr 0 0,.ptr 1 0,.ptr 2 0]]],[]⟩) (by kernel_rfl) ⟨lenM _ _,trivial⟩ rfl ?_
   rcases condI h with ⟨hc_18,h⟩ | ⟨hc_18,h⟩
   ·refine Ex.condT _ rfl hc_18 ?_
    refine Ex.seq (Ex.seq ?_)
    obtain ⟨r_19,hr_19,h⟩:=bE h
    refine Ex.reg (rn 3 [0,3,12,13,14] (mkS 35 [(0,.int .u64 chosen_6),(3,.ptr 1 0),(12,(A_band_requests r_1)),(13,.int .u64 chosen_6),(14,.int .u64 b_8)]) ⟨[(C_band_requests r_1),[.int .u64 b_8],[.fn 103 [] [.ptr 0 0,.ptr 1 0,.ptr 2 0]]],[]⟩ ?_)
    refine ExO.callL [] [(A_band_requests r_1),.int .u64 chosen_6,.int .u64 b_8] rfl rfl (a_band_requests_compare r_1 chosen_6 b_8) rfl rfl (d_band_requests_compare N r_1 chosen_6 b_8 r_19 hr_19) (b_band_requests_compare _ _ _ _) rfl ?_
    refine rn 1 [0,3,16] (mkS 35 [(0,.int .u64 chosen_6),(3,.ptr 1 0),(16,.bool (decide (r_19 > 0)))]) ⟨[(C_band_requests r_1),[.int .u64 b_8],[.fn 103 [] [.ptr 0 0,.ptr 1 0,.ptr 2 0]]],[]⟩ ?_
    refine ExO.nil ?_
    rcases condI h with ⟨hc_20,h⟩ | ⟨hc_20,h⟩
    ·refine Ex.condT _ rfl hc_20 ?_
     refine rg 2 [] (mkS 35 []) ⟨[(C_band_requests r_1),[.int .u64 chosen_6],[.fn 103 [] [.ptr 0 0,.ptr 1 0,.ptr 2 0]]],[]⟩ ?_
     refine Ex.ret ?_
     obtain rfl:=sJ h
     exact ⟨_,_,Forgets.refl _ _ _,.inr rfl,_,by kernel_rfl,⟨chosen_6,rfl,rfl,rfl⟩⟩
    ·refine Ex.condF _ rfl hc_20 ?_
     refine Ex.skip ?_
     refine Ex.ret ?_
     obtain rfl:=sJ h
     exact ⟨_,_,forgetK [],.inr rfl,_,by kernel_rfl,⟨b_8,rfl,rfl,rfl⟩⟩
   ·refine Ex.condF _ rfl hc_18 ?_
    refine Ex.skip ?_
    obtain ⟨K_23,hK_24,h⟩:=letE h
    refine Ex.seqJ (fun a S => ∃ (b_21 : Int),K_23 b_21 = some r ∧ a = mkS 35 [(0,.int .u64 chosen_6),(1,i6 next_7),(4,.ptr 2 0)] ∧ S = ⟨[(C_band_requests r_1),[.int .u64 b_21],[.fn 103 [] [.ptr 0 0,.ptr 1 0,.ptr 2 0]]],[]⟩) ?_ ?_
    ·refine Ex.seq ?_
     obtain ⟨r_25,hr_25,h⟩:=bE h
     refine Ex.reg (rn 3 [0,1,4,18,19,20] (mkS 35 [(0,.int .u64 chosen_6),(1,i6 next_7),(4,.ptr 2 0),(18,(A_band_requests r_1)),(19,i6 next_7),(20,.int .u64 chosen_6)]) ⟨[(C_band_requests r_1),[.int .u64 b_8],[.fn 103 [] [.ptr 0 0,.ptr 1 0,.ptr 2 0]]],[]⟩ ?_)
     refine ExO.callL [] [(A_band_requests r_1),i6 next_7,.int .u64 chosen_6] rfl rfl (a_band_requests_wrong r_1 next_7 chosen_6) rfl rfl (d_band_requests_wrong N r_1 next_7 chosen_6 r_25 hr_25) (b_band_requests_wrong _ _ _ _) rfl ?_
     refine rn 1 [0,1,4,22] (mkS 35 [(0,.int .u64 chosen_6),(1,i6 next_7),(4,.ptr 2 0),(22,.bool (r_25 == 0))]) ⟨[(C_band_requests r_1),[.int .u64 b_8],[.fn 103 [] [.ptr 0 0,.ptr 1 0,.ptr 2 0]]],[]⟩ ?_
     refine ExO.nil ?_
     rcases condI h with ⟨hc_26,h⟩ | ⟨hc_26,h⟩
     ·refine Ex.condT _ rfl hc_26 ?_
      obtain ⟨r_27,hr_27,h⟩:=bE h
      have hT_28 : DoesA Tryd.prog [⟨79,[.int .u64 chosen_6,i6 next_7],[],(v_band_choice_with r_27),[]⟩] ∧ ConsA [⟨79,[.int .u64 chosen_6,i6 next_7],[],(v_band_choice_with r_27),[]⟩]:=⟨⟨(d_band_choice_with N chosen_6 next_7 r_27 hr_27),rfl,trivial⟩,⟨trivial,trivial⟩⟩
      refine Ex.drawE (a1:=mkS 35 [(0,.int .u64 chosen_6),(1,i6 next_7),(4,.ptr 2 0),(22,.bool (r_25 == 0)),(23,.fn 103 [] [.ptr 0 0,.ptr 1 0,.ptr 2 0]),(24,.int .u64 chosen_6),(25,i6 next_7),(26,.int .u64 r_27),(27,i6 next_7),(28,i6 (IntKind.i64.wrap (next_7 + 1)))]) (tabO_ok hT_28.1) [] [] [] ?_ ?_
      ·refine drS [0,1,2] 3 [] [] (mkS 35 [(0,.int .u64 chosen_6),(1,i6 next_7),(4,.ptr 2 0),(22,.bool (r_25 == 0)),(23,.fn 103 [] [.ptr 0 0,.ptr 1 0,.ptr 2 0]),(24,.int .u64 chosen_6),(25,i6 next_7)]) (by simp) (by kernel_rfl) trivial (by kernel_rfl) ?_
       refine drC hT_28.2 0 _ [.int .u64 chosen_6,i6 next_7] (v_band_choice_with r_27) rfl rfl rfl rfl rfl (fun _ => rfl) rfl (by simp; try rfl) (fun _ => b_band_choice_with _ _ _ _) ?_
       refine drS [0,1,2] 2 [] [] (mkS 35 [(0,.int .u64 chosen_6),(1,i6 next_7),(4,.ptr 2 0),(22,.bool (r_25 == 0)),(23,.fn 103 [] [.ptr 0 0,.ptr 1 0,.ptr 2 0]),(24,.int .u64 chosen_6),(25,i6 next_7),(26,.int .u64 r_27),(27,i6 next_7),(28,i6 (IntKind.i64.wrap (next_7 + 1)))]) (by simp) (by kernel_rfl) trivial (by kernel_rfl) ?_
       exact DrO.nil rfl
      ·dsimp only [List.getLastD_cons,List.getLastD_nil]
       obtain ⟨K_33,hK_34,h⟩:=letE h
       obtain ⟨s_29,hs_30,h⟩:=bE h
       refine ExO.inlY (fun v S => (∃ (b_31 : Int),b_31 = s_29 ∧ v = .tup [] ∧ S = ⟨[(C_band_requests r_1),[.int .u64 b_31],[.fn 103 [] [.ptr 0 0,.ptr 1 0,.ptr 2 0]]],[]⟩)) 103 [.int .u64 r_27,i6 (IntKind.i64.wrap (next_7 + 1)),.ptr 0 0,.ptr 1 0,.ptr 2 0] _ comp103 (leC hcn_3 (by simp [setAll])) rfl (by kernel_rfl) (mkS 35 [(0,.int .u64 r_27),(1,i6 (IntKind.i64.wrap (next_7 + 1))),(2,.ptr 0 0),(3,.ptr 1 0),(4,.ptr 2 0),(5,.tup []),(6,.tup []),(7,.tup []),(8,.tup []),(9,.tup []),(10,.tup []),(11,.tup []),(12,.tup []),(13,.tup []),(14,.tup []),(15,.tup []),(16,.tup []),(17,.tup []),(18,.tup []),(19,.tup []),(20,.tup []),(21,.tup []),(22,.tup []),(23,.tup []),(24,.tup []),(25,.tup []),(26,.tup []),(27,.tup []),(28,.tup []),(29,.tup []),(30,.tup []),(31,.tup []),(32,.tup []),(33,.tup []),(34,.tup [])]) (by kernel_rfl) (fun c1 g1 g2 g3 => ih_14 r_27 (IntKind.i64.wrap (next_7 + 1)) b_8 _ hs_30 c1 g1 g2 (fun _ _ _ _ _ hq => g3 _ _ _ _ _ (hup_5 _ _ _ _ _ hq))) ?_
       rintro v S (⟨b_31,rfl,rfl,rfl⟩)
       replace h : K_33 b_31 = some r:=h
       subst hK_34
       refine rn 0 [0,1,4] (mkS 35 [(0,.int .u64 chosen_6),(1,i6 next_7),(4,.ptr 2 0)]) ⟨[(C_band_requests r_1),[.int .u64 b_31],[.fn 103 [] [.ptr 0 0,.ptr 1 0,.ptr 2 0]]],[]⟩ ?_
       refine ExO.nil ?_
       (try simp only [reduceCtorEq,AEx.ex.injEq,Nat.reduceEqDiff,if_true,if_false])
       exact ⟨_,_,Forgets.refl _ _ _,b_31,h,rfl,rfl⟩
     ·refine Ex.condF _ rfl hc_26 ?_
      refine Ex.skip ?_
      (try simp only [reduceCtorEq,AEx.ex.injEq,Nat.reduceEqDiff,if_true,if_false])
      exact ⟨_,_,forgetK [0,1,4],b_8,h,rfl,rfl⟩
    ·rintro a S ⟨b_21,h,rfl,rfl⟩
     subst hK_24
     refine Ex.reg (rn 4 [30,31,33] (mkS 35 [(30,.fn 103 [] [.ptr 0 0,.ptr 1 0,.ptr 2 0]),(31,.int .u64 chosen_6),(33,i6 (IntKind.i64.wrap (next_7 + 1)))]) ⟨[(C_band_requests r_1),[.int .u64 b_21],[.fn 103 [] [.ptr 0 0,.ptr 1 0,.ptr 2 0]]],[]⟩ ?_)
     obtain ⟨K_39,hK_40,h⟩:=letE h
     obtain ⟨s_35,hs_36,h⟩:=bE h
     refine ExO.inlY (fun v S => (∃ (b_37 : Int),b_37 = s_35 ∧ v = .tup [] ∧ S = ⟨[(C_band_requests r_1),[.int .u64 b_37],[.fn 103 [] [.ptr 0 0,.ptr 1 0,.ptr 2 0]]],[]⟩)) 103 [.int .u64 chosen_6,i6 (IntKind.i64.wrap (next_7 + 1)),.ptr 0 0,.ptr 1 0,.ptr 2 0] _ comp103 (leC hcn_3 (by simp [setAll])) rfl (by kernel_rfl) (mkS 35 [(0,.int .u64 chosen_6),(1,i6 (IntKind.i64.wrap (next_7 + 1))),(2,.ptr 0 0),(3,.ptr 1 0),(4,.ptr 2 0),(5,.tup []),(6,.tup []),(7,.tup []),(8,.tup []),(9,.tup []),(10,.tup []),(11,.tup []),(12,.tup []),(13,.tup []),(14,.tup []),(15,.tup []),(16,.tup []),(17,.tup []),(18,.tup []),(19,.tup []),(20,.tup []),(21,.tup []),(22,.tup []),(23,.tup []),(24,.tup []),(25,.tup []),(26,.tup []),(27,.tup []),(28,.tup []),(29,.tup []),(30,.tup []),(31,.tup []),(32,.tup []),(33,.tup []),(34,.tup [])]) (by kernel_rfl) (fun c1 g1 g2 g3 => ih_14 chosen_6 (IntKind.i64.wrap (next_7 + 1)) b_21 _ hs_36 c1 g1 g2 (fun _ _ _ _ _ hq => g3 _ _ _ _ _ (hup_5 _ _ _ _ _ hq))) ?_
     rintro v S (⟨b_37,rfl,rfl,rfl⟩)
     replace h : K_39 b_37 = some r:=h
     subst hK_40
     refine rn 0 [] (mkS 35 []) ⟨[(C_band_requests r_1),[.int .u64 b_37],[.fn 103 [] [.ptr 0 0,.ptr 1 0,.ptr 2 0]]],[]⟩ ?_
     refine ExO.nil ?_
     obtain rfl:=sJ h
     exact ⟨_,_,Forgets.refl _ _ _,.inl rfl,_,by kernel_rfl,⟨b_37,rfl,rfl,rfl⟩⟩
 refine ExO.inlY (fun v S => (∃ (b_9 : Int),b_9 = s_16 ∧ v = .tup [] ∧ S = ⟨[(C_band_requests r_1),[.int .u64 b_9],[.fn 103 [] [.ptr 0 0,.ptr 1 0,.ptr 2 0]]],[]⟩)) 103 [.int .u64 0,i6 0,.ptr 0 0,.ptr 1 0,.ptr 2 0] _ comp103 (by simp [setAll]) rfl (by kernel_rfl) (mkS 35 [(0,.int .u64 0),(1,i6 0),(2,.ptr 0 0),(3,.ptr 1 0),(4,.ptr 2 0),(5,.tup []),(6,.tup []),(7,.tup []),(8,.tup []),(9,.tup []),(10,.tup []),(11,.tup []),(12,.tup []),(13,.tup []),(14,.tup []),(15,.tup []),(16,.tup []),(17,.tup []),(18,.tup []),(19,.tup []),(20,.tup []),(21,.tup []),(22,.tup []),(23,.tup []),(24,.tup []),(25,.tup []),(26,.tup []),(27,.tup []),(28,.tup []),(29,.tup []),(30,.tup []),(31,.tup []),(32,.tup []),(33,.tup []),(34,.tup [])]) (by kernel_rfl) (fun c1 g1 g2 g3 => hY_15 N 0 0 0 _ hs_17 c1 g1 g2 g3) ?_
 rintro v S (⟨b_9,rfl,rfl,rfl⟩)
 replace h : K_42 b_9 = some r:=h
 subst hK_43
 refine rn 0 [3] (mkS 9 [(3,.ptr 1 0)]) ⟨[(C_band_requests r_1),[.int .u64 b_9],[.fn 103 [] [.ptr 0 0,.ptr 1 0,.ptr 2 0]]],[]⟩ ?_
 refine ExO.nil ?_
 refine Ex.seq (rg 2 [2] (mkS 9 [(2,.int .u64 b_9)]) ⟨[(C_band_requests r_1),[.int .u64 b_9],[.fn 103 [] [.ptr 0 0,.ptr 1 0,.ptr 2 0]]],[]⟩ ?_)
 refine Ex.ret ?_
 obtain rfl:=sJ h
 exact rt (.int .u64 b_9)
def p_slices_AppendSeq_int_intn_band_choice_bands_1r (N : Nat) (a_1 : Int) : Option ((List Int)):=(letJ (fun (b_9 : List Int) => some b_9) (fun k_10 => (letJ (fun (b_13 : List Int) => (k_10 b_13)) (fun k_14 => (loop2 (fun rec_19 (rest_17 : Int) (b_18 : List Int) => (bif (rest_17 != 0) then ((p_math_bits_TrailingZeros N rest_17).bind fun r_23 => (letJ (fun (b_32 : List Int) => ((some (IntKind.u64.wrap (((BitVec.ofInt (IntKind.bits .u64) rest_17 &&& BitVec.ofInt (IntKind.bits .u64) (IntKind.u64.wrap (rest_17 - 1))).toNat : Nat) : Int))).bind fun n_37 => (rec_19 n_37 b_32))) (fun k_33 => ((pushI b_18 ([r_23] : List Int)).bind fun l_36 => (k_33 l_36))))) else (k_14 b_18))) N a_1 [])))))
def v_slices_AppendSeq_int_intn_band_choice_bands_1r (r : (List Int)) : AV:=.sl (r.map (AV.int .i64)) none
attribute [local simp] v_slices_AppendSeq_int_intn_band_choice_bands_1r
theorem b_slices_AppendSeq_int_intn_band_choice_bands_1r (r : (List Int)) (n n2 m : Nat) : back n n2 m (v_slices_AppendSeq_int_intn_band_choice_bands_1r r) = some (v_slices_AppendSeq_int_intn_band_choice_bands_1r r):=by simp
theorem d_slices_AppendSeq_int_intn_band_choice_bands_1r (N : Nat) (a_1 : Int) (r : (List Int)) (h : p_slices_AppendSeq_int_intn_band_choice_bands_1r N a_1 = some r) : Does Tryd.prog 102 [.nils,.fn 105 [] [.rop [.int .u64 a_1]]] [] fun v c => v = v_slices_AppendSeq_int_intn_band_choice_bands_1r r ∧ c = []:=by
 unfold p_slices_AppendSeq_int_intn_band_choice_bands_1r at h
 refine Does.ofL comp102 _ _ rfl rfl ?_
 refine Ex.seq (rg 2 [1,2,4] (mkS 13 [(1,.fn 105 [] [.rop [.int .u64 a_1]]),(2,.ptr 0 0),(4,.nils)]) ⟨[[.nils]],[]⟩ ?_)
 refine Ex.seq (Ex.seq ?_)
 refine rg 1 [2,4,6] (mkS 13 [(2,.ptr 0 0),(4,.nils),(6,.fn 105 [] [.rop [.int .u64 a_1]])]) ⟨[[.nils]],[]⟩ ?_
 refine Ex.blockK ?_
 obtain ⟨K_11,hK_12,h⟩:=letE h
 refine Ex.rangeJ (fun k S => (k = 0 ∧ ∃ (b_9 : List Int),K_11 b_9 = some r ∧ S = ⟨[[.sl (b_9.map (AV.int .i64)) (some 1)]],[(0,0),(b_9.length,1)]⟩)) 105 [.rop [.int .u64 a_1]] _ rfl comp105 rfl (by simp [setAll]) (by exact trivial) (mkS 16 [(1,.rop [.int .u64 a_1]),(2,.tup []),(3,.tup []),(4,.tup []),(5,.tup []),(6,.tup []),(7,.tup []),(8,.tup []),(9,.tup []),(10,.tup []),(11,.tup []),(12,.tup []),(13,.tup []),(14,.tup []),(15,.tup [])]) (⟨[[.nils]],[(0,0)]⟩) (fun _ => by kernel_rfl) (by kernel_rfl) ?_ ?_
 ·intro cx_3 Lp_2 hcn_4 hcm_5 hLt_6 hL_7 hup_8
  refine Ex.castA (a2:=mkS 16 [(0,.yld Lp_2.l 0),(1,.rop [.int .u64 a_1]),(2,.tup []),(3,.tup []),(4,.tup []),(5,.tup []),(6,.tup []),(7,.tup []),(8,.tup []),(9,.tup []),(10,.tup []),(11,.tup []),(12,.tup []),(13,.tup []),(14,.tup []),(15,.tup [])]) (S2:=⟨[[.nils]],[(0,0)]⟩) (by kernel_rfl) rfl ?_
  refine Ex.seq (rg 2 [0,3] (mkS 16 [(0,.yld Lp_2.l 0),(3,.int .u64 a_1)]) ⟨[[.nils]],[(0,0)]⟩ ?_)
  obtain ⟨K_15,hK_16,h⟩:=letE h
  refine Ex.blockJ (fun a S => ∃ (b_13 : List Int),K_15 b_13 = some r ∧ a = mkS 16 [] ∧ S = ⟨[[.sl (b_13.map (AV.int .i64)) (some 1)]],[(0,0),(b_13.length,1)]⟩) ?_ ?_
  ·refine Ex.forget (nilB 0 0 1 [.nils] rfl rfl) ?_
   refine Ex.castA (a2:=mkS 16 [(0,.yld Lp_2.l 0),(3,.int .u64 a_1)]) (S2:=⟨[[.sl (([] : List Int).map (AV.int .i64)) (some 1)]],[(0,0),(0,1)]⟩) (by kernel_rfl) (by kernel_rfl) ?_
   obtain ⟨B_20,hB_21,h⟩:=loop2I h
   refine Ex.loopF (fun k a S => ∃ (rest_17 : Int),∃ (b_18 : List Int),loop2 B_20 k rest_17 b_18 = some r ∧ a = mkS 16 [(0,.yld Lp_2.l 0),(3,.int .u64 rest_17)] ∧ S = ⟨[[.sl (b_18.map (AV.int .i64)) (some 1)]],[(0,0),(b_18.length,1)]⟩) N ⟨_,_,Forgets.refl _ _ _,a_1,[],h,rfl,rfl⟩ ?_
   rintro k a S ⟨rest_17,b_18,h,rfl,rfl⟩
   cases k with
   | zero => exact (loop2Z h).elim
   | succ k =>
    replace h:=loop2S h hB_21
    refine Ex.seq (Ex.seq ?_)
    refine rg 2 [0,3,6] (mkS 16 [(0,.yld Lp_2.l 0),(3,.int .u64 rest_17),(6,.bool (rest_17 != 0))]) ⟨[[.sl (b_18.map (AV.int .i64)) (some 1)]],[(0,0),(b_18.length,1)]⟩ ?_
    rcases condI h with ⟨hc_22,h⟩ | ⟨hc_22,h⟩
    ·refine Ex.condT _ rfl hc_22 ?_
     refine Ex.skip ?_
     refine Ex.seq ?_
     refine Ex.blockK ?_
     refine Ex.seq ?_
     obtain ⟨r_23,hr_23,h⟩:=bE h
     refine Ex.regI ?_
     refine runI 2 [] [0,3,11,12] [] (mkS 16 [(0,.yld Lp_2.l 0),(3,.int .u64 rest_17),(11,.yld Lp_2.l 0),(12,.int .u64 rest_17)]) (⟨[[.sl (b_18.map (AV.int .i64)) (some 1)]],[(0,0),(b_18.length,1)]⟩) (by kernel_rfl) trivial ?_
     refine ExI.one ?_
     refine ExO.callL [] [.int .u64 rest_17] rfl rfl (a_math_bits_TrailingZeros rest_17) rfl rfl (d_math_bits_TrailingZeros N rest_17 r_23 hr_23) (b_math_bits_TrailingZeros _ _ _ _) rfl ?_
     refine ExO.nil ?_
     obtain ⟨K_34,hK_35,h⟩:=letE h
     refine ExI.yieldT 0 hLt_6 hL_7 [i6 r_23] rfl rfl rfl (by kernel_rfl) rfl rfl (leC hcn_4 (by simp [setAll])) ?_
     intro ca_24 cb_25 ha_26 hb_27 hma_28 hmb_29 hup_30 hbz_31
     refine Ex.castA (a2:=mkS 13 [(2,.ptr 0 0),(4,.nils),(6,.fn 105 [] [.rop [.int .u64 a_1]]),(7,i6 r_23)]) (S2:=⟨[[.sl (b_18.map (AV.int .i64)) (some 1)]],[(0,0),(b_18.length,1)]⟩) (by kernel_rfl) (by kernel_rfl) ?_
     refine Ex.two (fun z S => (z = AEx.norm ∧ ∃ (b_32 : List Int),K_34 b_32 = some r ∧ S = ⟨[[.sl (b_32.map (AV.int .i64)) (some 1)]],[(0,0),(b_32.length,1)]⟩)) ?_ ?_
     ·refine rg 1 [2,5] (mkS 13 [(2,.ptr 0 0),(5,i6 r_23)]) ⟨[[.sl (b_18.map (AV.int .i64)) (some 1)]],[(0,0),(b_18.length,1)]⟩ ?_
      refine ⟨rfl,rfl,?_⟩
      refine Ex.blockK ?_
      obtain ⟨l_36,hl_36,h⟩:=bE h
      refine regH 5 [(3,.app (l_36.map (AV.int .i64)) l_36.length)] [] [LApp b_18.length (b_18.map (AV.int .i64)) (([r_23] : List Int).map (AV.int .i64)) 1 (l_36.map (AV.int .i64)) l_36.length] (mkS 13 []) (⟨[[.sl (l_36.map (AV.int .i64)) (some 1)]],[(0,0),(l_36.length,1),(1,1)]⟩) (by kernel_rfl) ⟨LApp.of hl_36 (fun _ => rfl),trivial⟩ rfl ?_
      (try simp only [reduceCtorEq,AEx.ex.injEq,Nat.reduceEqDiff,if_true,if_false])
      exact ⟨_,_,forgetA (m:=13) 1 [0,1] [] [[.sl (l_36.map (AV.int .i64)) (some 1)]] [(0,0),(l_36.length,1)] (leC hb_27 (by simp [setAll])) (by simp) trivial (by simp) rfl (by decide) (sig0 2 hmb_29 rfl),⟨by first | rfl | trivial,l_36,h,rfl⟩⟩
     ·rintro z a2 S (⟨rfl,b_32,h,rfl⟩)
      subst hK_35
      refine runI 1 [] [0,3,15] [] (mkS 16 [(0,.yld Lp_2.l 0),(3,.int .u64 rest_17),(15,.bool false)]) (⟨[[.sl (b_32.map (AV.int .i64)) (some 1)]],[(0,0),(b_32.length,1)]⟩) (by kernel_rfl) trivial ?_
      refine ExI.nil ?_
      refine Ex.cond (b:=false) rfl ?_
      refine Ex.skip ?_
      obtain ⟨n_37,hn_37,h⟩:=bE h
      refine regH 5 [(3,.eq (.int .u64 n_37))] [0,3] [AV.int .u64 (IntKind.u64.wrap (((BitVec.ofInt (IntKind.bits .u64) rest_17 &&& BitVec.ofInt (IntKind.bits .u64) (IntKind.u64.wrap (rest_17 - 1))).toNat : Nat) : Int)) = AV.int .u64 n_37] (mkS 16 [(0,.yld Lp_2.l 0),(3,.int .u64 n_37)]) (⟨[[.sl (b_32.map (AV.int .i64)) (some 1)]],[(0,0),(b_32.length,1)]⟩) (by kernel_rfl) ⟨congrArg (AV.int .u64) (Option.some.inj hn_37),trivial⟩ rfl ?_
      dsimp only
      exact ⟨_,_,Forgets.refl _ _ _,k,Nat.lt_succ_self k,n_37,b_32,h,rfl,rfl⟩
    ·refine Ex.condF _ rfl hc_22 ?_
     refine Ex.exit ?_
     (try simp only [reduceCtorEq,AEx.ex.injEq,Nat.reduceEqDiff,if_true,if_false])
     exact ⟨_,_,forgetK [],b_18,h,rfl,rfl⟩
  ·rintro a S ⟨b_13,h,rfl,rfl⟩
   subst hK_16
   exact ⟨_,_,Forgets.refl _ _ _,.inl rfl,0,rfl,⟨by first | rfl | trivial,b_13,h,rfl⟩⟩
 ·rintro k S (⟨rfl,b_9,h,rfl⟩)
  subst hK_12
  refine Ex.seq (rg 2 [4] (mkS 13 [(4,.sl (b_9.map (AV.int .i64)) (some 1))]) ⟨[[.sl (b_9.map (AV.int .i64)) (some 1)]],[(0,0),(b_9.length,1)]⟩ ?_)
  refine Ex.ret ?_
  obtain rfl:=sJ h
  exact rt (.sl (b_9.map (AV.int .i64)) (some 1))
def p_slices_Collect_int_band_choice_bands_1r (N : Nat) (a_1 : Int) : Option ((List Int)):=((p_slices_AppendSeq_int_intn_band_choice_bands_1r N a_1).bind fun r_2 => some r_2)
def v_slices_Collect_int_band_choice_bands_1r (r : (List Int)) : AV:=.sl (r.map (AV.int .i64)) none
attribute [local simp] v_slices_Collect_int_band_choice_bands_1r
theorem b_slices_Collect_int_band_choice_bands_1r (r : (List Int)) (n n2 m : Nat) : back n n2 m (v_slices_Collect_int_band_choice_bands_1r r) = some (v_slices_Collect_int_band_choice_bands_1r r):=by simp
theorem d_slices_Collect_int_band_choice_bands_1r (N : Nat) (a_1 : Int) (r : (List Int)) (h : p_slices_Collect_int_band_choice_bands_1r N a_1 = some r) : Does Tryd.prog 80 [.fn 105 [] [.rop [.int .u64 a_1]]] [] fun v c => v = v_slices_Collect_int_band_choice_bands_1r r ∧ c = []:=by
 unfold p_slices_Collect_int_band_choice_bands_1r at h
 refine Does.ofL comp80 _ _ rfl rfl ?_
 refine Ex.seq (rg 1 [0] (mkS 5 [(0,.fn 105 [] [.rop [.int .u64 a_1]])]) ⟨[],[]⟩ ?_)
 refine Ex.seq ?_
 obtain ⟨r_2,hr_2,h⟩:=bE h
 refine Ex.reg (rn 1 [3] (mkS 5 [(3,.fn 105 [] [.rop [.int .u64 a_1]])]) ⟨[],[]⟩ ?_)
 refine ExO.callN [] [.nils,.fn 105 [] [.rop [.int .u64 a_1]]] rfl rfl rfl (by simp; try rfl) rfl rfl (d_slices_AppendSeq_int_intn_band_choice_bands_1r N a_1 r_2 hr_2) (b_slices_AppendSeq_int_intn_band_choice_bands_1r _ _ _ _) rfl ?_
 refine rn 1 [2] (mkS 5 [(2,.sl (r_2.map (AV.int .i64)) none)]) ⟨[],[]⟩ ?_
 refine ExO.nil ?_
 refine Ex.ret ?_
 obtain rfl:=sJ h
 exact rt (.sl (r_2.map (AV.int .i64)) none)
def p_band_Best (N : Nat) (c_1 : T_City) (l_2 : (List T_Band)) : Option ((List Int) × Int):=((p_band_toursOf N c_1 l_2).bind fun r_3 => (bif (r_3.2 != 0) then some ([],r_3.2) else (bif (decide (((r_3.1.length : Nat) : Int) > 8)) then some ([],5) else ((p_band_requestsOf N c_1 r_3.1).bind fun r_6 => ((p_band_requests_best N r_6).bind fun r_7 => ((p_band_choice_bands N r_7).bind fun r_8 => ((p_slices_Collect_int_band_choice_bands_1r N r_8).bind fun r_9 => some (r_9,0))))))))
def v_band_Best (r : (List Int) × Int) : AV:=.tup [.sl (r.1.map (AV.int .i64)) none,i6 r.2]
attribute [local simp] v_band_Best
theorem a_band_Best (c_1 : T_City) (l_2 : (List T_Band)) : [(A_City c_1),.sl (l_2.map A_Band) none].mapM (ren []) = some [(A_City c_1),.sl (l_2.map A_Band) none]:=by simp
theorem b_band_Best (r : (List Int) × Int) (n n2 m : Nat) : back n n2 m (v_band_Best r) = some (v_band_Best r):=by simp
theorem d_band_Best (N : Nat) (c_1 : T_City) (l_2 : (List T_Band)) (r : (List Int) × Int) (h : p_band_Best N c_1 l_2 = some r) : Does Tryd.prog 45 [(A_City c_1),.sl (l_2.map A_Band) none] [] fun v c => v = v_band_Best r ∧ c = []:=by
 unfold p_band_Best at h
 refine Does.ofL comp45 _ _ rfl rfl ?_
 refine Ex.seq (rg 3 [1,2] (mkS 28 [(1,.sl (l_2.map A_Band) none),(2,.ptr 0 0)]) ⟨[(C_City c_1)],[]⟩ ?_)
 refine Ex.seq ?_
 obtain ⟨r_3,hr_3,h⟩:=bE h
 refine Ex.reg (rn 2 [2,9,10] (mkS 28 [(2,.ptr 0 0),(9,(A_City c_1)),(10,.sl (l_2.map A_Band) none)]) ⟨[(C_City c_1)],[]⟩ ?_)
 refine ExO.callL [] [(A_City c_1),.sl (l_2.map A_Band) none] rfl rfl (a_band_toursOf c_1 l_2) rfl rfl (d_band_toursOf N c_1 l_2 r_3 hr_3) (b_band_toursOf _ _ _ _) rfl ?_
 refine rn 5 [2,6,7] (mkS 28 [(2,.ptr 0 0),(6,.sl (r_3.1.map A_band_tour) none),(7,i6 r_3.2)]) ⟨[(C_City c_1)],[]⟩ ?_
 refine ExO.nil ?_
 refine Ex.seq ?_
 refine Ex.blockK ?_
 refine Ex.seq (rg 3 [2,6,7,14] (mkS 28 [(2,.ptr 0 0),(6,.sl (r_3.1.map A_band_tour) none),(7,i6 r_3.2),(14,.bool (r_3.2 != 0))]) ⟨[(C_City c_1)],[]⟩ ?_)
 rcases condI h with ⟨hc_4,h⟩ | ⟨hc_4,h⟩
 ·refine Ex.condT _ rfl hc_4 ?_
  refine Ex.seq (rg 3 [4,5] (mkS 28 [(4,.nils),(5,i6 r_3.2)]) ⟨[(C_City c_1)],[]⟩ ?_)
  refine Ex.ret ?_
  obtain rfl:=sJ h
  exact rt (.tup [.nils,i6 r_3.2])
 ·refine Ex.condF _ rfl hc_4 ?_
  refine Ex.seq ?_
  refine regH 4 [(1,.eq (i6 ((r_3.1.length : Nat) : Int)))] [2,6,18] [AV.int .i64 (((r_3.1.map A_band_tour).length : Nat) : Int) = AV.int .i64 ((r_3.1.length : Nat) : Int)] (mkS 28 [(2,.ptr 0 0),(6,.sl (r_3.1.map A_band_tour) none),(18,.bool (decide (((r_3.1.length : Nat) : Int) > 8)))]) (⟨[(C_City c_1)],[]⟩) (by kernel_rfl) ⟨lenM _ _,trivial⟩ rfl ?_
  rcases condI h with ⟨hc_5,h⟩ | ⟨hc_5,h⟩
  ·refine Ex.condT _ rfl hc_5 ?_
   refine Ex.seq (rg 2 [4,5] (mkS 28 [(4,.nils),(5,i6 5)]) ⟨[(C_City c_1)],[]⟩ ?_)
   refine Ex.ret ?_
   obtain rfl:=sJ h
   exact rt (.tup [.nils,i6 5])
  ·refine Ex.condF _ rfl hc_5 ?_
   refine Ex.skip ?_
   refine Ex.seq ?_
   obtain ⟨r_6,hr_6,h⟩:=bE h
   refine Ex.reg (rn 2 [22,23] (mkS 28 [(22,(A_City c_1)),(23,.sl (r_3.1.map A_band_tour) none)]) ⟨[(C_City c_1)],[]⟩ ?_)
   refine ExO.callL [] [(A_City c_1),.sl (r_3.1.map A_band_tour) none] rfl rfl (a_band_requestsOf c_1 r_3.1) rfl rfl (d_band_requestsOf N c_1 r_3.1 r_6 hr_6) (b_band_requestsOf _ _ _ _) rfl ?_
   obtain ⟨r_7,hr_7,h⟩:=bE h
   refine ExO.callL [] [(A_band_requests r_6)] rfl rfl (a_band_requests_best r_6) rfl rfl (d_band_requests_best N r_6 r_7 hr_7) (b_band_requests_best _ _ _ _) rfl ?_
   obtain ⟨r_8,hr_8,h⟩:=bE h
   refine ExO.callL [] [.int .u64 r_7] rfl rfl (a_band_choice_bands r_7) rfl rfl (d_band_choice_bands N r_7 r_8 hr_8) (b_band_choice_bands _ _ _ _) rfl ?_
   obtain ⟨r_9,hr_9,h⟩:=bE h
   refine ExO.callL [] [.fn 105 [] [.rop [.int .u64 r_8]]] rfl rfl (by simp; try rfl) rfl rfl (d_slices_Collect_int_band_choice_bands_1r N r_8 r_9 hr_9) (b_slices_Collect_int_band_choice_bands_1r _ _ _ _) rfl ?_
   refine rn 2 [4,5] (mkS 28 [(4,.sl (r_9.map (AV.int .i64)) none),(5,i6 0)]) ⟨[(C_City c_1)],[]⟩ ?_
   refine ExO.nil ?_
   refine Ex.ret ?_
   obtain rfl:=sJ h
   exact rt (.tup [.sl (r_9.map (AV.int .i64)) none,i6 0])
end Go.Proofs.YtkchfjblcfbajaaDoor
end
