/- Part 6 of what the law needs: own work, put together. -/
import Derived.Test.YtkchfjblcfbajaaDoorBmZq4
set_option linter.unusedVariables false
set_option linter.unusedSimpArgs false
set_option maxRecDepth 10000
set_option maxHeartbeats 4000000
section
namespace Go.Proofs.YtkchfjblcfbajaaDoor
open Go.RowKit
attribute [local simp] ren ren1 AV.plain AV.plain1 AV.clean cleanL cleanI cleanBo cleanSt cleanII plFB clFB faFB KL_bk_Drum KL_Span KL_Street KL_Group KL_Town KL_City KL_Band KL_band_tour KL_band_visit KL_V12_bool A_bk_Drum C_bk_Drum A_Span C_Span A_Street C_Street A_Group C_Group A_Town C_Town A_City C_City A_Band C_Band A_band_tour C_band_tour A_band_visit C_band_visit A_V12_bool C_V12_bool back back1 fadeS fadeV List.idxOf? List.findIdx? List.findIdx?.go re re1 KB_bk_Drum KB_Span KB_Street KB_Group KB_Town KB_City KB_Band KB_band_tour KB_band_visit KB_V12_bool
def p_band_night_with (N : Nat) (n_1 : (List Bool)) (minutes_2 : T_Span) : Option ((List Bool)) := (letJ (fun (w_3 : List Bool) => ((lenI w_3 720).bind fun u_16 => ((len2 (List.replicate 720 false) w_3 720).bind fun u_17 => ((lenI w_3 720).bind fun u_18 => some w_3)))) (fun k_4 => (loop2 (fun rec_9 (minute_7 : Int) (w_8 : List Bool) => (bif (decide (minute_7 ≤ minutes_2.Hi)) then ((idxI minute_7 720).bind fun u_13 => ((setI w_8 minute_7 (fun (y_14 : Bool) => true)).bind fun z_15 => (rec_9 (IntKind.i64.wrap (minute_7 + 1)) z_15))) else (k_4 w_8))) N minutes_2.Lo n_1)))
def v_band_night_with (r : (List Bool)) : AV := .agg (flat (r.map AV.bool))
attribute [local simp] v_band_night_with
theorem b_band_night_with (r : (List Bool)) (n n2 m : Nat) : back n n2 m (v_band_night_with r) = some (v_band_night_with r) := by simp
theorem d_band_night_with (N : Nat) (n_1 : (List Bool)) (minutes_2 : T_Span) (r : (List Bool)) (h : p_band_night_with N n_1 minutes_2 = some r) : Does Tryd.prog 96 [.agg (flat (n_1.map AV.bool)), (A_Span minutes_2)] [] fun v c => v = v_band_night_with r ∧ c = [] := by
 unfold p_band_night_with at h
 refine Does.ofL comp96 _ _ rfl rfl ?_
 refine Ex.seq (rg 3 [2, 3, 4] (mkS 17 [(2, .ptr 0 0), (3, .ptr 1 0), (4, .ptr 2 0)]) ⟨[(flat (n_1.map AV.bool)), (C_Span minutes_2), (flat ((List.replicate 720 false).map AV.bool))], []⟩ ?_)
 refine Ex.seq (Ex.seq ?_)
 refine rg 3 [2, 3, 4, 5] (mkS 17 [(2, .ptr 0 0), (3, .ptr 1 0), (4, .ptr 2 0), (5, i6 minutes_2.Lo)]) ⟨[(flat (n_1.map AV.bool)), (C_Span minutes_2), (flat ((List.replicate 720 false).map AV.bool))], []⟩ ?_
 obtain ⟨K_5, hK_6, h⟩ := letE h
 refine Ex.blockJ (fun a S => ∃ (w_3 : List Bool), K_5 w_3 = some r ∧ a = mkS 17 [(2, .ptr 0 0), (4, .ptr 2 0)] ∧ S = ⟨[(flat (w_3.map AV.bool)), (C_Span minutes_2), (flat ((List.replicate 720 false).map AV.bool))], []⟩) ?_ ?_
 ·obtain ⟨B_10, hB_11, h⟩ := loop2I h
  refine Ex.loopF (fun k a S => ∃ (minute_7 : Int), ∃ (w_8 : List Bool), loop2 B_10 k minute_7 w_8 = some r ∧ a = mkS 17 [(2, .ptr 0 0), (3, .ptr 1 0), (4, .ptr 2 0), (5, i6 minute_7)] ∧ S = ⟨[(flat (w_8.map AV.bool)), (C_Span minutes_2), (flat ((List.replicate 720 false).map AV.bool))], []⟩) N ⟨_, _, Forgets.refl _ _ _, minutes_2.Lo, n_1, h, rfl, rfl⟩ ?_
  rintro k a S ⟨minute_7, w_8, h, rfl, rfl⟩
  cases k with
  | zero => exact (loop2Z h).elim
  | succ k =>
   replace h := loop2S h hB_11
   refine Ex.seq (Ex.seq ?_)
   refine rg 4 [2, 3, 4, 5, 11] (mkS 17 [(2, .ptr 0 0), (3, .ptr 1 0), (4, .ptr 2 0), (5, i6 minute_7), (11, .bool (decide (minute_7 ≤ minutes_2.Hi)))]) ⟨[(flat (w_8.map AV.bool)), (C_Span minutes_2), (flat ((List.replicate 720 false).map AV.bool))], []⟩ ?_
   rcases condI h with ⟨hc_12, h⟩ | ⟨hc_12, h⟩
   ·refine Ex.condT _ rfl hc_12 ?_
    refine Ex.skip ?_
    refine Ex.seq ?_
    refine Ex.blockK ?_
    obtain ⟨u_13, hu_13, h⟩ := bE h
    obtain ⟨z_15, hz_15, h⟩ := bE h
    refine regH 3 [(1, .adr), (2, .st (flat (z_15.map AV.bool)))] [2, 3, 4, 5] [0 ≤ minute_7 ∧ minute_7 < ((720 : Nat) : Int), 0 + Int.toNat minute_7 * 1 + 1 ≤ ((flat (w_8.map AV.bool))).length ∧ layAt (flat (w_8.map AV.bool)) (0 + Int.toNat minute_7 * 1) [.bool true] = (flat (z_15.map AV.bool))] (mkS 17 [(2, .ptr 0 0), (3, .ptr 1 0), (4, .ptr 2 0), (5, i6 minute_7)]) (⟨[(flat (z_15.map AV.bool)), (C_Span minutes_2), (flat ((List.replicate 720 false).map AV.bool))], []⟩) (by kernel_rfl) ⟨idxI.of hu_13, stFl (f := AV.bool) (s := 1) _ 0 1 minute_7 (fun (y_14 : Bool) => true) _ (fun _ => rfl) hz_15 rfl (by decide) (by omega) (fun _ => rfl), trivial⟩ rfl ?_
    refine rg 3 [2, 3, 4, 5] (mkS 17 [(2, .ptr 0 0), (3, .ptr 1 0), (4, .ptr 2 0), (5, i6 (IntKind.i64.wrap (minute_7 + 1)))]) ⟨[(flat (z_15.map AV.bool)), (C_Span minutes_2), (flat ((List.replicate 720 false).map AV.bool))], []⟩ ?_
    dsimp only
    exact ⟨_, _, Forgets.refl _ _ _, k, Nat.lt_succ_self k, (IntKind.i64.wrap (minute_7 + 1)), z_15, h, rfl, rfl⟩
   ·refine Ex.condF _ rfl hc_12 ?_
    refine Ex.exit ?_
    (try simp only [reduceCtorEq, AEx.ex.injEq, Nat.reduceEqDiff, if_true, if_false])
    exact ⟨_, _, forgetK [2, 4], w_8, h, rfl, rfl⟩
 ·rintro a S ⟨w_3, h, rfl, rfl⟩
  subst hK_6
  refine Ex.seq ?_
  obtain ⟨u_16, hu_16, h⟩ := bE h
  obtain ⟨u_17, hu_17, h⟩ := bE h
  refine regH 2 [(0, .ld (.agg (flat (w_3.map AV.bool)))), (1, .stw (flat (w_3.map AV.bool)))] [4] [takeCells (flat (w_3.map AV.bool)) 0 (some 720) = some (.agg (flat (w_3.map AV.bool))), (.agg (flat (w_3.map AV.bool)) : AV).okCells = true ∧ (.agg (flat (w_3.map AV.bool)) : AV).cells.length = 720 ∧ 0 < 720 ∧ 0 + 720 ≤ ((flat ((List.replicate 720 false).map AV.bool))).length ∧ layAt (flat ((List.replicate 720 false).map AV.bool)) 0 (.agg (flat (w_3.map AV.bool)) : AV).cells = (flat (w_3.map AV.bool))] (mkS 17 [(4, .ptr 2 0)]) (⟨[(flat (w_3.map AV.bool)), (C_Span minutes_2), (flat (w_3.map AV.bool))], []⟩) (by kernel_rfl) ⟨ldArrA (f := AV.bool) w_3 (fun _ => rfl) hu_16, stArrA (f := AV.bool) (List.replicate 720 false) w_3 (fun _ => rfl) (by decide) hu_17, trivial⟩ rfl ?_
  refine Ex.ret ?_
  obtain ⟨u_18, hu_18, h⟩ := bE h
  obtain rfl := sJ h
  exact ⟨.inr rfl, .agg (flat (w_3.map AV.bool)), evResArr (f := AV.bool) rfl rfl (fun _ => rfl) hu_18, rfl, fadeArr (f := AV.bool) (fun _ => rfl) _, by kernel_rfl⟩
def p_band_nightOf (N : Nat) (tours_1 : (List T_band_tour)) (square_2 : Int) : Option ((List Bool)) := ((len2 (List.replicate 720 false) (List.replicate 720 false) 720).bind fun u_3 => (letJ (fun (w_4 : List Bool) => ((lenI w_4 720).bind fun u_35 => ((len2 (List.replicate 720 false) w_4 720).bind fun u_36 => ((lenI w_4 720).bind fun u_37 => some w_4)))) (fun k_5 => (loop2 (fun rec_10 (y_8 : Int) (w_9 : List Bool) => (bif (decide (y_8 < ((tours_1.length : Nat) : Int))) then ((getI tours_1 y_8).bind fun x_14 => ((p_band_tour_visits N x_14 x_14.Band.Start).bind fun r_15 => (letJ (fun (w_16 : List Bool) => (rec_10 (IntKind.i64.wrap (y_8 + 1)) w_16)) (fun k_17 => (loop2 (fun rec_22 (y_20 : Int) (w_21 : List Bool) => (bif (decide (y_20 < ((r_15.length : Nat) : Int))) then (letJ (fun (w_26 : List Bool) => (rec_22 (IntKind.i64.wrap (y_20 + 1)) w_26)) (fun k_27 => ((getI r_15 y_20).bind fun x_30 => (bif (x_30.square_ == square_2) then ((lenI w_21 720).bind fun u_32 => ((p_band_night_with N w_21 x_30.Span).bind fun r_33 => ((len2 w_21 r_33 720).bind fun u_34 => (k_27 r_33)))) else (k_27 w_21))))) else (k_17 w_21))) N 0 w_9))))) else (k_5 w_9))) N 0 (List.replicate 720 false)))))
def v_band_nightOf (r : (List Bool)) : AV := .agg (flat (r.map AV.bool))
attribute [local simp] v_band_nightOf
theorem a_band_nightOf (tours_1 : (List T_band_tour)) (square_2 : Int) : [.sl (tours_1.map A_band_tour) none, i6 square_2].mapM (ren []) = some [.sl (tours_1.map A_band_tour) none, i6 square_2] := by simp
theorem b_band_nightOf (r : (List Bool)) (n n2 m : Nat) : back n n2 m (v_band_nightOf r) = some (v_band_nightOf r) := by simp
theorem d_band_nightOf (N : Nat) (tours_1 : (List T_band_tour)) (square_2 : Int) (r : (List Bool)) (h : p_band_nightOf N tours_1 square_2 = some r) : Does Tryd.prog 74 [.sl (tours_1.map A_band_tour) none, i6 square_2] [] fun v c => v = v_band_nightOf r ∧ c = [] := by
 unfold p_band_nightOf at h
 refine Does.ofL comp74 _ _ rfl rfl ?_
 refine Ex.seq (rg 1 [0, 1, 4] (mkS 38 [(0, .sl (tours_1.map A_band_tour) none), (1, i6 square_2), (4, .ptr 0 0)]) ⟨[(flat ((List.replicate 720 false).map AV.bool))], []⟩ ?_)
 refine Ex.seq ?_
 obtain ⟨u_3, hu_3, h⟩ := bE h
 refine regH 3 [(2, .stw (flat ((List.replicate 720 false).map AV.bool)))] [0, 1, 4, 5] [(.agg (flat ((List.replicate 720 false).map AV.bool)) : AV).okCells = true ∧ (.agg (flat ((List.replicate 720 false).map AV.bool)) : AV).cells.length = 720 ∧ 0 < 720 ∧ 0 + 720 ≤ ((flat ((List.replicate 720 false).map AV.bool))).length ∧ layAt (flat ((List.replicate 720 false).map AV.bool)) 0 (.agg (flat ((List.replicate 720 false).map AV.bool)) : AV).cells = (flat ((List.replicate 720 false).map AV.bool))] (mkS 38 [(0, .sl (tours_1.map A_band_tour) none), (1, i6 square_2), (4, .ptr 0 0), (5, .ptr 1 0)]) (⟨[(flat ((List.replicate 720 false).map AV.bool)), (flat ((List.replicate 720 false).map AV.bool))], []⟩) (by kernel_rfl) ⟨stArrA (f := AV.bool) (List.replicate 720 false) (List.replicate 720 false) (fun _ => rfl) (by decide) hu_3, trivial⟩ rfl ?_
 refine Ex.seq (Ex.seq ?_)
 refine regH 3 [(1, .eq (i6 ((tours_1.length : Nat) : Int)))] [1, 4, 5, 11, 12, 13] [AV.int .i64 (((tours_1.map A_band_tour).length : Nat) : Int) = AV.int .i64 ((tours_1.length : Nat) : Int)] (mkS 38 [(1, i6 square_2), (4, .ptr 0 0), (5, .ptr 1 0), (11, .sl (tours_1.map A_band_tour) none), (12, i6 ((tours_1.length : Nat) : Int)), (13, i6 0)]) (⟨[(flat ((List.replicate 720 false).map AV.bool)), (flat ((List.replicate 720 false).map AV.bool))], []⟩) (by kernel_rfl) ⟨lenM _ _, trivial⟩ rfl ?_
 obtain ⟨K_6, hK_7, h⟩ := letE h
 refine Ex.blockJ (fun a S => ∃ (w_4 : List Bool), K_6 w_4 = some r ∧ a = mkS 38 [(4, .ptr 0 0), (5, .ptr 1 0)] ∧ S = ⟨[(flat ((List.replicate 720 false).map AV.bool)), (flat (w_4.map AV.bool))], []⟩) ?_ ?_
 ·obtain ⟨B_11, hB_12, h⟩ := loop2I h
  refine Ex.loopF (fun k a S => ∃ (y_8 : Int), ∃ (w_9 : List Bool), loop2 B_11 k y_8 w_9 = some r ∧ a = mkS 38 [(1, i6 square_2), (4, .ptr 0 0), (5, .ptr 1 0), (11, .sl (tours_1.map A_band_tour) none), (12, i6 ((tours_1.length : Nat) : Int)), (13, i6 y_8)] ∧ S = ⟨[(flat ((List.replicate 720 false).map AV.bool)), (flat (w_9.map AV.bool))], []⟩) N ⟨_, _, Forgets.refl _ _ _, 0, (List.replicate 720 false), h, rfl, rfl⟩ ?_
  rintro k a S ⟨y_8, w_9, h, rfl, rfl⟩
  cases k with
  | zero => exact (loop2Z h).elim
  | succ k =>
   replace h := loop2S h hB_12
   refine Ex.seq (rg 1 [1, 4, 5, 11, 12, 13, 14] (mkS 38 [(1, i6 square_2), (4, .ptr 0 0), (5, .ptr 1 0), (11, .sl (tours_1.map A_band_tour) none), (12, i6 ((tours_1.length : Nat) : Int)), (13, i6 y_8), (14, .bool (decide (y_8 < ((tours_1.length : Nat) : Int))))]) ⟨[(flat ((List.replicate 720 false).map AV.bool)), (flat (w_9.map AV.bool))], []⟩ ?_)
   refine Ex.seq ?_
   rcases condI h with ⟨hc_13, h⟩ | ⟨hc_13, h⟩
   ·refine Ex.condT _ rfl hc_13 ?_
    refine Ex.skip ?_
    refine Ex.seq ?_
    refine Ex.blockK ?_
    refine Ex.seq ?_
    obtain ⟨x_14, hx_14, h⟩ := bE h
    refine regH 4 [(0, .rop (C_band_tour x_14))] [1, 4, 5, 7, 11, 12, 13] [LGet (tours_1.map A_band_tour) y_8 7 (C_band_tour x_14)] (mkS 38 [(1, i6 square_2), (4, .ptr 0 0), (5, .ptr 1 0), (7, .ptr 2 0), (11, .sl (tours_1.map A_band_tour) none), (12, i6 ((tours_1.length : Nat) : Int)), (13, i6 y_8)]) (⟨[(flat ((List.replicate 720 false).map AV.bool)), (flat (w_9.map AV.bool)), (C_band_tour x_14)], []⟩) (by kernel_rfl) ⟨LGet.of hx_14 rfl, trivial⟩ rfl ?_
    refine Ex.seq ?_
    obtain ⟨r_15, hr_15, h⟩ := bE h
    refine Ex.reg (rn 4 [1, 4, 5, 11, 12, 13, 17, 20] (mkS 38 [(1, i6 square_2), (4, .ptr 0 0), (5, .ptr 1 0), (11, .sl (tours_1.map A_band_tour) none), (12, i6 ((tours_1.length : Nat) : Int)), (13, i6 y_8), (17, (A_band_tour x_14)), (20, (A_Span x_14.Band.Start))]) ⟨[(flat ((List.replicate 720 false).map AV.bool)), (flat (w_9.map AV.bool)), (C_band_tour x_14)], []⟩ ?_)
    refine ExO.callL [] [(A_band_tour x_14), (A_Span x_14.Band.Start)] rfl rfl (a_band_tour_visits x_14 x_14.Band.Start) rfl rfl (d_band_tour_visits N x_14 x_14.Band.Start r_15 hr_15) (b_band_tour_visits _ _ _ _) rfl ?_
    refine runH 2 [(0, .eq (i6 ((r_15.length : Nat) : Int)))] [1, 4, 5, 11, 12, 13, 21, 22, 23] [AV.int .i64 (((r_15.map A_band_visit).length : Nat) : Int) = AV.int .i64 ((r_15.length : Nat) : Int)] (mkS 38 [(1, i6 square_2), (4, .ptr 0 0), (5, .ptr 1 0), (11, .sl (tours_1.map A_band_tour) none), (12, i6 ((tours_1.length : Nat) : Int)), (13, i6 y_8), (21, .sl (r_15.map A_band_visit) none), (22, i6 ((r_15.length : Nat) : Int)), (23, i6 0)]) (⟨[(flat ((List.replicate 720 false).map AV.bool)), (flat (w_9.map AV.bool)), (C_band_tour x_14)], []⟩) (by kernel_rfl) ⟨lenM _ _, trivial⟩ ?_
    refine ExO.nil ?_
    obtain ⟨K_18, hK_19, h⟩ := letE h
    refine Ex.blockJ (fun a S => ∃ (w_16 : List Bool), K_18 w_16 = some r ∧ a = mkS 38 [(1, i6 square_2), (4, .ptr 0 0), (5, .ptr 1 0), (11, .sl (tours_1.map A_band_tour) none), (12, i6 ((tours_1.length : Nat) : Int)), (13, i6 y_8)] ∧ S = ⟨[(flat ((List.replicate 720 false).map AV.bool)), (flat (w_16.map AV.bool))], []⟩) ?_ ?_
    ·obtain ⟨B_23, hB_24, h⟩ := loop2I h
     refine Ex.loopF (fun k a S => ∃ (y_20 : Int), ∃ (w_21 : List Bool), loop2 B_23 k y_20 w_21 = some r ∧ a = mkS 38 [(1, i6 square_2), (4, .ptr 0 0), (5, .ptr 1 0), (11, .sl (tours_1.map A_band_tour) none), (12, i6 ((tours_1.length : Nat) : Int)), (13, i6 y_8), (21, .sl (r_15.map A_band_visit) none), (22, i6 ((r_15.length : Nat) : Int)), (23, i6 y_20)] ∧ S = ⟨[(flat ((List.replicate 720 false).map AV.bool)), (flat (w_21.map AV.bool))], []⟩) N ⟨_, _, forgetA (m := 38) 2 [] [(1, i6 square_2), (4, .ptr 0 0), (5, .ptr 1 0), (11, .sl (tours_1.map A_band_tour) none), (12, i6 ((tours_1.length : Nat) : Int)), (13, i6 y_8), (21, .sl (r_15.map A_band_visit) none), (22, i6 ((r_15.length : Nat) : Int)), (23, i6 0)] [(flat ((List.replicate 720 false).map AV.bool)), (flat (w_9.map AV.bool))] [] (by simp [setAll]) (by simp) ⟨rfl, rfl, rfl, (reN (KL_band_tour _)), rfl, rfl, (reN (KL_band_visit _)), rfl, rfl, trivial⟩ (mapMC (flat_re (f := AV.bool) (fun _ => rfl) _ _ _) (mapMC (flat_re (f := AV.bool) (fun _ => rfl) _ _ _) rfl)) rfl (by decide), 0, w_9, h, rfl, rfl⟩ ?_
     rintro k a S ⟨y_20, w_21, h, rfl, rfl⟩
     cases k with
     | zero => exact (loop2Z h).elim
     | succ k =>
      replace h := loop2S h hB_24
      refine Ex.seq (rg 1 [1, 4, 5, 11, 12, 13, 21, 22, 23, 24] (mkS 38 [(1, i6 square_2), (4, .ptr 0 0), (5, .ptr 1 0), (11, .sl (tours_1.map A_band_tour) none), (12, i6 ((tours_1.length : Nat) : Int)), (13, i6 y_8), (21, .sl (r_15.map A_band_visit) none), (22, i6 ((r_15.length : Nat) : Int)), (23, i6 y_20), (24, .bool (decide (y_20 < ((r_15.length : Nat) : Int))))]) ⟨[(flat ((List.replicate 720 false).map AV.bool)), (flat (w_21.map AV.bool))], []⟩ ?_)
      refine Ex.seq ?_
      rcases condI h with ⟨hc_25, h⟩ | ⟨hc_25, h⟩
      ·refine Ex.condT _ rfl hc_25 ?_
       refine Ex.skip ?_
       refine Ex.seq ?_
       obtain ⟨K_28, hK_29, h⟩ := letE h
       refine Ex.blockJ (fun a S => ∃ (w_26 : List Bool), K_28 w_26 = some r ∧ a = mkS 38 [(1, i6 square_2), (4, .ptr 0 0), (5, .ptr 1 0), (11, .sl (tours_1.map A_band_tour) none), (12, i6 ((tours_1.length : Nat) : Int)), (13, i6 y_8), (21, .sl (r_15.map A_band_visit) none), (22, i6 ((r_15.length : Nat) : Int)), (23, i6 y_20)] ∧ S = ⟨[(flat ((List.replicate 720 false).map AV.bool)), (flat (w_26.map AV.bool))], []⟩) ?_ ?_
       ·refine Ex.seq ?_
        obtain ⟨x_30, hx_30, h⟩ := bE h
        refine regH 4 [(0, .rop (C_band_visit x_30))] [1, 4, 5, 9, 11, 12, 13, 21, 22, 23] [LGet (r_15.map A_band_visit) y_20 4 (C_band_visit x_30)] (mkS 38 [(1, i6 square_2), (4, .ptr 0 0), (5, .ptr 1 0), (9, .ptr 2 0), (11, .sl (tours_1.map A_band_tour) none), (12, i6 ((tours_1.length : Nat) : Int)), (13, i6 y_8), (21, .sl (r_15.map A_band_visit) none), (22, i6 ((r_15.length : Nat) : Int)), (23, i6 y_20)]) (⟨[(flat ((List.replicate 720 false).map AV.bool)), (flat (w_21.map AV.bool)), (C_band_visit x_30)], []⟩) (by kernel_rfl) ⟨LGet.of hx_30 rfl, trivial⟩ rfl ?_
        refine Ex.seq (rg 4 [1, 4, 5, 9, 11, 12, 13, 21, 22, 23, 30] (mkS 38 [(1, i6 square_2), (4, .ptr 0 0), (5, .ptr 1 0), (9, .ptr 2 0), (11, .sl (tours_1.map A_band_tour) none), (12, i6 ((tours_1.length : Nat) : Int)), (13, i6 y_8), (21, .sl (r_15.map A_band_visit) none), (22, i6 ((r_15.length : Nat) : Int)), (23, i6 y_20), (30, .bool (x_30.square_ == square_2))]) ⟨[(flat ((List.replicate 720 false).map AV.bool)), (flat (w_21.map AV.bool)), (C_band_visit x_30)], []⟩ ?_)
        rcases condI h with ⟨hc_31, h⟩ | ⟨hc_31, h⟩
        ·refine Ex.condT _ rfl hc_31 ?_
         obtain ⟨u_32, hu_32, h⟩ := bE h
         obtain ⟨r_33, hr_33, h⟩ := bE h
         refine Ex.reg ?_
         refine runH 3 [(0, .ld (.agg (flat (w_21.map AV.bool))))] [1, 4, 5, 11, 12, 13, 21, 22, 23, 31, 33] [takeCells (flat (w_21.map AV.bool)) 0 (some 720) = some (.agg (flat (w_21.map AV.bool)))] (mkS 38 [(1, i6 square_2), (4, .ptr 0 0), (5, .ptr 1 0), (11, .sl (tours_1.map A_band_tour) none), (12, i6 ((tours_1.length : Nat) : Int)), (13, i6 y_8), (21, .sl (r_15.map A_band_visit) none), (22, i6 ((r_15.length : Nat) : Int)), (23, i6 y_20), (31, .agg (flat (w_21.map AV.bool))), (33, (A_Span x_30.Span))]) (⟨[(flat ((List.replicate 720 false).map AV.bool)), (flat (w_21.map AV.bool)), (C_band_visit x_30)], []⟩) (by kernel_rfl) ⟨ldArrA (f := AV.bool) w_21 (fun _ => rfl) hu_32, trivial⟩ ?_
         refine ExO.callL [] [.agg (flat (w_21.map AV.bool)), (A_Span x_30.Span)] rfl rfl (by simp; try rfl) rfl rfl (d_band_night_with N w_21 x_30.Span r_33 hr_33) (b_band_night_with _ _ _ _) rfl ?_
         obtain ⟨u_34, hu_34, h⟩ := bE h
         refine runH 1 [(0, .stw (flat (r_33.map AV.bool)))] [1, 4, 5, 11, 12, 13, 21, 22, 23] [(.agg (flat (r_33.map AV.bool)) : AV).okCells = true ∧ (.agg (flat (r_33.map AV.bool)) : AV).cells.length = 720 ∧ 0 < 720 ∧ 0 + 720 ≤ ((flat (w_21.map AV.bool))).length ∧ layAt (flat (w_21.map AV.bool)) 0 (.agg (flat (r_33.map AV.bool)) : AV).cells = (flat (r_33.map AV.bool))] (mkS 38 [(1, i6 square_2), (4, .ptr 0 0), (5, .ptr 1 0), (11, .sl (tours_1.map A_band_tour) none), (12, i6 ((tours_1.length : Nat) : Int)), (13, i6 y_8), (21, .sl (r_15.map A_band_visit) none), (22, i6 ((r_15.length : Nat) : Int)), (23, i6 y_20)]) (⟨[(flat ((List.replicate 720 false).map AV.bool)), (flat (r_33.map AV.bool)), (C_band_visit x_30)], []⟩) (by kernel_rfl) ⟨stArrA (f := AV.bool) w_21 r_33 (fun _ => rfl) (by decide) hu_34, trivial⟩ ?_
         refine ExO.nil ?_
         (try simp only [reduceCtorEq, AEx.ex.injEq, Nat.reduceEqDiff, if_true, if_false])
         exact ⟨_, _, forgetA (m := 38) 2 [] [(1, i6 square_2), (4, .ptr 0 0), (5, .ptr 1 0), (11, .sl (tours_1.map A_band_tour) none), (12, i6 ((tours_1.length : Nat) : Int)), (13, i6 y_8), (21, .sl (r_15.map A_band_visit) none), (22, i6 ((r_15.length : Nat) : Int)), (23, i6 y_20)] [(flat ((List.replicate 720 false).map AV.bool)), (flat (r_33.map AV.bool))] [] (by simp [setAll]) (by simp) ⟨rfl, rfl, rfl, (reN (KL_band_tour _)), rfl, rfl, (reN (KL_band_visit _)), rfl, rfl, trivial⟩ (mapMC (flat_re (f := AV.bool) (fun _ => rfl) _ _ _) (mapMC (flat_re (f := AV.bool) (fun _ => rfl) _ _ _) rfl)) rfl (by decide), r_33, h, rfl, rfl⟩
        ·refine Ex.condF _ rfl hc_31 ?_
         refine Ex.skip ?_
         (try simp only [reduceCtorEq, AEx.ex.injEq, Nat.reduceEqDiff, if_true, if_false])
         exact ⟨_, _, forgetA (m := 38) 2 [] [(1, i6 square_2), (4, .ptr 0 0), (5, .ptr 1 0), (11, .sl (tours_1.map A_band_tour) none), (12, i6 ((tours_1.length : Nat) : Int)), (13, i6 y_8), (21, .sl (r_15.map A_band_visit) none), (22, i6 ((r_15.length : Nat) : Int)), (23, i6 y_20)] [(flat ((List.replicate 720 false).map AV.bool)), (flat (w_21.map AV.bool))] [] (by simp [setAll]) (by simp) ⟨rfl, rfl, rfl, (reN (KL_band_tour _)), rfl, rfl, (reN (KL_band_visit _)), rfl, rfl, trivial⟩ (mapMC (flat_re (f := AV.bool) (fun _ => rfl) _ _ _) (mapMC (flat_re (f := AV.bool) (fun _ => rfl) _ _ _) rfl)) rfl (by decide), w_21, h, rfl, rfl⟩
       ·rintro a S ⟨w_26, h, rfl, rfl⟩
        subst hK_29
        refine rg 2 [1, 4, 5, 11, 12, 13, 21, 22, 23] (mkS 38 [(1, i6 square_2), (4, .ptr 0 0), (5, .ptr 1 0), (11, .sl (tours_1.map A_band_tour) none), (12, i6 ((tours_1.length : Nat) : Int)), (13, i6 y_8), (21, .sl (r_15.map A_band_visit) none), (22, i6 ((r_15.length : Nat) : Int)), (23, i6 (IntKind.i64.wrap (y_20 + 1)))]) ⟨[(flat ((List.replicate 720 false).map AV.bool)), (flat (w_26.map AV.bool))], []⟩ ?_
        dsimp only
        exact ⟨_, _, Forgets.refl _ _ _, k, Nat.lt_succ_self k, (IntKind.i64.wrap (y_20 + 1)), w_26, h, rfl, rfl⟩
      ·refine Ex.condF _ rfl hc_25 ?_
       refine Ex.exit ?_
       (try simp only [reduceCtorEq, AEx.ex.injEq, Nat.reduceEqDiff, if_true, if_false])
       exact ⟨_, _, forgetK [1, 4, 5, 11, 12, 13], w_21, h, rfl, rfl⟩
    ·rintro a S ⟨w_16, h, rfl, rfl⟩
     subst hK_19
     refine rg 2 [1, 4, 5, 11, 12, 13] (mkS 38 [(1, i6 square_2), (4, .ptr 0 0), (5, .ptr 1 0), (11, .sl (tours_1.map A_band_tour) none), (12, i6 ((tours_1.length : Nat) : Int)), (13, i6 (IntKind.i64.wrap (y_8 + 1)))]) ⟨[(flat ((List.replicate 720 false).map AV.bool)), (flat (w_16.map AV.bool))], []⟩ ?_
     dsimp only
     exact ⟨_, _, Forgets.refl _ _ _, k, Nat.lt_succ_self k, (IntKind.i64.wrap (y_8 + 1)), w_16, h, rfl, rfl⟩
   ·refine Ex.condF _ rfl hc_13 ?_
    refine Ex.exit ?_
    (try simp only [reduceCtorEq, AEx.ex.injEq, Nat.reduceEqDiff, if_true, if_false])
    exact ⟨_, _, forgetK [4, 5], w_9, h, rfl, rfl⟩
 ·rintro a S ⟨w_4, h, rfl, rfl⟩
  subst hK_7
  refine Ex.seq ?_
  obtain ⟨u_35, hu_35, h⟩ := bE h
  obtain ⟨u_36, hu_36, h⟩ := bE h
  refine regH 2 [(0, .ld (.agg (flat (w_4.map AV.bool)))), (1, .stw (flat (w_4.map AV.bool)))] [4] [takeCells (flat (w_4.map AV.bool)) 0 (some 720) = some (.agg (flat (w_4.map AV.bool))), (.agg (flat (w_4.map AV.bool)) : AV).okCells = true ∧ (.agg (flat (w_4.map AV.bool)) : AV).cells.length = 720 ∧ 0 < 720 ∧ 0 + 720 ≤ ((flat ((List.replicate 720 false).map AV.bool))).length ∧ layAt (flat ((List.replicate 720 false).map AV.bool)) 0 (.agg (flat (w_4.map AV.bool)) : AV).cells = (flat (w_4.map AV.bool))] (mkS 38 [(4, .ptr 0 0)]) (⟨[(flat (w_4.map AV.bool)), (flat (w_4.map AV.bool))], []⟩) (by kernel_rfl) ⟨ldArrA (f := AV.bool) w_4 (fun _ => rfl) hu_35, stArrA (f := AV.bool) (List.replicate 720 false) w_4 (fun _ => rfl) (by decide) hu_36, trivial⟩ rfl ?_
  refine Ex.ret ?_
  obtain ⟨u_37, hu_37, h⟩ := bE h
  obtain rfl := sJ h
  exact ⟨.inr rfl, .agg (flat (w_4.map AV.bool)), evResArr (f := AV.bool) rfl rfl (fun _ => rfl) hu_37, rfl, fadeArr (f := AV.bool) (fun _ => rfl) _, by kernel_rfl⟩
def p_band_night_sleep (N : Nat) (n_1 : (List Bool)) : Option (Int × Int) := ((lenI n_1 720).bind fun u_2 => (letJ (fun (from_3 : Int) (many_4 : Int) => some (from_3, many_4)) (fun k_5 => (loop4 (fun rec_12 (from_8 : Int) (many_9 : Int) (run_10 : Int) (y_11 : Int) => (bif (decide (y_11 < 720)) then (letJ (fun (from_16 : Int) (many_17 : Int) (run_18 : Int) => (rec_12 from_16 many_17 run_18 (IntKind.i64.wrap (y_11 + 1)))) (fun k_19 => ((getA n_1 y_11 720).bind fun x_22 => (letJ (fun (run_23 : Int) => (bif (decide (run_23 > many_9)) then (k_19 (IntKind.i64.wrap ((IntKind.i64.wrap (y_11 - run_23)) + 1)) run_23 run_23) else (k_19 from_8 many_9 run_23))) (fun k_24 => (bif x_22 then (k_24 0) else (k_24 (IntKind.i64.wrap (run_10 + 1))))))))) else (k_5 from_8 many_9))) N 0 0 0 0))))
def v_band_night_sleep (r : Int × Int) : AV := .tup [i6 r.1, i6 r.2]
attribute [local simp] v_band_night_sleep
theorem b_band_night_sleep (r : Int × Int) (n n2 m : Nat) : back n n2 m (v_band_night_sleep r) = some (v_band_night_sleep r) := by simp
theorem d_band_night_sleep (N : Nat) (n_1 : (List Bool)) (r : Int × Int) (h : p_band_night_sleep N n_1 = some r) : Does Tryd.prog 75 [.agg (flat (n_1.map AV.bool))] [] fun v c => v = v_band_night_sleep r ∧ c = [] := by
 unfold p_band_night_sleep at h
 refine Does.ofL comp75 _ _ rfl rfl ?_
 refine Ex.seq (rg 3 [1, 2, 3] (mkS 26 [(1, .ptr 0 0), (2, i6 0), (3, i6 0)]) ⟨[(flat (n_1.map AV.bool))], []⟩ ?_)
 refine Ex.seq (rg 1 [1, 2, 3, 4] (mkS 26 [(1, .ptr 0 0), (2, i6 0), (3, i6 0), (4, i6 0)]) ⟨[(flat (n_1.map AV.bool))], []⟩ ?_)
 refine Ex.seq (Ex.seq ?_)
 obtain ⟨u_2, hu_2, h⟩ := bE h
 refine regH 2 [(0, .ld (.agg (flat (n_1.map AV.bool))))] [2, 3, 4, 7, 8] [takeCells (flat (n_1.map AV.bool)) 0 (some 720) = some (.agg (flat (n_1.map AV.bool)))] (mkS 26 [(2, i6 0), (3, i6 0), (4, i6 0), (7, .agg (flat (n_1.map AV.bool))), (8, i6 0)]) (⟨[(flat (n_1.map AV.bool))], []⟩) (by kernel_rfl) ⟨ldArrA (f := AV.bool) n_1 (fun _ => rfl) hu_2, trivial⟩ rfl ?_
 obtain ⟨K_6, hK_7, h⟩ := letE h
 refine Ex.blockJ (fun a S => ∃ (from_3 : Int), ∃ (many_4 : Int), K_6 from_3 many_4 = some r ∧ a = mkS 26 [(2, i6 from_3), (3, i6 many_4)] ∧ S = ⟨[], []⟩) ?_ ?_
 ·obtain ⟨B_13, hB_14, h⟩ := loop4I h
  refine Ex.loopF (fun k a S => ∃ (from_8 : Int), ∃ (many_9 : Int), ∃ (run_10 : Int), ∃ (y_11 : Int), loop4 B_13 k from_8 many_9 run_10 y_11 = some r ∧ a = mkS 26 [(2, i6 from_8), (3, i6 many_9), (4, i6 run_10), (7, .agg (flat (n_1.map AV.bool))), (8, i6 y_11)] ∧ S = ⟨[], []⟩) N ⟨_, _, forgetA (m := 26) 0 [] [(2, i6 0), (3, i6 0), (4, i6 0), (7, .agg (flat (n_1.map AV.bool))), (8, i6 0)] [] [] (by simp [setAll]) (by simp) ⟨rfl, rfl, rfl, (reArr (f := AV.bool) (fun _ => rfl) _), rfl, trivial⟩ (by simp) rfl (by decide), 0, 0, 0, 0, h, rfl, rfl⟩ ?_
  rintro k a S ⟨from_8, many_9, run_10, y_11, h, rfl, rfl⟩
  cases k with
  | zero => exact (loop4Z h).elim
  | succ k =>
   replace h := loop4S h hB_14
   refine Ex.seq (rg 1 [2, 3, 4, 7, 8, 9] (mkS 26 [(2, i6 from_8), (3, i6 many_9), (4, i6 run_10), (7, .agg (flat (n_1.map AV.bool))), (8, i6 y_11), (9, .bool (decide (y_11 < 720)))]) ⟨[], []⟩ ?_)
   refine Ex.seq ?_
   rcases condI h with ⟨hc_15, h⟩ | ⟨hc_15, h⟩
   ·refine Ex.condT _ rfl hc_15 ?_
    refine Ex.skip ?_
    refine Ex.seq ?_
    obtain ⟨K_20, hK_21, h⟩ := letE h
    refine Ex.blockJ (fun a S => ∃ (from_16 : Int), ∃ (many_17 : Int), ∃ (run_18 : Int), K_20 from_16 many_17 run_18 = some r ∧ a = mkS 26 [(2, i6 from_16), (3, i6 many_17), (4, i6 run_18), (7, .agg (flat (n_1.map AV.bool))), (8, i6 y_11)] ∧ S = ⟨[], []⟩) ?_ ?_
    ·refine Ex.seq ?_
     obtain ⟨x_22, hx_22, h⟩ := bE h
     refine regH 4 [(1, .ax (.bool x_22))] [2, 3, 4, 5, 6, 7, 8] [(0 ≤ y_11 ∧ y_11 < ((720 : Nat) : Int)) ∧ takeCells (flat (n_1.map AV.bool)) (Int.toNat y_11 * 1) none = some (.bool x_22)] (mkS 26 [(2, i6 from_8), (3, i6 many_9), (4, i6 run_10), (5, i6 y_11), (6, .bool x_22), (7, .agg (flat (n_1.map AV.bool))), (8, i6 y_11)]) (⟨[], []⟩) (by kernel_rfl) ⟨axArrA (f := AV.bool) n_1 (fun _ => rfl) hx_22, trivial⟩ rfl ?_
     refine Ex.seq (rg 3 [2, 3, 4, 5, 6, 7, 8] (mkS 26 [(2, i6 from_8), (3, i6 many_9), (4, i6 (IntKind.i64.wrap (run_10 + 1))), (5, i6 y_11), (6, .bool x_22), (7, .agg (flat (n_1.map AV.bool))), (8, i6 y_11)]) ⟨[], []⟩ ?_)
     obtain ⟨K_25, hK_26, h⟩ := letE h
     refine Ex.seqJ (fun a S => ∃ (run_23 : Int), K_25 run_23 = some r ∧ a = mkS 26 [(2, i6 from_8), (3, i6 many_9), (4, i6 run_23), (5, i6 y_11), (7, .agg (flat (n_1.map AV.bool))), (8, i6 y_11)] ∧ S = ⟨[], []⟩) ?_ ?_
     ·refine Ex.seq (rg 1 [2, 3, 4, 5, 7, 8, 14] (mkS 26 [(2, i6 from_8), (3, i6 many_9), (4, i6 (IntKind.i64.wrap (run_10 + 1))), (5, i6 y_11), (7, .agg (flat (n_1.map AV.bool))), (8, i6 y_11), (14, .bool x_22)]) ⟨[], []⟩ ?_)
      rcases condI h with ⟨hc_27, h⟩ | ⟨hc_27, h⟩
      ·refine Ex.condT _ rfl hc_27 ?_
       refine rg 1 [2, 3, 4, 5, 7, 8] (mkS 26 [(2, i6 from_8), (3, i6 many_9), (4, i6 0), (5, i6 y_11), (7, .agg (flat (n_1.map AV.bool))), (8, i6 y_11)]) ⟨[], []⟩ ?_
       (try simp only [reduceCtorEq, AEx.ex.injEq, Nat.reduceEqDiff, if_true, if_false])
       exact ⟨_, _, Forgets.refl _ _ _, 0, h, rfl, rfl⟩
      ·refine Ex.condF _ rfl hc_27 ?_
       refine Ex.skip ?_
       (try simp only [reduceCtorEq, AEx.ex.injEq, Nat.reduceEqDiff, if_true, if_false])
       exact ⟨_, _, forgetK [2, 3, 4, 5, 7, 8], (IntKind.i64.wrap (run_10 + 1)), h, rfl, rfl⟩
     ·rintro a S ⟨run_23, h, rfl, rfl⟩
      subst hK_26
      refine Ex.seq (rg 3 [2, 3, 4, 5, 7, 8, 17] (mkS 26 [(2, i6 from_8), (3, i6 many_9), (4, i6 run_23), (5, i6 y_11), (7, .agg (flat (n_1.map AV.bool))), (8, i6 y_11), (17, .bool (decide (run_23 > many_9)))]) ⟨[], []⟩ ?_)
      rcases condI h with ⟨hc_28, h⟩ | ⟨hc_28, h⟩
      ·refine Ex.condT _ rfl hc_28 ?_
       refine rg 7 [2, 3, 4, 7, 8] (mkS 26 [(2, i6 (IntKind.i64.wrap ((IntKind.i64.wrap (y_11 - run_23)) + 1))), (3, i6 run_23), (4, i6 run_23), (7, .agg (flat (n_1.map AV.bool))), (8, i6 y_11)]) ⟨[], []⟩ ?_
       (try simp only [reduceCtorEq, AEx.ex.injEq, Nat.reduceEqDiff, if_true, if_false])
       exact ⟨_, _, Forgets.refl _ _ _, (IntKind.i64.wrap ((IntKind.i64.wrap (y_11 - run_23)) + 1)), run_23, run_23, h, rfl, rfl⟩
      ·refine Ex.condF _ rfl hc_28 ?_
       refine Ex.skip ?_
       (try simp only [reduceCtorEq, AEx.ex.injEq, Nat.reduceEqDiff, if_true, if_false])
       exact ⟨_, _, forgetK [2, 3, 4, 7, 8], from_8, many_9, run_23, h, rfl, rfl⟩
    ·rintro a S ⟨from_16, many_17, run_18, h, rfl, rfl⟩
     subst hK_21
     refine rg 2 [2, 3, 4, 7, 8] (mkS 26 [(2, i6 from_16), (3, i6 many_17), (4, i6 run_18), (7, .agg (flat (n_1.map AV.bool))), (8, i6 (IntKind.i64.wrap (y_11 + 1)))]) ⟨[], []⟩ ?_
     dsimp only
     exact ⟨_, _, Forgets.refl _ _ _, k, Nat.lt_succ_self k, from_16, many_17, run_18, (IntKind.i64.wrap (y_11 + 1)), h, rfl, rfl⟩
   ·refine Ex.condF _ rfl hc_15 ?_
    refine Ex.exit ?_
    (try simp only [reduceCtorEq, AEx.ex.injEq, Nat.reduceEqDiff, if_true, if_false])
    exact ⟨_, _, forgetK [2, 3], from_8, many_9, h, rfl, rfl⟩
 ·rintro a S ⟨from_3, many_4, h, rfl, rfl⟩
  subst hK_7
  refine Ex.seq (rg 4 [2, 3] (mkS 26 [(2, i6 from_3), (3, i6 many_4)]) ⟨[], []⟩ ?_)
  refine Ex.ret ?_
  obtain rfl := sJ h
  exact rt (.tup [i6 from_3, i6 many_4])
def p_band_Sleep (N : Nat) (c_1 : T_City) (l_2 : (List T_Band)) (square_3 : Int) : Option (Int × Int × Int) := ((p_band_toursOf N c_1 l_2).bind fun r_4 => (bif (r_4.2 != 0) then some (0, 0, r_4.2) else ((p_band_within N square_3 0 (IntKind.i64.wrap (((c_1.Town.Rooms.length : Nat) : Int) - 1))).bind fun r_6 => (bif (!r_6) then some (0, 0, 7) else ((p_band_nightOf N r_4.1 square_3).bind fun r_8 => ((p_band_night_sleep N r_8).bind fun r_9 => some (r_9.1, r_9.2, 0)))))))
def v_band_Sleep (r : Int × Int × Int) : AV := .tup [i6 r.1, i6 r.2.1, i6 r.2.2]
attribute [local simp] v_band_Sleep
theorem a_band_Sleep (c_1 : T_City) (l_2 : (List T_Band)) (square_3 : Int) : [(A_City c_1), .sl (l_2.map A_Band) none, i6 square_3].mapM (ren []) = some [(A_City c_1), .sl (l_2.map A_Band) none, i6 square_3] := by simp
theorem b_band_Sleep (r : Int × Int × Int) (n n2 m : Nat) : back n n2 m (v_band_Sleep r) = some (v_band_Sleep r) := by simp
theorem d_band_Sleep (N : Nat) (c_1 : T_City) (l_2 : (List T_Band)) (square_3 : Int) (r : Int × Int × Int) (h : p_band_Sleep N c_1 l_2 square_3 = some r) : Does Tryd.prog 34 [(A_City c_1), .sl (l_2.map A_Band) none, i6 square_3] [] fun v c => v = v_band_Sleep r ∧ c = [] := by
 unfold p_band_Sleep at h
 refine Does.ofL comp34 _ _ rfl rfl ?_
 refine Ex.seq (rg 4 [1, 2, 3] (mkS 38 [(1, .sl (l_2.map A_Band) none), (2, i6 square_3), (3, .ptr 0 0)]) ⟨[(C_City c_1)], []⟩ ?_)
 refine Ex.seq ?_
 obtain ⟨r_4, hr_4, h⟩ := bE h
 refine Ex.reg (rn 2 [2, 3, 11, 12] (mkS 38 [(2, i6 square_3), (3, .ptr 0 0), (11, (A_City c_1)), (12, .sl (l_2.map A_Band) none)]) ⟨[(C_City c_1)], []⟩ ?_)
 refine ExO.callL [] [(A_City c_1), .sl (l_2.map A_Band) none] rfl rfl (a_band_toursOf c_1 l_2) rfl rfl (d_band_toursOf N c_1 l_2 r_4 hr_4) (b_band_toursOf _ _ _ _) rfl ?_
 refine rn 5 [2, 3, 8, 9] (mkS 38 [(2, i6 square_3), (3, .ptr 0 0), (8, i6 r_4.2), (9, .sl (r_4.1.map A_band_tour) none)]) ⟨[(C_City c_1)], []⟩ ?_
 refine ExO.nil ?_
 refine Ex.seq ?_
 refine Ex.blockK ?_
 refine Ex.seq (rg 3 [2, 3, 8, 9, 16] (mkS 38 [(2, i6 square_3), (3, .ptr 0 0), (8, i6 r_4.2), (9, .sl (r_4.1.map A_band_tour) none), (16, .bool (r_4.2 != 0))]) ⟨[(C_City c_1)], []⟩ ?_)
 rcases condI h with ⟨hc_5, h⟩ | ⟨hc_5, h⟩
 ·refine Ex.condT _ rfl hc_5 ?_
  refine Ex.seq (rg 4 [6, 7, 8] (mkS 38 [(6, i6 0), (7, i6 0), (8, i6 r_4.2)]) ⟨[(C_City c_1)], []⟩ ?_)
  refine Ex.ret ?_
  obtain rfl := sJ h
  exact rt (.tup [i6 0, i6 0, i6 r_4.2])
 ·refine Ex.condF _ rfl hc_5 ?_
  refine Ex.seq ?_
  obtain ⟨r_6, hr_6, h⟩ := bE h
  refine Ex.reg ?_
  refine runH 6 [(4, .eq (i6 ((c_1.Town.Rooms.length : Nat) : Int)))] [2, 9, 21, 26] [AV.int .i64 (((c_1.Town.Rooms.map (AV.int .i64)).length : Nat) : Int) = AV.int .i64 ((c_1.Town.Rooms.length : Nat) : Int)] (mkS 38 [(2, i6 square_3), (9, .sl (r_4.1.map A_band_tour) none), (21, i6 square_3), (26, i6 (IntKind.i64.wrap (((c_1.Town.Rooms.length : Nat) : Int) - 1)))]) (⟨[(C_City c_1)], []⟩) (by kernel_rfl) ⟨lenM _ _, trivial⟩ ?_
  refine ExO.callL [] [i6 square_3, i6 0, i6 (IntKind.i64.wrap (((c_1.Town.Rooms.length : Nat) : Int) - 1))] rfl rfl (a_band_within square_3 0 (IntKind.i64.wrap (((c_1.Town.Rooms.length : Nat) : Int) - 1))) rfl rfl (d_band_within N square_3 0 (IntKind.i64.wrap (((c_1.Town.Rooms.length : Nat) : Int) - 1)) r_6 hr_6) (b_band_within _ _ _ _) rfl ?_
  refine rn 2 [2, 9, 20] (mkS 38 [(2, i6 square_3), (9, .sl (r_4.1.map A_band_tour) none), (20, .bool (!r_6))]) ⟨[(C_City c_1)], []⟩ ?_
  refine ExO.nil ?_
  rcases condI h with ⟨hc_7, h⟩ | ⟨hc_7, h⟩
  ·refine Ex.condT _ rfl hc_7 ?_
   refine Ex.seq (rg 3 [6, 7, 8] (mkS 38 [(6, i6 0), (7, i6 0), (8, i6 7)]) ⟨[(C_City c_1)], []⟩ ?_)
   refine Ex.ret ?_
   obtain rfl := sJ h
   exact rt (.tup [i6 0, i6 0, i6 7])
  ·refine Ex.condF _ rfl hc_7 ?_
   refine Ex.skip ?_
   refine Ex.seq ?_
   obtain ⟨r_8, hr_8, h⟩ := bE h
   refine Ex.reg (rn 2 [30, 31] (mkS 38 [(30, .sl (r_4.1.map A_band_tour) none), (31, i6 square_3)]) ⟨[(C_City c_1)], []⟩ ?_)
   refine ExO.callL [] [.sl (r_4.1.map A_band_tour) none, i6 square_3] rfl rfl (a_band_nightOf r_4.1 square_3) rfl rfl (d_band_nightOf N r_4.1 square_3 r_8 hr_8) (b_band_nightOf _ _ _ _) rfl ?_
   obtain ⟨r_9, hr_9, h⟩ := bE h
   refine ExO.callL [] [.agg (flat (r_8.map AV.bool))] rfl rfl (by simp; try rfl) rfl rfl (d_band_night_sleep N r_8 r_9 hr_9) (b_band_night_sleep _ _ _ _) rfl ?_
   refine rn 5 [6, 7] (mkS 38 [(6, i6 r_9.1), (7, i6 r_9.2)]) ⟨[(C_City c_1)], []⟩ ?_
   refine ExO.nil ?_
   refine Ex.seq (rg 5 [6, 7, 8] (mkS 38 [(6, i6 r_9.1), (7, i6 r_9.2), (8, i6 0)]) ⟨[(C_City c_1)], []⟩ ?_)
   refine Ex.ret ?_
   obtain rfl := sJ h
   exact rt (.tup [i6 r_9.1, i6 r_9.2, i6 0])
def p_band_choice_with (N : Nat) (x_1 : Int) (band_2 : Int) : Option (Int) := ((nnI band_2).bind fun u_3 => ((some (IntKind.u64.wrap (((BitVec.ofInt (IntKind.bits .u64) x_1 ||| BitVec.ofInt (IntKind.bits .u64) (IntKind.u64.wrap (1 * ((2 : Int) ^ (min (Int.toNat band_2) (IntKind.bits .u64)))))).toNat : Nat) : Int))).bind fun n_4 => some n_4))
def v_band_choice_with (r : Int) : AV := .int .u64 r
attribute [local simp] v_band_choice_with
theorem a_band_choice_with (x_1 : Int) (band_2 : Int) : [.int .u64 x_1, i6 band_2].mapM (ren []) = some [.int .u64 x_1, i6 band_2] := by simp
theorem b_band_choice_with (r : Int) (n n2 m : Nat) : back n n2 m (v_band_choice_with r) = some (v_band_choice_with r) := by simp
theorem d_band_choice_with (N : Nat) (x_1 : Int) (band_2 : Int) (r : Int) (h : p_band_choice_with N x_1 band_2 = some r) : Does Tryd.prog 79 [.int .u64 x_1, i6 band_2] [] fun v c => v = v_band_choice_with r ∧ c = [] := by
 unfold p_band_choice_with at h
 refine Does.ofL comp79 _ _ rfl rfl ?_
 refine Ex.seq (rg 1 [0, 1] (mkS 9 [(0, .int .u64 x_1), (1, i6 band_2)]) ⟨[], []⟩ ?_)
 refine Ex.seq ?_
 obtain ⟨u_3, hu_3, h⟩ := bE h
 obtain ⟨n_4, hn_4, h⟩ := bE h
 refine regH 5 [(2, .bin (.int .u64 (IntKind.u64.wrap (1 * ((2 : Int) ^ (min (Int.toNat band_2) (IntKind.bits .u64))))))), (3, .eq (.int .u64 n_4))] [4] [binA .shl (.int .u64 1) (i6 band_2) = some (.int .u64 (IntKind.u64.wrap (1 * ((2 : Int) ^ (min (Int.toNat band_2) (IntKind.bits .u64)))))), AV.int .u64 (IntKind.u64.wrap (((BitVec.ofInt (IntKind.bits .u64) x_1 ||| BitVec.ofInt (IntKind.bits .u64) (IntKind.u64.wrap (1 * ((2 : Int) ^ (min (Int.toNat band_2) (IntKind.bits .u64)))))).toNat : Nat) : Int)) = AV.int .u64 n_4] (mkS 9 [(4, .int .u64 n_4)]) (⟨[], []⟩) (by kernel_rfl) ⟨binSl hu_3, congrArg (AV.int .u64) (Option.some.inj hn_4), trivial⟩ rfl ?_
 refine Ex.ret ?_
 obtain rfl := sJ h
 exact rt (.int .u64 n_4)
structure T_band_requests where
 city_ : T_City
 tours_ : (List T_band_tour)
 crosses_ : (List Int)
 deriving Inhabited
def C_band_requests (x : T_band_requests) : List AV := [.sl (x.city_.Town.Rooms.map (AV.int .i64)) none, .sl (x.city_.Town.Streets.map A_Street) none, .sl (x.city_.Town.Groups.map A_Group) none, i6 x.city_.Town.Steps, i6 x.city_.Break, .sl (x.city_.Sleep.map (AV.int .i64)) none, .sl (x.tours_.map A_band_tour) none, .sl (x.crosses_.map (AV.int .u64)) none]
attribute [local simp] C_band_requests
def A_band_requests (x : T_band_requests) : AV := .agg (C_band_requests x)
attribute [local simp] A_band_requests
theorem KC_band_requests (x : T_band_requests) : cleanL (C_band_requests x) = true := by simp
theorem KA_band_requests (x : T_band_requests) : (A_band_requests x).clean = true := KC_band_requests x
theorem KL_band_requests (l : List T_band_requests) : cleanL (l.map A_band_requests) = true := cleanM KA_band_requests l
attribute [local simp] KL_band_requests
theorem KB_band_requests (x : T_band_requests) (n : Nat) (σ : List Nat) : (C_band_requests x).mapM (re n σ) = some (C_band_requests x) := by simp
attribute [local simp] KB_band_requests
def p_band_requestsOf (N : Nat) (c_1 : T_City) (tours_2 : (List T_band_tour)) : Option (T_band_requests) := ((mkI ((tours_2.length : Nat) : Int)).bind fun k_3 => (letJ (fun (w_4 : List Int) => ((lenI w_4 k_3).bind fun u_39 => some (⟨c_1, tours_2, w_4⟩ : T_band_requests))) (fun k_5 => (loop2 (fun rec_10 (y_8 : Int) (w_9 : List Int) => (bif (decide (y_8 < ((tours_2.length : Nat) : Int))) then ((getI tours_2 y_8).bind fun x_14 => ((partI tours_2 0 y_8).bind fun l_15 => (letJ (fun (w_16 : List Int) => (rec_10 (IntKind.i64.wrap (y_8 + 1)) w_16)) (fun k_17 => (loop2 (fun rec_22 (y_20 : Int) (w_21 : List Int) => (bif (decide (y_20 < ((l_15.length : Nat) : Int))) then (letJ (fun (w_26 : List Int) => (rec_22 (IntKind.i64.wrap (y_20 + 1)) w_26)) (fun k_27 => ((getI l_15 y_20).bind fun x_30 => ((p_band_verdict N x_14 x_30 c_1.Break).bind fun r_31 => (bif (r_31 != 2) then ((idxI y_8 k_3).bind fun u_33 => ((w_21[Int.toNat y_8]?).bind fun x_34 => ((p_band_choice_with N x_34 y_20).bind fun r_35 => ((idxI y_8 k_3).bind fun u_36 => ((setI w_21 y_8 (fun (y_37 : Int) => r_35)).bind fun z_38 => (k_27 z_38)))))) else (k_27 w_21)))))) else (k_17 w_21))) N 0 w_9))))) else (k_5 w_9))) N 0 (List.replicate k_3 0)))))
def v_band_requestsOf (r : T_band_requests) : AV := (A_band_requests r)
attribute [local simp] v_band_requestsOf
theorem a_band_requestsOf (c_1 : T_City) (tours_2 : (List T_band_tour)) : [(A_City c_1), .sl (tours_2.map A_band_tour) none].mapM (ren []) = some [(A_City c_1), .sl (tours_2.map A_band_tour) none] := by simp
theorem b_band_requestsOf (r : T_band_requests) (n n2 m : Nat) : back n n2 m (v_band_requestsOf r) = some (v_band_requestsOf r) := by simp
theorem d_band_requestsOf (N : Nat) (c_1 : T_City) (tours_2 : (List T_band_tour)) (r : T_band_requests) (h : p_band_requestsOf N c_1 tours_2 = some r) : Does Tryd.prog 77 [(A_City c_1), .sl (tours_2.map A_band_tour) none] [] fun v c => v = v_band_requestsOf r ∧ c = [] := by
 unfold p_band_requestsOf at h
 refine Does.ofL comp77 _ _ rfl rfl ?_
 refine Ex.seq (rg 2 [1, 2, 4] (mkS 50 [(1, .sl (tours_2.map A_band_tour) none), (2, .ptr 0 0), (4, .ptr 1 0)]) ⟨[(C_City c_1), [.nils, .nils, .nils, i6 0, i6 0, .nils, .nils, .nils]], []⟩ ?_)
 refine Ex.seq ?_
 obtain ⟨k_3, hk_3, h⟩ := bE h
 refine regH 4 [(1, .eq (i6 ((tours_2.length : Nat) : Int))), (2, .mk (flat ((List.replicate k_3 0).map (AV.int .u64))) k_3)] [1, 2, 4, 5] [AV.int .i64 (((tours_2.map A_band_tour).length : Nat) : Int) = AV.int .i64 ((tours_2.length : Nat) : Int), ((tours_2.length : Nat) : Int) = ((k_3 : Nat) : Int) ∧ k_3 ≤ 65536 ∧ rep [.int .u64 0] k_3 = (flat ((List.replicate k_3 0).map (AV.int .u64)))] (mkS 50 [(1, .sl (tours_2.map A_band_tour) none), (2, .ptr 0 0), (4, .ptr 1 0), (5, .ms 2 k_3 1)]) (⟨[(C_City c_1), [.nils, .nils, .nils, i6 0, i6 0, .nils, .nils, .nils], (flat ((List.replicate k_3 0).map (AV.int .u64)))], []⟩) (by kernel_rfl) ⟨lenM _ _, mk_of (f := (AV.int .u64)) 0 rfl hk_3, trivial⟩ rfl ?_
 refine Ex.seq (Ex.seq ?_)
 refine regH 3 [(1, .eq (i6 ((tours_2.length : Nat) : Int)))] [1, 2, 4, 5, 13, 14, 15] [AV.int .i64 (((tours_2.map A_band_tour).length : Nat) : Int) = AV.int .i64 ((tours_2.length : Nat) : Int)] (mkS 50 [(1, .sl (tours_2.map A_band_tour) none), (2, .ptr 0 0), (4, .ptr 1 0), (5, .ms 2 k_3 1), (13, .sl (tours_2.map A_band_tour) none), (14, i6 ((tours_2.length : Nat) : Int)), (15, i6 0)]) (⟨[(C_City c_1), [.nils, .nils, .nils, i6 0, i6 0, .nils, .nils, .nils], (flat ((List.replicate k_3 0).map (AV.int .u64)))], []⟩) (by kernel_rfl) ⟨lenM _ _, trivial⟩ rfl ?_
 obtain ⟨K_6, hK_7, h⟩ := letE h
 refine Ex.blockJ (fun a S => ∃ (w_4 : List Int), K_6 w_4 = some r ∧ a = mkS 50 [(1, .sl (tours_2.map A_band_tour) none), (2, .ptr 0 0), (4, .ptr 1 0), (5, .ms 2 k_3 1)] ∧ S = ⟨[(C_City c_1), [.nils, .nils, .nils, i6 0, i6 0, .nils, .nils, .nils], (flat (w_4.map (AV.int .u64)))], []⟩) ?_ ?_
 ·obtain ⟨B_11, hB_12, h⟩ := loop2I h
  refine Ex.loopF (fun k a S => ∃ (y_8 : Int), ∃ (w_9 : List Int), loop2 B_11 k y_8 w_9 = some r ∧ a = mkS 50 [(1, .sl (tours_2.map A_band_tour) none), (2, .ptr 0 0), (4, .ptr 1 0), (5, .ms 2 k_3 1), (13, .sl (tours_2.map A_band_tour) none), (14, i6 ((tours_2.length : Nat) : Int)), (15, i6 y_8)] ∧ S = ⟨[(C_City c_1), [.nils, .nils, .nils, i6 0, i6 0, .nils, .nils, .nils], (flat (w_9.map (AV.int .u64)))], []⟩) N ⟨_, _, Forgets.refl _ _ _, 0, (List.replicate k_3 0), h, rfl, rfl⟩ ?_
  rintro k a S ⟨y_8, w_9, h, rfl, rfl⟩
  cases k with
  | zero => exact (loop2Z h).elim
  | succ k =>
   replace h := loop2S h hB_12
   refine Ex.seq (rg 1 [1, 2, 4, 5, 13, 14, 15, 16] (mkS 50 [(1, .sl (tours_2.map A_band_tour) none), (2, .ptr 0 0), (4, .ptr 1 0), (5, .ms 2 k_3 1), (13, .sl (tours_2.map A_band_tour) none), (14, i6 ((tours_2.length : Nat) : Int)), (15, i6 y_8), (16, .bool (decide (y_8 < ((tours_2.length : Nat) : Int))))]) ⟨[(C_City c_1), [.nils, .nils, .nils, i6 0, i6 0, .nils, .nils, .nils], (flat (w_9.map (AV.int .u64)))], []⟩ ?_)
   refine Ex.seq ?_
   rcases condI h with ⟨hc_13, h⟩ | ⟨hc_13, h⟩
   ·refine Ex.condT _ rfl hc_13 ?_
    refine Ex.skip ?_
    refine Ex.seq ?_
    refine Ex.blockK ?_
    refine Ex.seq ?_
    obtain ⟨x_14, hx_14, h⟩ := bE h
    refine regH 6 [(1, .rop (C_band_tour x_14))] [1, 2, 4, 5, 6, 7, 13, 14, 15] [LGet (tours_2.map A_band_tour) y_8 7 (C_band_tour x_14)] (mkS 50 [(1, .sl (tours_2.map A_band_tour) none), (2, .ptr 0 0), (4, .ptr 1 0), (5, .ms 2 k_3 1), (6, i6 y_8), (7, .ptr 3 0), (13, .sl (tours_2.map A_band_tour) none), (14, i6 ((tours_2.length : Nat) : Int)), (15, i6 y_8)]) (⟨[(C_City c_1), [.nils, .nils, .nils, i6 0, i6 0, .nils, .nils, .nils], (flat (w_9.map (AV.int .u64))), (C_band_tour x_14)], []⟩) (by kernel_rfl) ⟨LGet.of hx_14 rfl, trivial⟩ rfl ?_
    refine Ex.seq ?_
    obtain ⟨l_15, hl_15, h⟩ := bE h
    refine regH 5 [(2, .sc (l_15.map A_band_tour)), (3, .eq (i6 ((l_15.length : Nat) : Int)))] [1, 2, 4, 5, 6, 7, 13, 14, 15, 22, 23, 24] [LSlc (tours_2.map A_band_tour) none (some y_8) 7 (l_15.map A_band_tour), AV.int .i64 (((l_15.map A_band_tour).length : Nat) : Int) = AV.int .i64 ((l_15.length : Nat) : Int)] (mkS 50 [(1, .sl (tours_2.map A_band_tour) none), (2, .ptr 0 0), (4, .ptr 1 0), (5, .ms 2 k_3 1), (6, i6 y_8), (7, .ptr 3 0), (13, .sl (tours_2.map A_band_tour) none), (14, i6 ((tours_2.length : Nat) : Int)), (15, i6 y_8), (22, .sl (l_15.map A_band_tour) none), (23, i6 ((l_15.length : Nat) : Int)), (24, i6 0)]) (⟨[(C_City c_1), [.nils, .nils, .nils, i6 0, i6 0, .nils, .nils, .nils], (flat (w_9.map (AV.int .u64))), (C_band_tour x_14)], []⟩) (by kernel_rfl) ⟨partI.ofR (f := A_band_tour) (fun _ => rfl) hl_15, lenM _ _, trivial⟩ rfl ?_
    obtain ⟨K_18, hK_19, h⟩ := letE h
    refine Ex.blockJ (fun a S => ∃ (w_16 : List Int), K_18 w_16 = some r ∧ a = mkS 50 [(1, .sl (tours_2.map A_band_tour) none), (2, .ptr 0 0), (4, .ptr 1 0), (5, .ms 2 k_3 1), (13, .sl (tours_2.map A_band_tour) none), (14, i6 ((tours_2.length : Nat) : Int)), (15, i6 y_8)] ∧ S = ⟨[(C_City c_1), [.nils, .nils, .nils, i6 0, i6 0, .nils, .nils, .nils], (flat (w_16.map (AV.int .u64)))], []⟩) ?_ ?_
    ·obtain ⟨B_23, hB_24, h⟩ := loop2I h
     refine Ex.loopF (fun k a S => ∃ (y_20 : Int), ∃ (w_21 : List Int), loop2 B_23 k y_20 w_21 = some r ∧ a = mkS 50 [(1, .sl (tours_2.map A_band_tour) none), (2, .ptr 0 0), (4, .ptr 1 0), (5, .ms 2 k_3 1), (6, i6 y_8), (7, .ptr 3 0), (13, .sl (tours_2.map A_band_tour) none), (14, i6 ((tours_2.length : Nat) : Int)), (15, i6 y_8), (22, .sl (l_15.map A_band_tour) none), (23, i6 ((l_15.length : Nat) : Int)), (24, i6 y_20)] ∧ S = ⟨[(C_City c_1), [.nils, .nils, .nils, i6 0, i6 0, .nils, .nils, .nils], (flat (w_21.map (AV.int .u64))), (C_band_tour x_14)], []⟩) N ⟨_, _, Forgets.refl _ _ _, 0, w_9, h, rfl, rfl⟩ ?_
     rintro k a S ⟨y_20, w_21, h, rfl, rfl⟩
     cases k with
     | zero => exact (loop2Z h).elim
     | succ k =>
      replace h := loop2S h hB_24
      refine Ex.seq (rg 1 [1, 2, 4, 5, 6, 7, 13, 14, 15, 22, 23, 24, 25] (mkS 50 [(1, .sl (tours_2.map A_band_tour) none), (2, .ptr 0 0), (4, .ptr 1 0), (5, .ms 2 k_3 1), (6, i6 y_8), (7, .ptr 3 0), (13, .sl (tours_2.map A_band_tour) none), (14, i6 ((tours_2.length : Nat) : Int)), (15, i6 y_8), (22, .sl (l_15.map A_band_tour) none), (23, i6 ((l_15.length : Nat) : Int)), (24, i6 y_20), (25, .bool (decide (y_20 < ((l_15.length : Nat) : Int))))]) ⟨[(C_City c_1), [.nils, .nils, .nils, i6 0, i6 0, .nils, .nils, .nils], (flat (w_21.map (AV.int .u64))), (C_band_tour x_14)], []⟩ ?_)
      refine Ex.seq ?_
      rcases condI h with ⟨hc_25, h⟩ | ⟨hc_25, h⟩
      ·refine Ex.condT _ rfl hc_25 ?_
       refine Ex.skip ?_
       refine Ex.seq ?_
       obtain ⟨K_28, hK_29, h⟩ := letE h
       refine Ex.blockJ (fun a S => ∃ (w_26 : List Int), K_28 w_26 = some r ∧ a = mkS 50 [(1, .sl (tours_2.map A_band_tour) none), (2, .ptr 0 0), (4, .ptr 1 0), (5, .ms 2 k_3 1), (6, i6 y_8), (7, .ptr 3 0), (13, .sl (tours_2.map A_band_tour) none), (14, i6 ((tours_2.length : Nat) : Int)), (15, i6 y_8), (22, .sl (l_15.map A_band_tour) none), (23, i6 ((l_15.length : Nat) : Int)), (24, i6 y_20)] ∧ S = ⟨[(C_City c_1), [.nils, .nils, .nils, i6 0, i6 0, .nils, .nils, .nils], (flat (w_26.map (AV.int .u64))), (C_band_tour x_14)], []⟩) ?_ ?_
       ·refine Ex.seq ?_
        obtain ⟨x_30, hx_30, h⟩ := bE h
        refine regH 6 [(1, .rop (C_band_tour x_30))] [1, 2, 4, 5, 6, 7, 8, 9, 13, 14, 15, 22, 23, 24] [LGet (l_15.map A_band_tour) y_20 7 (C_band_tour x_30)] (mkS 50 [(1, .sl (tours_2.map A_band_tour) none), (2, .ptr 0 0), (4, .ptr 1 0), (5, .ms 2 k_3 1), (6, i6 y_8), (7, .ptr 3 0), (8, i6 y_20), (9, .ptr 4 0), (13, .sl (tours_2.map A_band_tour) none), (14, i6 ((tours_2.length : Nat) : Int)), (15, i6 y_8), (22, .sl (l_15.map A_band_tour) none), (23, i6 ((l_15.length : Nat) : Int)), (24, i6 y_20)]) (⟨[(C_City c_1), [.nils, .nils, .nils, i6 0, i6 0, .nils, .nils, .nils], (flat (w_21.map (AV.int .u64))), (C_band_tour x_14), (C_band_tour x_30)], []⟩) (by kernel_rfl) ⟨LGet.of hx_30 rfl, trivial⟩ rfl ?_
        refine Ex.seq ?_
        obtain ⟨r_31, hr_31, h⟩ := bE h
        refine Ex.reg (rn 4 [1, 2, 4, 5, 6, 7, 8, 13, 14, 15, 22, 23, 24, 29, 30, 32] (mkS 50 [(1, .sl (tours_2.map A_band_tour) none), (2, .ptr 0 0), (4, .ptr 1 0), (5, .ms 2 k_3 1), (6, i6 y_8), (7, .ptr 3 0), (8, i6 y_20), (13, .sl (tours_2.map A_band_tour) none), (14, i6 ((tours_2.length : Nat) : Int)), (15, i6 y_8), (22, .sl (l_15.map A_band_tour) none), (23, i6 ((l_15.length : Nat) : Int)), (24, i6 y_20), (29, (A_band_tour x_14)), (30, (A_band_tour x_30)), (32, i6 c_1.Break)]) ⟨[(C_City c_1), [.nils, .nils, .nils, i6 0, i6 0, .nils, .nils, .nils], (flat (w_21.map (AV.int .u64))), (C_band_tour x_14), (C_band_tour x_30)], []⟩ ?_)
        refine ExO.callL [] [(A_band_tour x_14), (A_band_tour x_30), i6 c_1.Break] rfl rfl (a_band_verdict x_14 x_30 c_1.Break) rfl rfl (d_band_verdict N x_14 x_30 c_1.Break r_31 hr_31) (b_band_verdict _ _ _ _) rfl ?_
        refine rn 1 [1, 2, 4, 5, 6, 7, 8, 13, 14, 15, 22, 23, 24, 34] (mkS 50 [(1, .sl (tours_2.map A_band_tour) none), (2, .ptr 0 0), (4, .ptr 1 0), (5, .ms 2 k_3 1), (6, i6 y_8), (7, .ptr 3 0), (8, i6 y_20), (13, .sl (tours_2.map A_band_tour) none), (14, i6 ((tours_2.length : Nat) : Int)), (15, i6 y_8), (22, .sl (l_15.map A_band_tour) none), (23, i6 ((l_15.length : Nat) : Int)), (24, i6 y_20), (34, .bool (r_31 != 2))]) ⟨[(C_City c_1), [.nils, .nils, .nils, i6 0, i6 0, .nils, .nils, .nils], (flat (w_21.map (AV.int .u64))), (C_band_tour x_14), (C_band_tour x_30)], []⟩ ?_
        refine ExO.nil ?_
        rcases condI h with ⟨hc_32, h⟩ | ⟨hc_32, h⟩
        ·refine Ex.condT _ rfl hc_32 ?_
         obtain ⟨u_33, hu_33, h⟩ := bE h
         obtain ⟨x_34, hx_34, h⟩ := bE h
         obtain ⟨r_35, hr_35, h⟩ := bE h
         refine Ex.reg ?_
         refine runH 7 [(4, .adm), (5, .ld (.int .u64 x_34))] [1, 2, 4, 5, 6, 7, 13, 14, 15, 22, 23, 24, 35, 36, 40, 41] [0 ≤ y_8 ∧ y_8 < ((k_3 : Nat) : Int), takeCells (flat (w_21.map (AV.int .u64))) (0 + Int.toNat y_8 * 1) none = some (.int .u64 x_34)] (mkS 50 [(1, .sl (tours_2.map A_band_tour) none), (2, .ptr 0 0), (4, .ptr 1 0), (5, .ms 2 k_3 1), (6, i6 y_8), (7, .ptr 3 0), (13, .sl (tours_2.map A_band_tour) none), (14, i6 ((tours_2.length : Nat) : Int)), (15, i6 y_8), (22, .sl (l_15.map A_band_tour) none), (23, i6 ((l_15.length : Nat) : Int)), (24, i6 y_20), (35, .ms 2 k_3 1), (36, i6 y_8), (40, .int .u64 x_34), (41, i6 y_20)]) (⟨[(C_City c_1), [.nils, .nils, .nils, i6 0, i6 0, .nils, .nils, .nils], (flat (w_21.map (AV.int .u64))), (C_band_tour x_14), (C_band_tour x_30)], []⟩) (by kernel_rfl) ⟨idxI.of hu_33, ldFl (f := (AV.int .u64)) (s := 1) w_21 _ 0 y_8 x_34 (.int .u64 x_34) (fun _ => rfl) hx_34 rfl (by omega), trivial⟩ ?_
         refine ExO.callL [] [.int .u64 x_34, i6 y_20] rfl rfl (a_band_choice_with x_34 y_20) rfl rfl (d_band_choice_with N x_34 y_20 r_35 hr_35) (b_band_choice_with _ _ _ _) rfl ?_
         obtain ⟨u_36, hu_36, h⟩ := bE h
         obtain ⟨z_38, hz_38, h⟩ := bE h
         refine runH 2 [(0, .adm), (1, .st (flat (z_38.map (AV.int .u64))))] [1, 2, 4, 5, 6, 7, 13, 14, 15, 22, 23, 24] [0 ≤ y_8 ∧ y_8 < ((k_3 : Nat) : Int), 0 + Int.toNat y_8 * 1 + 1 ≤ ((flat (w_21.map (AV.int .u64)))).length ∧ layAt (flat (w_21.map (AV.int .u64))) (0 + Int.toNat y_8 * 1) [.int .u64 r_35] = (flat (z_38.map (AV.int .u64)))] (mkS 50 [(1, .sl (tours_2.map A_band_tour) none), (2, .ptr 0 0), (4, .ptr 1 0), (5, .ms 2 k_3 1), (6, i6 y_8), (7, .ptr 3 0), (13, .sl (tours_2.map A_band_tour) none), (14, i6 ((tours_2.length : Nat) : Int)), (15, i6 y_8), (22, .sl (l_15.map A_band_tour) none), (23, i6 ((l_15.length : Nat) : Int)), (24, i6 y_20)]) (⟨[(C_City c_1), [.nils, .nils, .nils, i6 0, i6 0, .nils, .nils, .nils], (flat (z_38.map (AV.int .u64))), (C_band_tour x_14), (C_band_tour x_30)], []⟩) (by kernel_rfl) ⟨idxI.of hu_36, stFl (f := (AV.int .u64)) (s := 1) _ 0 1 y_8 (fun (y_37 : Int) => r_35) _ (fun _ => rfl) hz_38 rfl (by decide) (by omega) (fun _ => rfl), trivial⟩ ?_
         refine ExO.nil ?_
         (try simp only [reduceCtorEq, AEx.ex.injEq, Nat.reduceEqDiff, if_true, if_false])
         exact ⟨_, _, forgetA (m := 50) 4 [] [(1, .sl (tours_2.map A_band_tour) none), (2, .ptr 0 0), (4, .ptr 1 0), (5, .ms 2 k_3 1), (6, i6 y_8), (7, .ptr 3 0), (13, .sl (tours_2.map A_band_tour) none), (14, i6 ((tours_2.length : Nat) : Int)), (15, i6 y_8), (22, .sl (l_15.map A_band_tour) none), (23, i6 ((l_15.length : Nat) : Int)), (24, i6 y_20)] [(C_City c_1), [.nils, .nils, .nils, i6 0, i6 0, .nils, .nils, .nils], (flat (z_38.map (AV.int .u64))), (C_band_tour x_14)] [] (by simp [setAll]) (by simp) ⟨(reN (KL_band_tour _)), rfl, rfl, rfl, rfl, rfl, (reN (KL_band_tour _)), rfl, rfl, (reN (KL_band_tour _)), rfl, rfl, trivial⟩ (mapMC (show List.mapM (re 4 []) (C_City c_1) = some (C_City c_1) by simp) (mapMC (show List.mapM (re 4 []) [.nils, .nils, .nils, i6 0, i6 0, .nils, .nils, .nils] = some [.nils, .nils, .nils, i6 0, i6 0, .nils, .nils, .nils] by simp) (mapMC (flat_re (f := (AV.int .u64)) (fun _ => rfl) _ _ _) (mapMC (show List.mapM (re 4 []) (C_band_tour x_14) = some (C_band_tour x_14) by simp) rfl)))) rfl (by decide), z_38, h, rfl, rfl⟩
        ·refine Ex.condF _ rfl hc_32 ?_
         refine Ex.skip ?_
         (try simp only [reduceCtorEq, AEx.ex.injEq, Nat.reduceEqDiff, if_true, if_false])
         exact ⟨_, _, forgetA (m := 50) 4 [] [(1, .sl (tours_2.map A_band_tour) none), (2, .ptr 0 0), (4, .ptr 1 0), (5, .ms 2 k_3 1), (6, i6 y_8), (7, .ptr 3 0), (13, .sl (tours_2.map A_band_tour) none), (14, i6 ((tours_2.length : Nat) : Int)), (15, i6 y_8), (22, .sl (l_15.map A_band_tour) none), (23, i6 ((l_15.length : Nat) : Int)), (24, i6 y_20)] [(C_City c_1), [.nils, .nils, .nils, i6 0, i6 0, .nils, .nils, .nils], (flat (w_21.map (AV.int .u64))), (C_band_tour x_14)] [] (by simp [setAll]) (by simp) ⟨(reN (KL_band_tour _)), rfl, rfl, rfl, rfl, rfl, (reN (KL_band_tour _)), rfl, rfl, (reN (KL_band_tour _)), rfl, rfl, trivial⟩ (mapMC (show List.mapM (re 4 []) (C_City c_1) = some (C_City c_1) by simp) (mapMC (show List.mapM (re 4 []) [.nils, .nils, .nils, i6 0, i6 0, .nils, .nils, .nils] = some [.nils, .nils, .nils, i6 0, i6 0, .nils, .nils, .nils] by simp) (mapMC (flat_re (f := (AV.int .u64)) (fun _ => rfl) _ _ _) (mapMC (show List.mapM (re 4 []) (C_band_tour x_14) = some (C_band_tour x_14) by simp) rfl)))) rfl (by decide), w_21, h, rfl, rfl⟩
       ·rintro a S ⟨w_26, h, rfl, rfl⟩
        subst hK_29
        refine rg 2 [1, 2, 4, 5, 6, 7, 13, 14, 15, 22, 23, 24] (mkS 50 [(1, .sl (tours_2.map A_band_tour) none), (2, .ptr 0 0), (4, .ptr 1 0), (5, .ms 2 k_3 1), (6, i6 y_8), (7, .ptr 3 0), (13, .sl (tours_2.map A_band_tour) none), (14, i6 ((tours_2.length : Nat) : Int)), (15, i6 y_8), (22, .sl (l_15.map A_band_tour) none), (23, i6 ((l_15.length : Nat) : Int)), (24, i6 (IntKind.i64.wrap (y_20 + 1)))]) ⟨[(C_City c_1), [.nils, .nils, .nils, i6 0, i6 0, .nils, .nils, .nils], (flat (w_26.map (AV.int .u64))), (C_band_tour x_14)], []⟩ ?_
        dsimp only
        exact ⟨_, _, Forgets.refl _ _ _, k, Nat.lt_succ_self k, (IntKind.i64.wrap (y_20 + 1)), w_26, h, rfl, rfl⟩
      ·refine Ex.condF _ rfl hc_25 ?_
       refine Ex.exit ?_
       (try simp only [reduceCtorEq, AEx.ex.injEq, Nat.reduceEqDiff, if_true, if_false])
       exact ⟨_, _, forgetA (m := 50) 3 [] [(1, .sl (tours_2.map A_band_tour) none), (2, .ptr 0 0), (4, .ptr 1 0), (5, .ms 2 k_3 1), (13, .sl (tours_2.map A_band_tour) none), (14, i6 ((tours_2.length : Nat) : Int)), (15, i6 y_8)] [(C_City c_1), [.nils, .nils, .nils, i6 0, i6 0, .nils, .nils, .nils], (flat (w_21.map (AV.int .u64)))] [] (by simp [setAll]) (by simp) ⟨(reN (KL_band_tour _)), rfl, rfl, rfl, (reN (KL_band_tour _)), rfl, rfl, trivial⟩ (mapMC (show List.mapM (re 3 []) (C_City c_1) = some (C_City c_1) by simp) (mapMC (show List.mapM (re 3 []) [.nils, .nils, .nils, i6 0, i6 0, .nils, .nils, .nils] = some [.nils, .nils, .nils, i6 0, i6 0, .nils, .nils, .nils] by simp) (mapMC (flat_re (f := (AV.int .u64)) (fun _ => rfl) _ _ _) rfl))) rfl (by decide), w_21, h, rfl, rfl⟩
    ·rintro a S ⟨w_16, h, rfl, rfl⟩
     subst hK_19
     refine rg 2 [1, 2, 4, 5, 13, 14, 15] (mkS 50 [(1, .sl (tours_2.map A_band_tour) none), (2, .ptr 0 0), (4, .ptr 1 0), (5, .ms 2 k_3 1), (13, .sl (tours_2.map A_band_tour) none), (14, i6 ((tours_2.length : Nat) : Int)), (15, i6 (IntKind.i64.wrap (y_8 + 1)))]) ⟨[(C_City c_1), [.nils, .nils, .nils, i6 0, i6 0, .nils, .nils, .nils], (flat (w_16.map (AV.int .u64)))], []⟩ ?_
     dsimp only
     exact ⟨_, _, Forgets.refl _ _ _, k, Nat.lt_succ_self k, (IntKind.i64.wrap (y_8 + 1)), w_16, h, rfl, rfl⟩
   ·refine Ex.condF _ rfl hc_13 ?_
    refine Ex.exit ?_
    (try simp only [reduceCtorEq, AEx.ex.injEq, Nat.reduceEqDiff, if_true, if_false])
    exact ⟨_, _, forgetK [1, 2, 4, 5], w_9, h, rfl, rfl⟩
 ·rintro a S ⟨w_4, h, rfl, rfl⟩
  subst hK_7
  refine Ex.seq (rg 5 [4] (mkS 50 [(4, .ptr 1 0)]) ⟨[(C_City c_1), [.sl (c_1.Town.Rooms.map (AV.int .i64)) none, .sl (c_1.Town.Streets.map A_Street) none, .sl (c_1.Town.Groups.map A_Group) none, i6 c_1.Town.Steps, i6 c_1.Break, .sl (c_1.Sleep.map (AV.int .i64)) none, .sl (tours_2.map A_band_tour) none, .ms 2 k_3 1], (flat (w_4.map (AV.int .u64)))], []⟩ ?_)
  obtain ⟨u_39, hu_39, h⟩ := bE h
  refine Ex.forget (chillX (f := (AV.int .u64)) 2 1 7 k_3 1 w_4 [.sl (c_1.Town.Rooms.map (AV.int .i64)) none, .sl (c_1.Town.Streets.map A_Street) none, .sl (c_1.Town.Groups.map A_Group) none, i6 c_1.Town.Steps, i6 c_1.Break, .sl (c_1.Sleep.map (AV.int .i64)) none, .sl (tours_2.map A_band_tour) none, .ms 2 k_3 1] hu_39 rfl (fun _ => rfl) rfl (by decide) rfl) ?_
  refine Ex.castA (a2 := mkS 50 [(4, .ptr 1 0)]) (S2 := ⟨[(C_City c_1), [.sl (c_1.Town.Rooms.map (AV.int .i64)) none, .sl (c_1.Town.Streets.map A_Street) none, .sl (c_1.Town.Groups.map A_Group) none, i6 c_1.Town.Steps, i6 c_1.Break, .sl (c_1.Sleep.map (AV.int .i64)) none, .sl (tours_2.map A_band_tour) none, .sl (w_4.map (AV.int .u64)) none], []], []⟩) (by kernel_rfl) (by kernel_rfl) ?_
  refine Ex.ret ?_
  obtain rfl := sJ h
  exact rt (.agg [.sl (c_1.Town.Rooms.map (AV.int .i64)) none, .sl (c_1.Town.Streets.map A_Street) none, .sl (c_1.Town.Groups.map A_Group) none, i6 c_1.Town.Steps, i6 c_1.Break, .sl (c_1.Sleep.map (AV.int .i64)) none, .sl (tours_2.map A_band_tour) none, .sl (w_4.map (AV.int .u64)) none])
structure T_band_request where
 requests_ : T_band_requests
 band_ : Int
 granted_ : Int
 deriving Inhabited
def C_band_request (x : T_band_request) : List AV := [.sl (x.requests_.city_.Town.Rooms.map (AV.int .i64)) none, .sl (x.requests_.city_.Town.Streets.map A_Street) none, .sl (x.requests_.city_.Town.Groups.map A_Group) none, i6 x.requests_.city_.Town.Steps, i6 x.requests_.city_.Break, .sl (x.requests_.city_.Sleep.map (AV.int .i64)) none, .sl (x.requests_.tours_.map A_band_tour) none, .sl (x.requests_.crosses_.map (AV.int .u64)) none, i6 x.band_, .int .u64 x.granted_]
attribute [local simp] C_band_request
def A_band_request (x : T_band_request) : AV := .agg (C_band_request x)
attribute [local simp] A_band_request
theorem KC_band_request (x : T_band_request) : cleanL (C_band_request x) = true := by simp
theorem KA_band_request (x : T_band_request) : (A_band_request x).clean = true := KC_band_request x
theorem KL_band_request (l : List T_band_request) : cleanL (l.map A_band_request) = true := cleanM KA_band_request l
attribute [local simp] KL_band_request
theorem KB_band_request (x : T_band_request) (n : Nat) (σ : List Nat) : (C_band_request x).mapM (re n σ) = some (C_band_request x) := by simp
attribute [local simp] KB_band_request
def p_band_request_clash (N : Nat) (q_1 : T_band_request) : Option (Int) := ((getI q_1.requests_.crosses_ q_1.band_).bind fun x_2 => ((some (IntKind.u64.wrap (((BitVec.ofInt (IntKind.bits .u64) x_2 &&& BitVec.ofInt (IntKind.bits .u64) q_1.granted_).toNat : Nat) : Int))).bind fun n_3 => (bif (n_3 != 0) then some 10 else some 0)))
def v_band_request_clash (r : Int) : AV := i6 r
attribute [local simp] v_band_request_clash
theorem a_band_request_clash (q_1 : T_band_request) : [(A_band_request q_1)].mapM (ren []) = some [(A_band_request q_1)] := by simp
theorem b_band_request_clash (r : Int) (n n2 m : Nat) : back n n2 m (v_band_request_clash r) = some (v_band_request_clash r) := by simp
theorem d_band_request_clash (N : Nat) (q_1 : T_band_request) (r : Int) (h : p_band_request_clash N q_1 = some r) : Does Tryd.prog 99 [(A_band_request q_1)] [] fun v c => v = v_band_request_clash r ∧ c = [] := by
 unfold p_band_request_clash at h
 refine Does.ofL comp99 _ _ rfl rfl ?_
 refine Ex.seq (rg 2 [1] (mkS 14 [(1, .ptr 0 0)]) ⟨[(C_band_request q_1)], []⟩ ?_)
 refine Ex.seq (Ex.seq ?_)
 obtain ⟨x_2, hx_2, h⟩ := bE h
 refine Ex.drawE (a1 := mkS 14 [(1, .ptr 0 0), (3, .ptr 0 0), (4, .ptr 0 7), (5, .sl (q_1.requests_.crosses_.map (AV.int .u64)) none), (6, .ptr 0 8), (7, i6 q_1.band_), (8, .rop [.int .u64 x_2]), (9, .int .u64 x_2), (10, .ptr 0 9), (11, .int .u64 q_1.granted_)]) (noClr_ok _) [] [] [] ?_ ?_
 ·refine drS [0] 9 [(5, .rop [.int .u64 x_2])] [LGet (q_1.requests_.crosses_.map (AV.int .u64)) q_1.band_ 1 [.int .u64 x_2]] (mkS 14 [(1, .ptr 0 0), (3, .ptr 0 0), (4, .ptr 0 7), (5, .sl (q_1.requests_.crosses_.map (AV.int .u64)) none), (6, .ptr 0 8), (7, i6 q_1.band_), (8, .rop [.int .u64 x_2]), (9, .int .u64 x_2), (10, .ptr 0 9), (11, .int .u64 q_1.granted_)]) (by simp) (by kernel_rfl) ⟨LGet.of hx_2 rfl, trivial⟩ (by kernel_rfl) ?_
  exact DrO.nil rfl
 ·dsimp only [List.getLastD_cons, List.getLastD_nil]
  obtain ⟨n_3, hn_3, h⟩ := bE h
  refine runH 2 [(0, .eq (.int .u64 n_3))] [13] [AV.int .u64 (IntKind.u64.wrap (((BitVec.ofInt (IntKind.bits .u64) x_2 &&& BitVec.ofInt (IntKind.bits .u64) q_1.granted_).toNat : Nat) : Int)) = AV.int .u64 n_3] (mkS 14 [(13, .bool (n_3 != 0))]) (⟨[(C_band_request q_1)], []⟩) (by kernel_rfl) ⟨congrArg (AV.int .u64) (Option.some.inj hn_3), trivial⟩ ?_
  refine ExO.nil ?_
  rcases condI h with ⟨hc_4, h⟩ | ⟨hc_4, h⟩
  ·refine Ex.condT _ rfl hc_4 ?_
   refine Ex.seq (rg 1 [2] (mkS 14 [(2, i6 10)]) ⟨[(C_band_request q_1)], []⟩ ?_)
   refine Ex.ret ?_
   obtain rfl := sJ h
   exact rt (i6 10)
  ·refine Ex.condF _ rfl hc_4 ?_
   refine Ex.skip ?_
   refine Ex.seq (rg 1 [2] (mkS 14 [(2, i6 0)]) ⟨[(C_band_request q_1)], []⟩ ?_)
   refine Ex.ret ?_
   obtain rfl := sJ h
   exact rt (i6 0)
def p_band_request_throng (N : Nat) (q_1 : T_band_request) : Option (Int) := ((getI q_1.requests_.tours_ q_1.band_).bind fun x_2 => (letJ (fun (_ : Unit) => some 0) (fun k_3 => (loop1 (fun rec_7 (y_6 : Int) => (bif (decide (y_6 < ((x_2.squares_.length : Nat) : Int))) then ((getI x_2.squares_ y_6).bind fun x_11 => ((getI q_1.requests_.city_.Town.Rooms x_11).bind fun x_12 => (bif (decide (x_2.Band.People > x_12)) then some 13 else (rec_7 (IntKind.i64.wrap (y_6 + 1)))))) else (k_3 ()))) N 0))))
def v_band_request_throng (r : Int) : AV := i6 r
attribute [local simp] v_band_request_throng
theorem a_band_request_throng (q_1 : T_band_request) : [(A_band_request q_1)].mapM (ren []) = some [(A_band_request q_1)] := by simp
theorem b_band_request_throng (r : Int) (n n2 m : Nat) : back n n2 m (v_band_request_throng r) = some (v_band_request_throng r) := by simp
theorem d_band_request_throng (N : Nat) (q_1 : T_band_request) (r : Int) (h : p_band_request_throng N q_1 = some r) : Does Tryd.prog 100 [(A_band_request q_1)] [] fun v c => v = v_band_request_throng r ∧ c = [] := by
 unfold p_band_request_throng at h
 refine Does.ofL comp100 _ _ rfl rfl ?_
 refine Ex.seq (rg 2 [1] (mkS 33 [(1, .ptr 0 0)]) ⟨[(C_band_request q_1)], []⟩ ?_)
 refine Ex.seq ?_
 obtain ⟨x_2, hx_2, h⟩ := bE h
 refine regH 9 [(5, .rop (C_band_tour x_2))] [1, 3] [LGet (q_1.requests_.tours_.map A_band_tour) q_1.band_ 7 (C_band_tour x_2)] (mkS 33 [(1, .ptr 0 0), (3, .ptr 1 0)]) (⟨[(C_band_request q_1), (C_band_tour x_2)], []⟩) (by kernel_rfl) ⟨LGet.of hx_2 rfl, trivial⟩ rfl ?_
 refine Ex.seq (Ex.seq ?_)
 refine regH 4 [(2, .eq (i6 ((x_2.squares_.length : Nat) : Int)))] [1, 3, 14, 15, 16] [AV.int .i64 (((x_2.squares_.map (AV.int .i64)).length : Nat) : Int) = AV.int .i64 ((x_2.squares_.length : Nat) : Int)] (mkS 33 [(1, .ptr 0 0), (3, .ptr 1 0), (14, .sl (x_2.squares_.map (AV.int .i64)) none), (15, i6 ((x_2.squares_.length : Nat) : Int)), (16, i6 0)]) (⟨[(C_band_request q_1), (C_band_tour x_2)], []⟩) (by kernel_rfl) ⟨lenM _ _, trivial⟩ rfl ?_
 obtain ⟨K_4, hK_5, h⟩ := letE h
 refine Ex.blockJ (fun a S => K_4 () = some r ∧ a = mkS 33 [] ∧ S = ⟨[], []⟩) ?_ ?_
 ·obtain ⟨B_8, hB_9, h⟩ := loop1I h
  refine Ex.loopF (fun k a S => ∃ (y_6 : Int), loop1 B_8 k y_6 = some r ∧ a = mkS 33 [(1, .ptr 0 0), (3, .ptr 1 0), (14, .sl (x_2.squares_.map (AV.int .i64)) none), (15, i6 ((x_2.squares_.length : Nat) : Int)), (16, i6 y_6)] ∧ S = ⟨[(C_band_request q_1), (C_band_tour x_2)], []⟩) N ⟨_, _, Forgets.refl _ _ _, 0, h, rfl, rfl⟩ ?_
  rintro k a S ⟨y_6, h, rfl, rfl⟩
  cases k with
  | zero => exact (loop1Z h).elim
  | succ k =>
   replace h := loop1S h hB_9
   refine Ex.seq (rg 1 [1, 3, 14, 15, 16, 17] (mkS 33 [(1, .ptr 0 0), (3, .ptr 1 0), (14, .sl (x_2.squares_.map (AV.int .i64)) none), (15, i6 ((x_2.squares_.length : Nat) : Int)), (16, i6 y_6), (17, .bool (decide (y_6 < ((x_2.squares_.length : Nat) : Int))))]) ⟨[(C_band_request q_1), (C_band_tour x_2)], []⟩ ?_)
   refine Ex.seq ?_
   rcases condI h with ⟨hc_10, h⟩ | ⟨hc_10, h⟩
   ·refine Ex.condT _ rfl hc_10 ?_
    refine Ex.skip ?_
    refine Ex.seq ?_
    refine Ex.blockK ?_
    refine Ex.seq ?_
    obtain ⟨x_11, hx_11, h⟩ := bE h
    refine regH 3 [(0, .rop [i6 x_11])] [1, 3, 5, 14, 15, 16] [LGet (x_2.squares_.map (AV.int .i64)) y_6 1 [i6 x_11]] (mkS 33 [(1, .ptr 0 0), (3, .ptr 1 0), (5, i6 x_11), (14, .sl (x_2.squares_.map (AV.int .i64)) none), (15, i6 ((x_2.squares_.length : Nat) : Int)), (16, i6 y_6)]) (⟨[(C_band_request q_1), (C_band_tour x_2)], []⟩) (by kernel_rfl) ⟨LGet.of hx_11 rfl, trivial⟩ rfl ?_
    refine Ex.seq ?_
    obtain ⟨x_12, hx_12, h⟩ := bE h
    refine Ex.drawE (a1 := mkS 33 [(1, .ptr 0 0), (3, .ptr 1 0), (5, i6 x_11), (14, .sl (x_2.squares_.map (AV.int .i64)) none), (15, i6 ((x_2.squares_.length : Nat) : Int)), (16, i6 y_6), (20, .ptr 1 0), (21, .ptr 1 5), (22, i6 x_2.Band.People), (23, .ptr 0 0), (24, .ptr 0 0), (25, .ptr 0 0), (26, .ptr 0 0), (27, .sl (q_1.requests_.city_.Town.Rooms.map (AV.int .i64)) none), (28, i6 x_11), (29, .rop [i6 x_12]), (30, i6 x_12)]) (noClr_ok _) [] [] [] ?_ ?_
    ·refine drS [0, 1] 11 [(9, .rop [i6 x_12])] [LGet (q_1.requests_.city_.Town.Rooms.map (AV.int .i64)) x_11 1 [i6 x_12]] (mkS 33 [(1, .ptr 0 0), (3, .ptr 1 0), (5, i6 x_11), (14, .sl (x_2.squares_.map (AV.int .i64)) none), (15, i6 ((x_2.squares_.length : Nat) : Int)), (16, i6 y_6), (20, .ptr 1 0), (21, .ptr 1 5), (22, i6 x_2.Band.People), (23, .ptr 0 0), (24, .ptr 0 0), (25, .ptr 0 0), (26, .ptr 0 0), (27, .sl (q_1.requests_.city_.Town.Rooms.map (AV.int .i64)) none), (28, i6 x_11), (29, .rop [i6 x_12]), (30, i6 x_12)]) (by simp) (by kernel_rfl) ⟨LGet.of hx_12 rfl, trivial⟩ (by kernel_rfl) ?_
     exact DrO.nil rfl
    ·dsimp only [List.getLastD_cons, List.getLastD_nil]
     refine rn 1 [1, 3, 14, 15, 16, 31] (mkS 33 [(1, .ptr 0 0), (3, .ptr 1 0), (14, .sl (x_2.squares_.map (AV.int .i64)) none), (15, i6 ((x_2.squares_.length : Nat) : Int)), (16, i6 y_6), (31, .bool (decide (x_2.Band.People > x_12)))]) ⟨[(C_band_request q_1), (C_band_tour x_2)], []⟩ ?_
     refine ExO.nil ?_
     rcases condI h with ⟨hc_13, h⟩ | ⟨hc_13, h⟩
     ·refine Ex.condT _ rfl hc_13 ?_
      refine Ex.seq (rg 1 [2] (mkS 33 [(2, i6 13)]) ⟨[(C_band_request q_1), (C_band_tour x_2)], []⟩ ?_)
      refine Ex.ret ?_
      obtain rfl := sJ h
      exact rt (i6 13)
     ·refine Ex.condF _ rfl hc_13 ?_
      refine Ex.skip ?_
      refine rg 2 [1, 3, 14, 15, 16] (mkS 33 [(1, .ptr 0 0), (3, .ptr 1 0), (14, .sl (x_2.squares_.map (AV.int .i64)) none), (15, i6 ((x_2.squares_.length : Nat) : Int)), (16, i6 (IntKind.i64.wrap (y_6 + 1)))]) ⟨[(C_band_request q_1), (C_band_tour x_2)], []⟩ ?_
      dsimp only
      exact ⟨_, _, Forgets.refl _ _ _, k, Nat.lt_succ_self k, (IntKind.i64.wrap (y_6 + 1)), h, rfl, rfl⟩
   ·refine Ex.condF _ rfl hc_10 ?_
    refine Ex.exit ?_
    (try simp only [reduceCtorEq, AEx.ex.injEq, Nat.reduceEqDiff, if_true, if_false])
    exact ⟨_, _, forgetA (m := 33) 0 [] [] [] [] (by simp [setAll]) (by simp) trivial (by simp) rfl (by decide), h, rfl, rfl⟩
 ·rintro a S ⟨h, rfl, rfl⟩
  subst hK_5
  refine Ex.seq (rg 1 [2] (mkS 33 [(2, i6 0)]) ⟨[], []⟩ ?_)
  refine Ex.ret ?_
  obtain rfl := sJ h
  exact rt (i6 0)
def v_math_bits_TrailingZeros32 (r : Int) : AV := i6 r
attribute [local simp] v_math_bits_TrailingZeros32
def p_math_bits_TrailingZeros64 (N : Nat) (x_1 : Int) : Option (Int) := (bif (x_1 == 0) then some 64 else ((some (IntKind.u64.wrap (((BitVec.ofInt (IntKind.bits .u64) x_1 &&& BitVec.ofInt (IntKind.bits .u64) (IntKind.u64.wrap (0 - x_1))).toNat : Nat) : Int))).bind fun n_3 => ((some (Int.fdiv (IntKind.u64.wrap (n_3 * 285870213051353865)) ((2 : Int) ^ (min (Int.toNat 58) (IntKind.bits .u64))))).bind fun n_4 => ((idxI n_4 64).bind fun u_5 => ((([0, 1, 56, 2, 57, 49, 28, 3, 61, 58, 42, 50, 38, 29, 17, 4, 62, 47, 59, 36, 45, 43, 51, 22, 53, 39, 33, 30, 24, 18, 12, 5, 63, 55, 48, 27, 60, 41, 37, 16, 46, 35, 44, 21, 52, 32, 23, 11, 54, 26, 40, 15, 34, 20, 31, 10, 25, 14, 19, 9, 13, 8, 7, 6] : List Int)[Int.toNat n_4]?).bind fun x_6 => some (IntKind.i64.wrap x_6))))))
def v_math_bits_TrailingZeros64 (r : Int) : AV := i6 r
attribute [local simp] v_math_bits_TrailingZeros64
theorem a_math_bits_TrailingZeros64 (x_1 : Int) : [.int .u64 x_1].mapM (ren []) = some [.int .u64 x_1] := by simp
theorem b_math_bits_TrailingZeros64 (r : Int) (n n2 m : Nat) : back n n2 m (v_math_bits_TrailingZeros64 r) = some (v_math_bits_TrailingZeros64 r) := by simp
theorem d_math_bits_TrailingZeros64 (N : Nat) (x_1 : Int) (r : Int) (h : p_math_bits_TrailingZeros64 N x_1 = some r) : Does Tryd.prog 120 [.int .u64 x_1] [] fun v c => v = v_math_bits_TrailingZeros64 r ∧ c = [] := by
 unfold p_math_bits_TrailingZeros64 at h
 refine Does.ofL comp120 _ _ rfl rfl ?_
 refine Ex.seq (rg 1 [0] (mkS 14 [(0, .int .u64 x_1)]) ⟨[], []⟩ ?_)
 refine Ex.seq (Ex.seq ?_)
 refine rg 2 [0, 4] (mkS 14 [(0, .int .u64 x_1), (4, .bool (x_1 == 0))]) ⟨[], []⟩ ?_
 rcases condI h with ⟨hc_2, h⟩ | ⟨hc_2, h⟩
 ·refine Ex.condT _ rfl hc_2 ?_
  refine Ex.seq (rg 1 [2] (mkS 14 [(2, i6 64)]) ⟨[], []⟩ ?_)
  refine Ex.ret ?_
  obtain rfl := sJ h
  exact rt (i6 64)
 ·refine Ex.condF _ rfl hc_2 ?_
  refine Ex.skip ?_
  refine Ex.seq ?_
  obtain ⟨n_3, hn_3, h⟩ := bE h
  obtain ⟨n_4, hn_4, h⟩ := bE h
  obtain ⟨u_5, hu_5, h⟩ := bE h
  obtain ⟨x_6, hx_6, h⟩ := bE h
  refine regH 10 [(3, .eq (.int .u64 n_3)), (5, .eq (.int .u64 n_4)), (6, .adr), (7, .ld (.int .u8 x_6))] [2] [AV.int .u64 (IntKind.u64.wrap (((BitVec.ofInt (IntKind.bits .u64) x_1 &&& BitVec.ofInt (IntKind.bits .u64) (IntKind.u64.wrap (0 - x_1))).toNat : Nat) : Int)) = AV.int .u64 n_3, AV.int .u64 (Int.fdiv (IntKind.u64.wrap (n_3 * 285870213051353865)) ((2 : Int) ^ (min (Int.toNat 58) (IntKind.bits .u64)))) = AV.int .u64 n_4, 0 ≤ n_4 ∧ n_4 < ((64 : Nat) : Int) ∧ Int.toNat n_4 * 1 ≤ (([0, 1, 56, 2, 57, 49, 28, 3, 61, 58, 42, 50, 38, 29, 17, 4, 62, 47, 59, 36, 45, 43, 51, 22, 53, 39, 33, 30, 24, 18, 12, 5, 63, 55, 48, 27, 60, 41, 37, 16, 46, 35, 44, 21, 52, 32, 23, 11, 54, 26, 40, 15, 34, 20, 31, 10, 25, 14, 19, 9, 13, 8, 7, 6] : List Int).map (AV.int .u8)).length, takeCells ((([0, 1, 56, 2, 57, 49, 28, 3, 61, 58, 42, 50, 38, 29, 17, 4, 62, 47, 59, 36, 45, 43, 51, 22, 53, 39, 33, 30, 24, 18, 12, 5, 63, 55, 48, 27, 60, 41, 37, 16, 46, 35, 44, 21, 52, 32, 23, 11, 54, 26, 40, 15, 34, 20, 31, 10, 25, 14, 19, 9, 13, 8, 7, 6] : List Int).map (AV.int .u8)).drop (Int.toNat n_4 * 1)) 0 none = some (.int .u8 x_6)] (mkS 14 [(2, i6 (IntKind.i64.wrap x_6))]) (⟨[], []⟩) (by kernel_rfl) ⟨congrArg (AV.int .u64) (Option.some.inj hn_3), congrArg (AV.int .u64) (Option.some.inj hn_4), adrT ([0, 1, 56, 2, 57, 49, 28, 3, 61, 58, 42, 50, 38, 29, 17, 4, 62, 47, 59, 36, 45, 43, 51, 22, 53, 39, 33, 30, 24, 18, 12, 5, 63, 55, 48, 27, 60, 41, 37, 16, 46, 35, 44, 21, 52, 32, 23, 11, 54, 26, 40, 15, 34, 20, 31, 10, 25, 14, 19, 9, 13, 8, 7, 6] : List Int) .u8 hu_5 (by decide), ldTab ([0, 1, 56, 2, 57, 49, 28, 3, 61, 58, 42, 50, 38, 29, 17, 4, 62, 47, 59, 36, 45, 43, 51, 22, 53, 39, 33, 30, 24, 18, 12, 5, 63, 55, 48, 27, 60, 41, 37, 16, 46, 35, 44, 21, 52, 32, 23, 11, 54, 26, 40, 15, 34, 20, 31, 10, 25, 14, 19, 9, 13, 8, 7, 6] : List Int) .u8 hx_6, trivial⟩ rfl ?_
  refine Ex.ret ?_
  obtain rfl := sJ h
  exact rt (i6 (IntKind.i64.wrap x_6))
def p_math_bits_TrailingZeros (N : Nat) (x_1 : Int) : Option (Int) := ((p_math_bits_TrailingZeros64 N x_1).bind fun r_2 => some r_2)
def v_math_bits_TrailingZeros (r : Int) : AV := i6 r
attribute [local simp] v_math_bits_TrailingZeros
theorem a_math_bits_TrailingZeros (x_1 : Int) : [.int .u64 x_1].mapM (ren []) = some [.int .u64 x_1] := by simp
theorem b_math_bits_TrailingZeros (r : Int) (n n2 m : Nat) : back n n2 m (v_math_bits_TrailingZeros r) = some (v_math_bits_TrailingZeros r) := by simp
theorem d_math_bits_TrailingZeros (N : Nat) (x_1 : Int) (r : Int) (h : p_math_bits_TrailingZeros N x_1 = some r) : Does Tryd.prog 106 [.int .u64 x_1] [] fun v c => v = v_math_bits_TrailingZeros r ∧ c = [] := by
 unfold p_math_bits_TrailingZeros at h
 refine Does.ofL comp106 _ _ rfl rfl ?_
 refine Ex.seq (rg 1 [0] (mkS 8 [(0, .int .u64 x_1)]) ⟨[], []⟩ ?_)
 refine Ex.seq ?_
 refine Ex.cond (b := false) rfl ?_
 refine Ex.skip ?_
 refine Ex.seq ?_
 obtain ⟨r_2, hr_2, h⟩ := bE h
 refine Ex.reg (rn 1 [6] (mkS 8 [(6, .int .u64 x_1)]) ⟨[], []⟩ ?_)
 refine ExO.callL [] [.int .u64 x_1] rfl rfl (a_math_bits_TrailingZeros64 x_1) rfl rfl (d_math_bits_TrailingZeros64 N x_1 r_2 hr_2) (b_math_bits_TrailingZeros64 _ _ _ _) rfl ?_
 refine rn 1 [2] (mkS 8 [(2, i6 r_2)]) ⟨[], []⟩ ?_
 refine ExO.nil ?_
 refine Ex.ret ?_
 obtain rfl := sJ h
 exact rt (i6 r_2)
def p_band_choice_bands (N : Nat) (x_1 : Int) : Option (Int) := some x_1
def v_band_choice_bands (r : Int) : AV := .fn 105 [] [.rop [.int .u64 r]]
attribute [local simp] v_band_choice_bands
theorem a_band_choice_bands (x_1 : Int) : [.int .u64 x_1].mapM (ren []) = some [.int .u64 x_1] := by simp
theorem b_band_choice_bands (r : Int) (n n2 m : Nat) : back n n2 m (v_band_choice_bands r) = some (v_band_choice_bands r) := by simp
theorem d_band_choice_bands (N : Nat) (x_1 : Int) (r : Int) (h : p_band_choice_bands N x_1 = some r) : Does Tryd.prog 82 [.int .u64 x_1] [] fun v c => v = v_band_choice_bands r ∧ c = [] := by
 unfold p_band_choice_bands at h
 refine Does.ofL comp82 _ _ rfl rfl ?_
 refine Ex.seq (rg 2 [1] (mkS 4 [(1, .ptr 0 0)]) ⟨[[.int .u64 x_1]], []⟩ ?_)
 refine Ex.seq (rg 2 [2] (mkS 4 [(2, .fn 105 [] [.ptr 0 0])]) ⟨[[.int .u64 x_1]], []⟩ ?_)
 refine Ex.forget (forgetK [2]) ?_
 refine Ex.castA (a2 := mkS 4 [(2, .fn 105 [] [.ptr 0 0])]) (S2 := ⟨[[.int .u64 x_1]], []⟩) (by kernel_rfl) (by kernel_rfl) ?_
 obtain rfl := sJ h
 refine Ex.forget (chillP 2 0 [.int .u64 x_1] _ rfl rfl) ?_
 refine Ex.castA (a2 := mkS 4 [(2, .fn 105 [] [.rop [.int .u64 x_1]])]) (S2 := ⟨[[]], []⟩) (by kernel_rfl) (by kernel_rfl) ?_
 refine Ex.ret ?_
 exact rt (.fn 105 [] [.rop [.int .u64 x_1]])
def p_band_request_noise (N : Nat) (q_1 : T_band_request) : Option (Int) := ((p_band_choice_with N q_1.granted_ q_1.band_).bind fun r_2 => ((p_band_choice_bands N r_2).bind fun r_3 => (letJ (fun (b_11 : List T_band_tour) => (letJ (fun (_ : Unit) => some 0) (fun k_41 => (loop1 (fun rec_45 (y_44 : Int) => (bif (decide (y_44 < ((q_1.requests_.city_.Sleep.length : Nat) : Int))) then ((getI q_1.requests_.city_.Sleep y_44).bind fun x_49 => ((p_band_nightOf N b_11 y_44).bind fun r_50 => ((p_band_night_sleep N r_50).bind fun r_51 => (bif (decide (r_51.2 < x_49)) then some 11 else (rec_45 (IntKind.i64.wrap (y_44 + 1))))))) else (k_41 ()))) N 0)))) (fun k_12 => (letJ (fun (b_15 : List T_band_tour) => (k_12 b_15)) (fun k_16 => (loop2 (fun rec_21 (rest_19 : Int) (b_20 : List T_band_tour) => (bif (rest_19 != 0) then ((p_math_bits_TrailingZeros N rest_19).bind fun r_25 => (letJ (fun (b_34 : List T_band_tour) => ((some (IntKind.u64.wrap (((BitVec.ofInt (IntKind.bits .u64) rest_19 &&& BitVec.ofInt (IntKind.bits .u64) (IntKind.u64.wrap (rest_19 - 1))).toNat : Nat) : Int))).bind fun n_40 => (rec_21 n_40 b_34))) (fun k_35 => ((getI q_1.requests_.tours_ r_25).bind fun x_38 => ((pushI b_20 ([x_38] : List T_band_tour)).bind fun l_39 => (k_35 l_39)))))) else (k_16 b_20))) N r_3 [])))))))
def v_band_request_noise (r : Int) : AV := i6 r
attribute [local simp] v_band_request_noise
theorem a_band_request_noise (q_1 : T_band_request) : [(A_band_request q_1)].mapM (ren []) = some [(A_band_request q_1)] := by simp
theorem b_band_request_noise (r : Int) (n n2 m : Nat) : back n n2 m (v_band_request_noise r) = some (v_band_request_noise r) := by simp
theorem d_band_request_noise (N : Nat) (q_1 : T_band_request) (r : Int) (h : p_band_request_noise N q_1 = some r) : Does Tryd.prog 101 [(A_band_request q_1)] [] fun v c => v = v_band_request_noise r ∧ c = [] := by
 unfold p_band_request_noise at h
 refine Does.ofL comp101 _ _ rfl rfl ?_
 refine Ex.seq (rg 2 [1, 2] (mkS 46 [(1, .ptr 0 0), (2, i6 0)]) ⟨[(C_band_request q_1)], []⟩ ?_)
 refine Ex.seq (rg 1 [1, 2, 3] (mkS 46 [(1, .ptr 0 0), (2, i6 0), (3, .ptr 1 0)]) ⟨[(C_band_request q_1), [.nils]], []⟩ ?_)
 refine Ex.seq (Ex.seq ?_)
 obtain ⟨r_2, hr_2, h⟩ := bE h
 refine Ex.reg (rn 4 [1, 2, 3, 10, 12] (mkS 46 [(1, .ptr 0 0), (2, i6 0), (3, .ptr 1 0), (10, .int .u64 q_1.granted_), (12, i6 q_1.band_)]) ⟨[(C_band_request q_1), [.nils]], []⟩ ?_)
 refine ExO.callL [] [.int .u64 q_1.granted_, i6 q_1.band_] rfl rfl (a_band_choice_with q_1.granted_ q_1.band_) rfl rfl (d_band_choice_with N q_1.granted_ q_1.band_ r_2 hr_2) (b_band_choice_with _ _ _ _) rfl ?_
 obtain ⟨r_3, hr_3, h⟩ := bE h
 refine ExO.callL [] [.int .u64 r_2] rfl rfl (a_band_choice_bands r_2) rfl rfl (d_band_choice_bands N r_2 r_3 hr_3) (b_band_choice_bands _ _ _ _) rfl ?_
 refine rn 0 [1, 2, 3, 14] (mkS 46 [(1, .ptr 0 0), (2, i6 0), (3, .ptr 1 0), (14, .fn 105 [] [.rop [.int .u64 r_3]])]) ⟨[(C_band_request q_1), [.nils]], []⟩ ?_
 refine ExO.nil ?_
 refine Ex.blockK ?_
 obtain ⟨K_13, hK_14, h⟩ := letE h
 refine Ex.rangeJ (fun k S => (k = 0 ∧ ∃ (b_11 : List T_band_tour), K_13 b_11 = some r ∧ S = ⟨[(C_band_request q_1), [.sl (b_11.map A_band_tour) (some 1)]], [(0, 0), (b_11.length, 7)]⟩)) 105 [.rop [.int .u64 r_3]] _ rfl comp105 rfl (by simp [setAll]) (by exact trivial) (mkS 16 [(1, .rop [.int .u64 r_3]), (2, .tup []), (3, .tup []), (4, .tup []), (5, .tup []), (6, .tup []), (7, .tup []), (8, .tup []), (9, .tup []), (10, .tup []), (11, .tup []), (12, .tup []), (13, .tup []), (14, .tup []), (15, .tup [])]) (⟨[(C_band_request q_1), [.nils]], [(0, 0)]⟩) (fun _ => by kernel_rfl) (by kernel_rfl) ?_ ?_
 ·intro cx_5 Lp_4 hcn_6 hcm_7 hLt_8 hL_9 hup_10
  refine Ex.castA (a2 := mkS 16 [(0, .yld Lp_4.l 0), (1, .rop [.int .u64 r_3]), (2, .tup []), (3, .tup []), (4, .tup []), (5, .tup []), (6, .tup []), (7, .tup []), (8, .tup []), (9, .tup []), (10, .tup []), (11, .tup []), (12, .tup []), (13, .tup []), (14, .tup []), (15, .tup [])]) (S2 := ⟨[(C_band_request q_1), [.nils]], [(0, 0)]⟩) (by kernel_rfl) rfl ?_
  refine Ex.seq (rg 2 [0, 3] (mkS 16 [(0, .yld Lp_4.l 0), (3, .int .u64 r_3)]) ⟨[(C_band_request q_1), [.nils]], [(0, 0)]⟩ ?_)
  obtain ⟨K_17, hK_18, h⟩ := letE h
  refine Ex.blockJ (fun a S => ∃ (b_15 : List T_band_tour), K_17 b_15 = some r ∧ a = mkS 16 [] ∧ S = ⟨[(C_band_request q_1), [.sl (b_15.map A_band_tour) (some 1)]], [(0, 0), (b_15.length, 7)]⟩) ?_ ?_
  ·refine Ex.forget (nilB 1 0 7 [.nils] rfl rfl) ?_
   refine Ex.castA (a2 := mkS 16 [(0, .yld Lp_4.l 0), (3, .int .u64 r_3)]) (S2 := ⟨[(C_band_request q_1), [.sl (([] : List T_band_tour).map A_band_tour) (some 1)]], [(0, 0), (0, 7)]⟩) (by kernel_rfl) (by kernel_rfl) ?_
   obtain ⟨B_22, hB_23, h⟩ := loop2I h
   refine Ex.loopF (fun k a S => ∃ (rest_19 : Int), ∃ (b_20 : List T_band_tour), loop2 B_22 k rest_19 b_20 = some r ∧ a = mkS 16 [(0, .yld Lp_4.l 0), (3, .int .u64 rest_19)] ∧ S = ⟨[(C_band_request q_1), [.sl (b_20.map A_band_tour) (some 1)]], [(0, 0), (b_20.length, 7)]⟩) N ⟨_, _, Forgets.refl _ _ _, r_3, [], h, rfl, rfl⟩ ?_
   rintro k a S ⟨rest_19, b_20, h, rfl, rfl⟩
   cases k with
   | zero => exact (loop2Z h).elim
   | succ k =>
    replace h := loop2S h hB_23
    refine Ex.seq (Ex.seq ?_)
    refine rg 2 [0, 3, 6] (mkS 16 [(0, .yld Lp_4.l 0), (3, .int .u64 rest_19), (6, .bool (rest_19 != 0))]) ⟨[(C_band_request q_1), [.sl (b_20.map A_band_tour) (some 1)]], [(0, 0), (b_20.length, 7)]⟩ ?_
    rcases condI h with ⟨hc_24, h⟩ | ⟨hc_24, h⟩
    ·refine Ex.condT _ rfl hc_24 ?_
     refine Ex.skip ?_
     refine Ex.seq ?_
     refine Ex.blockK ?_
     refine Ex.seq ?_
     obtain ⟨r_25, hr_25, h⟩ := bE h
     refine Ex.regI ?_
     refine runI 2 [] [0, 3, 11, 12] [] (mkS 16 [(0, .yld Lp_4.l 0), (3, .int .u64 rest_19), (11, .yld Lp_4.l 0), (12, .int .u64 rest_19)]) (⟨[(C_band_request q_1), [.sl (b_20.map A_band_tour) (some 1)]], [(0, 0), (b_20.length, 7)]⟩) (by kernel_rfl) trivial ?_
     refine ExI.one ?_
     refine ExO.callL [] [.int .u64 rest_19] rfl rfl (a_math_bits_TrailingZeros rest_19) rfl rfl (d_math_bits_TrailingZeros N rest_19 r_25 hr_25) (b_math_bits_TrailingZeros _ _ _ _) rfl ?_
     refine ExO.nil ?_
     obtain ⟨K_36, hK_37, h⟩ := letE h
     refine ExI.yieldT 0 hLt_8 hL_9 [i6 r_25] rfl rfl rfl (by kernel_rfl) rfl rfl (leC hcn_6 (by simp [setAll])) ?_
     intro ca_26 cb_27 ha_28 hb_29 hma_30 hmb_31 hup_32 hbz_33
     refine Ex.castA (a2 := mkS 46 [(1, .ptr 0 0), (2, i6 0), (3, .ptr 1 0), (14, .fn 105 [] [.rop [.int .u64 r_3]]), (15, i6 r_25)]) (S2 := ⟨[(C_band_request q_1), [.sl (b_20.map A_band_tour) (some 1)]], [(0, 0), (b_20.length, 7)]⟩) (by kernel_rfl) (by kernel_rfl) ?_
     refine Ex.two (fun z S => (z = AEx.norm ∧ ∃ (b_34 : List T_band_tour), K_36 b_34 = some r ∧ S = ⟨[(C_band_request q_1), [.sl (b_34.map A_band_tour) (some 1)]], [(0, 0), (b_34.length, 7)]⟩)) ?_ ?_
     ·refine rg 1 [1, 3, 4] (mkS 46 [(1, .ptr 0 0), (3, .ptr 1 0), (4, i6 r_25)]) ⟨[(C_band_request q_1), [.sl (b_20.map A_band_tour) (some 1)]], [(0, 0), (b_20.length, 7)]⟩ ?_
      refine ⟨rfl, rfl, ?_⟩
      refine Ex.blockK ?_
      refine Ex.postF ?_
      obtain ⟨x_38, hx_38, h⟩ := bE h
      refine Ex.drawE (a1 := mkS 46 [(1, .ptr 0 0), (3, .ptr 1 0), (4, i6 r_25), (16, .sl (b_20.map A_band_tour) (some 1)), (17, .ptr 0 0), (18, .ptr 0 6), (19, .sl (q_1.requests_.tours_.map A_band_tour) none), (20, i6 r_25), (21, .rop (C_band_tour x_38)), (22, (A_band_tour x_38)), (23, .sl (([x_38] : List T_band_tour).map A_band_tour) (some 2))]) (noClr_ok _) [] [(1, 7)] [] ?_ ?_
      ·refine drS [0, 1] 7 [(5, .rop (C_band_tour x_38))] [LGet (q_1.requests_.tours_.map A_band_tour) r_25 7 (C_band_tour x_38)] (mkS 46 [(1, .ptr 0 0), (3, .ptr 1 0), (4, i6 r_25), (16, .sl (b_20.map A_band_tour) (some 1)), (17, .ptr 0 0), (18, .ptr 0 6), (19, .sl (q_1.requests_.tours_.map A_band_tour) none), (20, i6 r_25), (21, .rop (C_band_tour x_38)), (22, (A_band_tour x_38))]) (by simp) (by kernel_rfl) ⟨LGet.of hx_38 rfl, trivial⟩ (by kernel_rfl) ?_
       refine drR 2 7 (([x_38] : List T_band_tour).map A_band_tour) rfl rfl (fun _ => by kernel_rfl) (by simp) rfl rfl ?_
       exact DrO.nil rfl
      ·dsimp only [List.getLastD_cons, List.getLastD_nil]
       obtain ⟨l_39, hl_39, h⟩ := bE h
       refine runH 2 [(0, .app (l_39.map A_band_tour) l_39.length)] [] [LApp b_20.length (b_20.map A_band_tour) (([x_38] : List T_band_tour).map A_band_tour) 7 (l_39.map A_band_tour) l_39.length] (mkS 46 []) (⟨[(C_band_request q_1), [.sl (l_39.map A_band_tour) (some 1)]], [(0, 0), (l_39.length, 7), (1, 7)]⟩) (by kernel_rfl) ⟨LApp.of hl_39 (fun _ => rfl), trivial⟩ ?_
       refine ExO.nil ?_
       refine ⟨mkS 46 [], ⟨[(C_band_request q_1), [.sl (l_39.map A_band_tour) (some 1)]], [(0, 0), (l_39.length, 7), (1, 7)]⟩, Forgets.refl _ _ _, ?_⟩
       (try simp only [reduceCtorEq, AEx.ex.injEq, Nat.reduceEqDiff, if_true, if_false])
       exact ⟨_, _, forgetA (m := 46) 2 [0, 1] [] [(C_band_request q_1), [.sl (l_39.map A_band_tour) (some 1)]] [(0, 0), (l_39.length, 7)] (leC hb_29 (by simp [setAll])) (by simp) trivial (by simp) rfl (by decide) (sig0 2 hmb_31 rfl), ⟨by first | rfl | trivial, l_39, h, rfl⟩⟩
     ·rintro z a2 S (⟨rfl, b_34, h, rfl⟩)
      subst hK_37
      refine runI 1 [] [0, 3, 15] [] (mkS 16 [(0, .yld Lp_4.l 0), (3, .int .u64 rest_19), (15, .bool false)]) (⟨[(C_band_request q_1), [.sl (b_34.map A_band_tour) (some 1)]], [(0, 0), (b_34.length, 7)]⟩) (by kernel_rfl) trivial ?_
      refine ExI.nil ?_
      refine Ex.cond (b := false) rfl ?_
      refine Ex.skip ?_
      obtain ⟨n_40, hn_40, h⟩ := bE h
      refine regH 5 [(3, .eq (.int .u64 n_40))] [0, 3] [AV.int .u64 (IntKind.u64.wrap (((BitVec.ofInt (IntKind.bits .u64) rest_19 &&& BitVec.ofInt (IntKind.bits .u64) (IntKind.u64.wrap (rest_19 - 1))).toNat : Nat) : Int)) = AV.int .u64 n_40] (mkS 16 [(0, .yld Lp_4.l 0), (3, .int .u64 n_40)]) (⟨[(C_band_request q_1), [.sl (b_34.map A_band_tour) (some 1)]], [(0, 0), (b_34.length, 7)]⟩) (by kernel_rfl) ⟨congrArg (AV.int .u64) (Option.some.inj hn_40), trivial⟩ rfl ?_
      dsimp only
      exact ⟨_, _, Forgets.refl _ _ _, k, Nat.lt_succ_self k, n_40, b_34, h, rfl, rfl⟩
    ·refine Ex.condF _ rfl hc_24 ?_
     refine Ex.exit ?_
     (try simp only [reduceCtorEq, AEx.ex.injEq, Nat.reduceEqDiff, if_true, if_false])
     exact ⟨_, _, forgetK [], b_20, h, rfl, rfl⟩
  ·rintro a S ⟨b_15, h, rfl, rfl⟩
   subst hK_18
   exact ⟨_, _, Forgets.refl _ _ _, .inl rfl, 0, rfl, ⟨by first | rfl | trivial, b_15, h, rfl⟩⟩
 ·rintro k S (⟨rfl, b_11, h, rfl⟩)
  subst hK_14
  refine Ex.seq (Ex.seq ?_)
  refine regH 6 [(4, .eq (i6 ((q_1.requests_.city_.Sleep.length : Nat) : Int)))] [3, 28, 29, 30] [AV.int .i64 (((q_1.requests_.city_.Sleep.map (AV.int .i64)).length : Nat) : Int) = AV.int .i64 ((q_1.requests_.city_.Sleep.length : Nat) : Int)] (mkS 46 [(3, .ptr 1 0), (28, .sl (q_1.requests_.city_.Sleep.map (AV.int .i64)) none), (29, i6 ((q_1.requests_.city_.Sleep.length : Nat) : Int)), (30, i6 0)]) (⟨[(C_band_request q_1), [.sl (b_11.map A_band_tour) (some 1)]], [(0, 0), (b_11.length, 7)]⟩) (by kernel_rfl) ⟨lenM _ _, trivial⟩ rfl ?_
  obtain ⟨K_42, hK_43, h⟩ := letE h
  refine Ex.blockJ (fun a S => K_42 () = some r ∧ a = mkS 46 [] ∧ S = ⟨[], []⟩) ?_ ?_
  ·obtain ⟨B_46, hB_47, h⟩ := loop1I h
   refine Ex.loopF (fun k a S => ∃ (y_44 : Int), loop1 B_46 k y_44 = some r ∧ a = mkS 46 [(3, .ptr 1 0), (28, .sl (q_1.requests_.city_.Sleep.map (AV.int .i64)) none), (29, i6 ((q_1.requests_.city_.Sleep.length : Nat) : Int)), (30, i6 y_44)] ∧ S = ⟨[(C_band_request q_1), [.sl (b_11.map A_band_tour) (some 0)]], [(b_11.length, 7)]⟩) N ⟨_, _, forgetA (m := 46) 2 [1] [(3, .ptr 1 0), (28, .sl (q_1.requests_.city_.Sleep.map (AV.int .i64)) none), (29, i6 ((q_1.requests_.city_.Sleep.length : Nat) : Int)), (30, i6 0)] [(C_band_request q_1), [.sl (b_11.map A_band_tour) (some 0)]] [(b_11.length, 7)] (by simp [setAll]) (by simp) ⟨rfl, (reN (cleanI _ _)), rfl, rfl, trivial⟩ (by simp) rfl (by decide), 0, h, rfl, rfl⟩ ?_
   rintro k a S ⟨y_44, h, rfl, rfl⟩
   cases k with
   | zero => exact (loop1Z h).elim
   | succ k =>
    replace h := loop1S h hB_47
    refine Ex.seq (rg 1 [3, 28, 29, 30, 31] (mkS 46 [(3, .ptr 1 0), (28, .sl (q_1.requests_.city_.Sleep.map (AV.int .i64)) none), (29, i6 ((q_1.requests_.city_.Sleep.length : Nat) : Int)), (30, i6 y_44), (31, .bool (decide (y_44 < ((q_1.requests_.city_.Sleep.length : Nat) : Int))))]) ⟨[(C_band_request q_1), [.sl (b_11.map A_band_tour) (some 0)]], [(b_11.length, 7)]⟩ ?_)
    refine Ex.seq ?_
    rcases condI h with ⟨hc_48, h⟩ | ⟨hc_48, h⟩
    ·refine Ex.condT _ rfl hc_48 ?_
     refine Ex.skip ?_
     refine Ex.seq ?_
     refine Ex.blockK ?_
     refine Ex.seq ?_
     obtain ⟨x_49, hx_49, h⟩ := bE h
     refine regH 5 [(1, .rop [i6 x_49])] [3, 5, 6, 28, 29, 30] [LGet (q_1.requests_.city_.Sleep.map (AV.int .i64)) y_44 1 [i6 x_49]] (mkS 46 [(3, .ptr 1 0), (5, i6 y_44), (6, i6 x_49), (28, .sl (q_1.requests_.city_.Sleep.map (AV.int .i64)) none), (29, i6 ((q_1.requests_.city_.Sleep.length : Nat) : Int)), (30, i6 y_44)]) (⟨[(C_band_request q_1), [.sl (b_11.map A_band_tour) (some 0)]], [(b_11.length, 7)]⟩) (by kernel_rfl) ⟨LGet.of hx_49 rfl, trivial⟩ rfl ?_
     refine Ex.seq ?_
     obtain ⟨r_50, hr_50, h⟩ := bE h
     refine Ex.reg (rn 2 [3, 6, 28, 29, 30, 36, 37] (mkS 46 [(3, .ptr 1 0), (6, i6 x_49), (28, .sl (q_1.requests_.city_.Sleep.map (AV.int .i64)) none), (29, i6 ((q_1.requests_.city_.Sleep.length : Nat) : Int)), (30, i6 y_44), (36, .sl (b_11.map A_band_tour) (some 0)), (37, i6 y_44)]) ⟨[(C_band_request q_1), [.sl (b_11.map A_band_tour) (some 0)]], [(b_11.length, 7)]⟩ ?_)
     refine ExO.callL [] [.sl (b_11.map A_band_tour) (some 0), i6 y_44] rfl rfl (a_band_nightOf b_11 y_44) rfl rfl (d_band_nightOf N b_11 y_44 r_50 hr_50) (b_band_nightOf _ _ _ _) rfl ?_
     obtain ⟨r_51, hr_51, h⟩ := bE h
     refine ExO.callL [] [.agg (flat (r_50.map AV.bool))] rfl rfl (by simp; try rfl) rfl rfl (d_band_night_sleep N r_50 r_51 hr_51) (b_band_night_sleep _ _ _ _) rfl ?_
     refine rn 5 [3, 6, 8, 28, 29, 30] (mkS 46 [(3, .ptr 1 0), (6, i6 x_49), (8, i6 r_51.2), (28, .sl (q_1.requests_.city_.Sleep.map (AV.int .i64)) none), (29, i6 ((q_1.requests_.city_.Sleep.length : Nat) : Int)), (30, i6 y_44)]) ⟨[(C_band_request q_1), [.sl (b_11.map A_band_tour) (some 0)]], [(b_11.length, 7)]⟩ ?_
     refine ExO.nil ?_
     refine Ex.seq (rg 3 [3, 28, 29, 30, 44] (mkS 46 [(3, .ptr 1 0), (28, .sl (q_1.requests_.city_.Sleep.map (AV.int .i64)) none), (29, i6 ((q_1.requests_.city_.Sleep.length : Nat) : Int)), (30, i6 y_44), (44, .bool (decide (r_51.2 < x_49)))]) ⟨[(C_band_request q_1), [.sl (b_11.map A_band_tour) (some 0)]], [(b_11.length, 7)]⟩ ?_)
     rcases condI h with ⟨hc_52, h⟩ | ⟨hc_52, h⟩
     ·refine Ex.condT _ rfl hc_52 ?_
      refine Ex.seq (rg 1 [2] (mkS 46 [(2, i6 11)]) ⟨[(C_band_request q_1), [.sl (b_11.map A_band_tour) (some 0)]], [(b_11.length, 7)]⟩ ?_)
      refine Ex.ret ?_
      obtain rfl := sJ h
      exact rt (i6 11)
     ·refine Ex.condF _ rfl hc_52 ?_
      refine Ex.skip ?_
      refine rg 2 [3, 28, 29, 30] (mkS 46 [(3, .ptr 1 0), (28, .sl (q_1.requests_.city_.Sleep.map (AV.int .i64)) none), (29, i6 ((q_1.requests_.city_.Sleep.length : Nat) : Int)), (30, i6 (IntKind.i64.wrap (y_44 + 1)))]) ⟨[(C_band_request q_1), [.sl (b_11.map A_band_tour) (some 0)]], [(b_11.length, 7)]⟩ ?_
      dsimp only
      exact ⟨_, _, Forgets.refl _ _ _, k, Nat.lt_succ_self k, (IntKind.i64.wrap (y_44 + 1)), h, rfl, rfl⟩
    ·refine Ex.condF _ rfl hc_48 ?_
     refine Ex.exit ?_
     (try simp only [reduceCtorEq, AEx.ex.injEq, Nat.reduceEqDiff, if_true, if_false])
     exact ⟨_, _, forgetA (m := 46) 0 [] [] [] [] (by simp [setAll]) (by simp) trivial (by simp) rfl (by decide), h, rfl, rfl⟩
  ·rintro a S ⟨h, rfl, rfl⟩
   subst hK_43
   refine Ex.seq (rg 1 [2] (mkS 46 [(2, i6 0)]) ⟨[], []⟩ ?_)
   refine Ex.ret ?_
   obtain rfl := sJ h
   exact rt (i6 0)
def p_band_firstOf_band_request_clash_band_request_throng_band_request_noise (N : Nat) (a_1 : T_band_request) (a_2 : T_band_request) (a_3 : T_band_request) : Option (Int) := (letJ (fun (_ : Unit) => some 0) (fun k_4 => ((p_band_request_clash N a_1).bind fun r_7 => (bif (r_7 != 0) then some r_7 else ((p_band_request_throng N a_2).bind fun r_9 => (bif (r_9 != 0) then some r_9 else ((p_band_request_noise N a_3).bind fun r_11 => (bif (r_11 != 0) then some r_11 else (k_4 ())))))))))
def v_band_firstOf_band_request_clash_band_request_throng_band_request_noise (r : Int) : AV := i6 r
attribute [local simp] v_band_firstOf_band_request_clash_band_request_throng_band_request_noise
theorem b_band_firstOf_band_request_clash_band_request_throng_band_request_noise (r : Int) (n n2 m : Nat) : back n n2 m (v_band_firstOf_band_request_clash_band_request_throng_band_request_noise r) = some (v_band_firstOf_band_request_clash_band_request_throng_band_request_noise r) := by simp
theorem d_band_firstOf_band_request_clash_band_request_throng_band_request_noise (N : Nat) (a_1 : T_band_request) (a_2 : T_band_request) (a_3 : T_band_request) (r : Int) (h : p_band_firstOf_band_request_clash_band_request_throng_band_request_noise N a_1 a_2 a_3 = some r) : Does Tryd.prog 98 [.sl [.fn 99 [(A_band_request a_1)] [], .fn 100 [(A_band_request a_2)] [], .fn 101 [(A_band_request a_3)] []] none] [] fun v c => v = v_band_firstOf_band_request_clash_band_request_throng_band_request_noise r ∧ c = [] := by
 unfold p_band_firstOf_band_request_clash_band_request_throng_band_request_noise at h
 refine Does.ofL comp98 _ _ rfl rfl ?_
 refine Ex.seq (rg 1 [0] (mkS 18 [(0, .sl [.fn 99 [(A_band_request a_1)] [], .fn 100 [(A_band_request a_2)] [], .fn 101 [(A_band_request a_3)] []] none)]) ⟨[], []⟩ ?_)
 refine Ex.seq (Ex.seq ?_)
 refine rg 3 [6, 7, 8] (mkS 18 [(6, .sl [.fn 99 [(A_band_request a_1)] [], .fn 100 [(A_band_request a_2)] [], .fn 101 [(A_band_request a_3)] []] none), (7, i6 3), (8, i6 0)]) ⟨[], []⟩ ?_
 obtain ⟨K_5, hK_6, h⟩ := letE h
 refine Ex.blockJ (fun a S => K_5 () = some r ∧ a = mkS 18 [] ∧ S = ⟨[], []⟩) ?_ ?_
 ·refine Ex.unroll 32 ?_
  refine Unr.step ?_
  refine Ex.seq (rg 1 [6, 7, 8, 9] (mkS 18 [(6, .sl [.fn 99 [(A_band_request a_1)] [], .fn 100 [(A_band_request a_2)] [], .fn 101 [(A_band_request a_3)] []] none), (7, i6 3), (8, i6 0), (9, .bool true)]) ⟨[], []⟩ ?_)
  refine Ex.seq ?_
  refine Ex.cond (b := true) rfl ?_
  refine Ex.skip ?_
  refine Ex.seq ?_
  refine Ex.blockK ?_
  refine Ex.seq (rg 3 [4, 6, 7, 8] (mkS 18 [(4, .fn 99 [(A_band_request a_1)] []), (6, .sl [.fn 99 [(A_band_request a_1)] [], .fn 100 [(A_band_request a_2)] [], .fn 101 [(A_band_request a_3)] []] none), (7, i6 3), (8, i6 0)]) ⟨[], []⟩ ?_)
  refine Ex.seq ?_
  obtain ⟨r_7, hr_7, h⟩ := bE h
  refine Ex.reg (rn 1 [6, 7, 8, 12] (mkS 18 [(6, .sl [.fn 99 [(A_band_request a_1)] [], .fn 100 [(A_band_request a_2)] [], .fn 101 [(A_band_request a_3)] []] none), (7, i6 3), (8, i6 0), (12, .fn 99 [(A_band_request a_1)] [])]) ⟨[], []⟩ ?_)
  refine ExO.callL [] [(A_band_request a_1)] rfl rfl (a_band_request_clash a_1) rfl rfl (d_band_request_clash N a_1 r_7 hr_7) (b_band_request_clash _ _ _ _) rfl ?_
  refine rn 1 [5, 6, 7, 8] (mkS 18 [(5, i6 r_7), (6, .sl [.fn 99 [(A_band_request a_1)] [], .fn 100 [(A_band_request a_2)] [], .fn 101 [(A_band_request a_3)] []] none), (7, i6 3), (8, i6 0)]) ⟨[], []⟩ ?_
  refine ExO.nil ?_
  refine Ex.seq (rg 2 [5, 6, 7, 8, 15] (mkS 18 [(5, i6 r_7), (6, .sl [.fn 99 [(A_band_request a_1)] [], .fn 100 [(A_band_request a_2)] [], .fn 101 [(A_band_request a_3)] []] none), (7, i6 3), (8, i6 0), (15, .bool (r_7 != 0))]) ⟨[], []⟩ ?_)
  rcases condI h with ⟨hc_8, h⟩ | ⟨hc_8, h⟩
  ·refine Ex.condT _ rfl hc_8 ?_
   refine Ex.seq (rg 2 [2] (mkS 18 [(2, i6 r_7)]) ⟨[], []⟩ ?_)
   refine Ex.ret ?_
   obtain rfl := sJ h
   exact rt (i6 r_7)
  ·refine Ex.condF _ rfl hc_8 ?_
   refine Ex.skip ?_
   refine rg 2 [6, 7, 8] (mkS 18 [(6, .sl [.fn 99 [(A_band_request a_1)] [], .fn 100 [(A_band_request a_2)] [], .fn 101 [(A_band_request a_3)] []] none), (7, i6 3), (8, i6 1)]) ⟨[], []⟩ ?_
   dsimp only
   refine Unr.step ?_
   refine Ex.seq (rg 1 [6, 7, 8, 9] (mkS 18 [(6, .sl [.fn 99 [(A_band_request a_1)] [], .fn 100 [(A_band_request a_2)] [], .fn 101 [(A_band_request a_3)] []] none), (7, i6 3), (8, i6 1), (9, .bool true)]) ⟨[], []⟩ ?_)
   refine Ex.seq ?_
   refine Ex.cond (b := true) rfl ?_
   refine Ex.skip ?_
   refine Ex.seq ?_
   refine Ex.blockK ?_
   refine Ex.seq (rg 3 [4, 6, 7, 8] (mkS 18 [(4, .fn 100 [(A_band_request a_2)] []), (6, .sl [.fn 99 [(A_band_request a_1)] [], .fn 100 [(A_band_request a_2)] [], .fn 101 [(A_band_request a_3)] []] none), (7, i6 3), (8, i6 1)]) ⟨[], []⟩ ?_)
   refine Ex.seq ?_
   obtain ⟨r_9, hr_9, h⟩ := bE h
   refine Ex.reg (rn 1 [6, 7, 8, 12] (mkS 18 [(6, .sl [.fn 99 [(A_band_request a_1)] [], .fn 100 [(A_band_request a_2)] [], .fn 101 [(A_band_request a_3)] []] none), (7, i6 3), (8, i6 1), (12, .fn 100 [(A_band_request a_2)] [])]) ⟨[], []⟩ ?_)
   refine ExO.callL [] [(A_band_request a_2)] rfl rfl (a_band_request_throng a_2) rfl rfl (d_band_request_throng N a_2 r_9 hr_9) (b_band_request_throng _ _ _ _) rfl ?_
   refine rn 1 [5, 6, 7, 8] (mkS 18 [(5, i6 r_9), (6, .sl [.fn 99 [(A_band_request a_1)] [], .fn 100 [(A_band_request a_2)] [], .fn 101 [(A_band_request a_3)] []] none), (7, i6 3), (8, i6 1)]) ⟨[], []⟩ ?_
   refine ExO.nil ?_
   refine Ex.seq (rg 2 [5, 6, 7, 8, 15] (mkS 18 [(5, i6 r_9), (6, .sl [.fn 99 [(A_band_request a_1)] [], .fn 100 [(A_band_request a_2)] [], .fn 101 [(A_band_request a_3)] []] none), (7, i6 3), (8, i6 1), (15, .bool (r_9 != 0))]) ⟨[], []⟩ ?_)
   rcases condI h with ⟨hc_10, h⟩ | ⟨hc_10, h⟩
   ·refine Ex.condT _ rfl hc_10 ?_
    refine Ex.seq (rg 2 [2] (mkS 18 [(2, i6 r_9)]) ⟨[], []⟩ ?_)
    refine Ex.ret ?_
    obtain rfl := sJ h
    exact rt (i6 r_9)
   ·refine Ex.condF _ rfl hc_10 ?_
    refine Ex.skip ?_
    refine rg 2 [6, 7, 8] (mkS 18 [(6, .sl [.fn 99 [(A_band_request a_1)] [], .fn 100 [(A_band_request a_2)] [], .fn 101 [(A_band_request a_3)] []] none), (7, i6 3), (8, i6 2)]) ⟨[], []⟩ ?_
    dsimp only
    refine Unr.step ?_
    refine Ex.seq (rg 1 [6, 7, 8, 9] (mkS 18 [(6, .sl [.fn 99 [(A_band_request a_1)] [], .fn 100 [(A_band_request a_2)] [], .fn 101 [(A_band_request a_3)] []] none), (7, i6 3), (8, i6 2), (9, .bool true)]) ⟨[], []⟩ ?_)
    refine Ex.seq ?_
    refine Ex.cond (b := true) rfl ?_
    refine Ex.skip ?_
    refine Ex.seq ?_
    refine Ex.blockK ?_
    refine Ex.seq (rg 3 [4, 6, 7, 8] (mkS 18 [(4, .fn 101 [(A_band_request a_3)] []), (6, .sl [.fn 99 [(A_band_request a_1)] [], .fn 100 [(A_band_request a_2)] [], .fn 101 [(A_band_request a_3)] []] none), (7, i6 3), (8, i6 2)]) ⟨[], []⟩ ?_)
    refine Ex.seq ?_
    obtain ⟨r_11, hr_11, h⟩ := bE h
    refine Ex.reg (rn 1 [6, 7, 8, 12] (mkS 18 [(6, .sl [.fn 99 [(A_band_request a_1)] [], .fn 100 [(A_band_request a_2)] [], .fn 101 [(A_band_request a_3)] []] none), (7, i6 3), (8, i6 2), (12, .fn 101 [(A_band_request a_3)] [])]) ⟨[], []⟩ ?_)
    refine ExO.callL [] [(A_band_request a_3)] rfl rfl (a_band_request_noise a_3) rfl rfl (d_band_request_noise N a_3 r_11 hr_11) (b_band_request_noise _ _ _ _) rfl ?_
    refine rn 1 [5, 6, 7, 8] (mkS 18 [(5, i6 r_11), (6, .sl [.fn 99 [(A_band_request a_1)] [], .fn 100 [(A_band_request a_2)] [], .fn 101 [(A_band_request a_3)] []] none), (7, i6 3), (8, i6 2)]) ⟨[], []⟩ ?_
    refine ExO.nil ?_
    refine Ex.seq (rg 2 [5, 6, 7, 8, 15] (mkS 18 [(5, i6 r_11), (6, .sl [.fn 99 [(A_band_request a_1)] [], .fn 100 [(A_band_request a_2)] [], .fn 101 [(A_band_request a_3)] []] none), (7, i6 3), (8, i6 2), (15, .bool (r_11 != 0))]) ⟨[], []⟩ ?_)
    rcases condI h with ⟨hc_12, h⟩ | ⟨hc_12, h⟩
    ·refine Ex.condT _ rfl hc_12 ?_
     refine Ex.seq (rg 2 [2] (mkS 18 [(2, i6 r_11)]) ⟨[], []⟩ ?_)
     refine Ex.ret ?_
     obtain rfl := sJ h
     exact rt (i6 r_11)
    ·refine Ex.condF _ rfl hc_12 ?_
     refine Ex.skip ?_
     refine rg 2 [6, 7, 8] (mkS 18 [(6, .sl [.fn 99 [(A_band_request a_1)] [], .fn 100 [(A_band_request a_2)] [], .fn 101 [(A_band_request a_3)] []] none), (7, i6 3), (8, i6 3)]) ⟨[], []⟩ ?_
     dsimp only
     refine Unr.step ?_
     refine Ex.seq (rg 1 [6, 7, 8, 9] (mkS 18 [(6, .sl [.fn 99 [(A_band_request a_1)] [], .fn 100 [(A_band_request a_2)] [], .fn 101 [(A_band_request a_3)] []] none), (7, i6 3), (8, i6 3), (9, .bool false)]) ⟨[], []⟩ ?_)
     refine Ex.seq ?_
     refine Ex.cond (b := false) rfl ?_
     refine Ex.exit ?_
     (try simp only [reduceCtorEq, AEx.ex.injEq, Nat.reduceEqDiff, if_true, if_false])
     exact ⟨_, _, forgetK [], h, rfl, rfl⟩
 ·rintro a S ⟨h, rfl, rfl⟩
  subst hK_6
  refine Ex.seq (rg 1 [2] (mkS 18 [(2, i6 0)]) ⟨[], []⟩ ?_)
  refine Ex.ret ?_
  obtain rfl := sJ h
  exact rt (i6 0)
def p_band_requests_wrong (N : Nat) (r_1 : T_band_requests) (band_2 : Int) (granted_3 : Int) : Option (Int) := ((p_band_firstOf_band_request_clash_band_request_throng_band_request_noise N (⟨r_1, band_2, granted_3⟩ : T_band_request) (⟨r_1, band_2, granted_3⟩ : T_band_request) (⟨r_1, band_2, granted_3⟩ : T_band_request)).bind fun r_4 => some r_4)
def v_band_requests_wrong (r : Int) : AV := i6 r
attribute [local simp] v_band_requests_wrong
theorem a_band_requests_wrong (r_1 : T_band_requests) (band_2 : Int) (granted_3 : Int) : [(A_band_requests r_1), i6 band_2, .int .u64 granted_3].mapM (ren []) = some [(A_band_requests r_1), i6 band_2, .int .u64 granted_3] := by simp
theorem b_band_requests_wrong (r : Int) (n n2 m : Nat) : back n n2 m (v_band_requests_wrong r) = some (v_band_requests_wrong r) := by simp
theorem d_band_requests_wrong (N : Nat) (r_1 : T_band_requests) (band_2 : Int) (granted_3 : Int) (r : Int) (h : p_band_requests_wrong N r_1 band_2 granted_3 = some r) : Does Tryd.prog 78 [(A_band_requests r_1), i6 band_2, .int .u64 granted_3] [] fun v c => v = v_band_requests_wrong r ∧ c = [] := by
 unfold p_band_requests_wrong at h
 refine Does.ofL comp78 _ _ rfl rfl ?_
 refine Ex.seq (rg 2 [1, 2, 3] (mkS 20 [(1, i6 band_2), (2, .int .u64 granted_3), (3, .ptr 0 0)]) ⟨[(C_band_requests r_1)], []⟩ ?_)
 refine Ex.seq (rg 6 [7] (mkS 20 [(7, .ptr 1 0)]) ⟨[(C_band_requests r_1), [.sl (r_1.city_.Town.Rooms.map (AV.int .i64)) none, .sl (r_1.city_.Town.Streets.map A_Street) none, .sl (r_1.city_.Town.Groups.map A_Group) none, i6 r_1.city_.Town.Steps, i6 r_1.city_.Break, .sl (r_1.city_.Sleep.map (AV.int .i64)) none, .sl (r_1.tours_.map A_band_tour) none, .sl (r_1.crosses_.map (AV.int .u64)) none, i6 band_2, .int .u64 granted_3]], []⟩ ?_)
 refine Ex.seq ?_
 obtain ⟨r_4, hr_4, h⟩ := bE h
 refine Ex.reg (rn 7 [18] (mkS 20 [(18, .sl [.fn 99 [.agg [.sl (r_1.city_.Town.Rooms.map (AV.int .i64)) none, .sl (r_1.city_.Town.Streets.map A_Street) none, .sl (r_1.city_.Town.Groups.map A_Group) none, i6 r_1.city_.Town.Steps, i6 r_1.city_.Break, .sl (r_1.city_.Sleep.map (AV.int .i64)) none, .sl (r_1.tours_.map A_band_tour) none, .sl (r_1.crosses_.map (AV.int .u64)) none, i6 band_2, .int .u64 granted_3]] [], .fn 100 [.agg [.sl (r_1.city_.Town.Rooms.map (AV.int .i64)) none, .sl (r_1.city_.Town.Streets.map A_Street) none, .sl (r_1.city_.Town.Groups.map A_Group) none, i6 r_1.city_.Town.Steps, i6 r_1.city_.Break, .sl (r_1.city_.Sleep.map (AV.int .i64)) none, .sl (r_1.tours_.map A_band_tour) none, .sl (r_1.crosses_.map (AV.int .u64)) none, i6 band_2, .int .u64 granted_3]] [], .fn 101 [.agg [.sl (r_1.city_.Town.Rooms.map (AV.int .i64)) none, .sl (r_1.city_.Town.Streets.map A_Street) none, .sl (r_1.city_.Town.Groups.map A_Group) none, i6 r_1.city_.Town.Steps, i6 r_1.city_.Break, .sl (r_1.city_.Sleep.map (AV.int .i64)) none, .sl (r_1.tours_.map A_band_tour) none, .sl (r_1.crosses_.map (AV.int .u64)) none, i6 band_2, .int .u64 granted_3]] []] (some 0))]) ⟨[(C_band_requests r_1), [.sl (r_1.city_.Town.Rooms.map (AV.int .i64)) none, .sl (r_1.city_.Town.Streets.map A_Street) none, .sl (r_1.city_.Town.Groups.map A_Group) none, i6 r_1.city_.Town.Steps, i6 r_1.city_.Break, .sl (r_1.city_.Sleep.map (AV.int .i64)) none, .sl (r_1.tours_.map A_band_tour) none, .sl (r_1.crosses_.map (AV.int .u64)) none, i6 band_2, .int .u64 granted_3]], [(3, 1)]⟩ ?_)
 refine ExO.callL [] [.sl [.fn 99 [.agg [.sl (r_1.city_.Town.Rooms.map (AV.int .i64)) none, .sl (r_1.city_.Town.Streets.map A_Street) none, .sl (r_1.city_.Town.Groups.map A_Group) none, i6 r_1.city_.Town.Steps, i6 r_1.city_.Break, .sl (r_1.city_.Sleep.map (AV.int .i64)) none, .sl (r_1.tours_.map A_band_tour) none, .sl (r_1.crosses_.map (AV.int .u64)) none, i6 band_2, .int .u64 granted_3]] [], .fn 100 [.agg [.sl (r_1.city_.Town.Rooms.map (AV.int .i64)) none, .sl (r_1.city_.Town.Streets.map A_Street) none, .sl (r_1.city_.Town.Groups.map A_Group) none, i6 r_1.city_.Town.Steps, i6 r_1.city_.Break, .sl (r_1.city_.Sleep.map (AV.int .i64)) none, .sl (r_1.tours_.map A_band_tour) none, .sl (r_1.crosses_.map (AV.int .u64)) none, i6 band_2, .int .u64 granted_3]] [], .fn 101 [.agg [.sl (r_1.city_.Town.Rooms.map (AV.int .i64)) none, .sl (r_1.city_.Town.Streets.map A_Street) none, .sl (r_1.city_.Town.Groups.map A_Group) none, i6 r_1.city_.Town.Steps, i6 r_1.city_.Break, .sl (r_1.city_.Sleep.map (AV.int .i64)) none, .sl (r_1.tours_.map A_band_tour) none, .sl (r_1.crosses_.map (AV.int .u64)) none, i6 band_2, .int .u64 granted_3]] []] (some 0)] rfl rfl (by simp; try rfl) rfl rfl (d_band_firstOf_band_request_clash_band_request_throng_band_request_noise N (⟨r_1, band_2, granted_3⟩ : T_band_request) (⟨r_1, band_2, granted_3⟩ : T_band_request) (⟨r_1, band_2, granted_3⟩ : T_band_request) r_4 hr_4) (b_band_firstOf_band_request_clash_band_request_throng_band_request_noise _ _ _ _) rfl ?_
 refine rn 1 [6] (mkS 20 [(6, i6 r_4)]) ⟨[(C_band_requests r_1), [.sl (r_1.city_.Town.Rooms.map (AV.int .i64)) none, .sl (r_1.city_.Town.Streets.map A_Street) none, .sl (r_1.city_.Town.Groups.map A_Group) none, i6 r_1.city_.Town.Steps, i6 r_1.city_.Break, .sl (r_1.city_.Sleep.map (AV.int .i64)) none, .sl (r_1.tours_.map A_band_tour) none, .sl (r_1.crosses_.map (AV.int .u64)) none, i6 band_2, .int .u64 granted_3]], [(3, 1)]⟩ ?_
 refine ExO.nil ?_
 refine Ex.ret ?_
 obtain rfl := sJ h
 exact rt (i6 r_4)
def p_band_Grant (N : Nat) (c_1 : T_City) (l_2 : (List T_Band)) : Option ((List Int) × Int) := ((p_band_toursOf N c_1 l_2).bind fun r_3 => (bif (r_3.2 != 0) then some ([], r_3.2) else ((p_band_requestsOf N c_1 r_3.1).bind fun r_5 => (letJ (fun (answers_6 : List Int) => some (answers_6, 0)) (fun k_7 => (loop3 (fun rec_13 (granted_10 : Int) (answers_11 : List Int) (y_12 : Int) => (bif (decide (y_12 < ((r_3.1.length : Nat) : Int))) then (letJ (fun (granted_17 : Int) (answers_18 : List Int) => (rec_13 granted_17 answers_18 (IntKind.i64.wrap (y_12 + 1)))) (fun k_19 => ((p_band_requests_wrong N r_5 y_12 granted_10).bind fun r_22 => (bif (r_22 == 0) then ((p_band_choice_with N granted_10 y_12).bind fun r_24 => ((pushI answers_11 ([r_22] : List Int)).bind fun l_25 => (k_19 r_24 l_25))) else ((pushI answers_11 ([r_22] : List Int)).bind fun l_26 => (k_19 granted_10 l_26)))))) else (k_7 answers_11))) N 0 [] 0))))))
def v_band_Grant (r : (List Int) × Int) : AV := .tup [.sl (r.1.map (AV.int .i64)) none, i6 r.2]
attribute [local simp] v_band_Grant
theorem a_band_Grant (c_1 : T_City) (l_2 : (List T_Band)) : [(A_City c_1), .sl (l_2.map A_Band) none].mapM (ren []) = some [(A_City c_1), .sl (l_2.map A_Band) none] := by simp
theorem b_band_Grant (r : (List Int) × Int) (n n2 m : Nat) : back n n2 m (v_band_Grant r) = some (v_band_Grant r) := by simp
theorem d_band_Grant (N : Nat) (c_1 : T_City) (l_2 : (List T_Band)) (r : (List Int) × Int) (h : p_band_Grant N c_1 l_2 = some r) : Does Tryd.prog 39 [(A_City c_1), .sl (l_2.map A_Band) none] [] fun v c => v = v_band_Grant r ∧ c = [] := by
 unfold p_band_Grant at h
 refine Does.ofL comp39 _ _ rfl rfl ?_
 refine Ex.seq (rg 3 [1, 2] (mkS 45 [(1, .sl (l_2.map A_Band) none), (2, .ptr 0 0)]) ⟨[(C_City c_1)], []⟩ ?_)
 refine Ex.seq ?_
 obtain ⟨r_3, hr_3, h⟩ := bE h
 refine Ex.reg (rn 2 [2, 14, 15] (mkS 45 [(2, .ptr 0 0), (14, (A_City c_1)), (15, .sl (l_2.map A_Band) none)]) ⟨[(C_City c_1)], []⟩ ?_)
 refine ExO.callL [] [(A_City c_1), .sl (l_2.map A_Band) none] rfl rfl (a_band_toursOf c_1 l_2) rfl rfl (d_band_toursOf N c_1 l_2 r_3 hr_3) (b_band_toursOf _ _ _ _) rfl ?_
 refine rn 5 [2, 6, 7] (mkS 45 [(2, .ptr 0 0), (6, .sl (r_3.1.map A_band_tour) none), (7, i6 r_3.2)]) ⟨[(C_City c_1)], []⟩ ?_
 refine ExO.nil ?_
 refine Ex.seq (Ex.seq ?_)
 refine rg 2 [2, 6, 7, 20] (mkS 45 [(2, .ptr 0 0), (6, .sl (r_3.1.map A_band_tour) none), (7, i6 r_3.2), (20, .bool (r_3.2 != 0))]) ⟨[(C_City c_1)], []⟩ ?_
 rcases condI h with ⟨hc_4, h⟩ | ⟨hc_4, h⟩
 ·refine Ex.condT _ rfl hc_4 ?_
  refine Ex.seq (rg 3 [4, 5] (mkS 45 [(4, .nils), (5, i6 r_3.2)]) ⟨[(C_City c_1)], []⟩ ?_)
  refine Ex.ret ?_
  obtain rfl := sJ h
  exact rt (.tup [.nils, i6 r_3.2])
 ·refine Ex.condF _ rfl hc_4 ?_
  refine Ex.skip ?_
  refine Ex.seq ?_
  obtain ⟨r_5, hr_5, h⟩ := bE h
  refine Ex.reg (rn 2 [6, 22, 23] (mkS 45 [(6, .sl (r_3.1.map A_band_tour) none), (22, (A_City c_1)), (23, .sl (r_3.1.map A_band_tour) none)]) ⟨[(C_City c_1)], []⟩ ?_)
  refine ExO.callL [] [(A_City c_1), .sl (r_3.1.map A_band_tour) none] rfl rfl (a_band_requestsOf c_1 r_3.1) rfl rfl (d_band_requestsOf N c_1 r_3.1 r_5 hr_5) (b_band_requestsOf _ _ _ _) rfl ?_
  refine rn 2 [6, 8] (mkS 45 [(6, .sl (r_3.1.map A_band_tour) none), (8, .ptr 1 0)]) ⟨[(C_City c_1), (C_band_requests r_5)], []⟩ ?_
  refine ExO.nil ?_
  refine Ex.seq (rg 1 [6, 8, 9] (mkS 45 [(6, .sl (r_3.1.map A_band_tour) none), (8, .ptr 1 0), (9, .int .u64 0)]) ⟨[(C_City c_1), (C_band_requests r_5)], []⟩ ?_)
  refine Ex.seq (rg 1 [6, 8, 9, 10] (mkS 45 [(6, .sl (r_3.1.map A_band_tour) none), (8, .ptr 1 0), (9, .int .u64 0), (10, .nils)]) ⟨[(C_City c_1), (C_band_requests r_5)], []⟩ ?_)
  refine Ex.seq (Ex.seq ?_)
  refine regH 3 [(1, .eq (i6 ((r_3.1.length : Nat) : Int)))] [8, 9, 10, 26, 27] [AV.int .i64 (((r_3.1.map A_band_tour).length : Nat) : Int) = AV.int .i64 ((r_3.1.length : Nat) : Int)] (mkS 45 [(8, .ptr 1 0), (9, .int .u64 0), (10, .nils), (26, i6 ((r_3.1.length : Nat) : Int)), (27, i6 0)]) (⟨[(C_City c_1), (C_band_requests r_5)], []⟩) (by kernel_rfl) ⟨lenM _ _, trivial⟩ rfl ?_
  obtain ⟨K_8, hK_9, h⟩ := letE h
  refine Ex.blockJ (fun a S => ∃ (answers_6 : List Int), K_8 answers_6 = some r ∧ a = mkS 45 [(10, .sl (answers_6.map (AV.int .i64)) (some 0))] ∧ S = ⟨[], [(answers_6.length, 1)]⟩) ?_ ?_
  ·refine Ex.forget (nilK 10 1 rfl) ?_
   refine Ex.castA (a2 := mkS 45 [(8, .ptr 1 0), (9, .int .u64 0), (10, .sl (([] : List Int).map (AV.int .i64)) (some 0)), (26, i6 ((r_3.1.length : Nat) : Int)), (27, i6 0)]) (S2 := ⟨[(C_City c_1), (C_band_requests r_5)], [(0, 1)]⟩) (by kernel_rfl) (by kernel_rfl) ?_
   obtain ⟨B_14, hB_15, h⟩ := loop3I h
   refine Ex.loopF (fun k a S => ∃ (granted_10 : Int), ∃ (answers_11 : List Int), ∃ (y_12 : Int), loop3 B_14 k granted_10 answers_11 y_12 = some r ∧ a = mkS 45 [(8, .ptr 1 0), (9, .int .u64 granted_10), (10, .sl (answers_11.map (AV.int .i64)) (some 0)), (26, i6 ((r_3.1.length : Nat) : Int)), (27, i6 y_12)] ∧ S = ⟨[(C_City c_1), (C_band_requests r_5)], [(answers_11.length, 1)]⟩) N ⟨_, _, Forgets.refl _ _ _, 0, [], 0, h, rfl, rfl⟩ ?_
   rintro k a S ⟨granted_10, answers_11, y_12, h, rfl, rfl⟩
   cases k with
   | zero => exact (loop3Z h).elim
   | succ k =>
    replace h := loop3S h hB_15
    refine Ex.seq (rg 1 [8, 9, 10, 26, 27, 28] (mkS 45 [(8, .ptr 1 0), (9, .int .u64 granted_10), (10, .sl (answers_11.map (AV.int .i64)) (some 0)), (26, i6 ((r_3.1.length : Nat) : Int)), (27, i6 y_12), (28, .bool (decide (y_12 < ((r_3.1.length : Nat) : Int))))]) ⟨[(C_City c_1), (C_band_requests r_5)], [(answers_11.length, 1)]⟩ ?_)
    refine Ex.seq ?_
    rcases condI h with ⟨hc_16, h⟩ | ⟨hc_16, h⟩
    ·refine Ex.condT _ rfl hc_16 ?_
     refine Ex.skip ?_
     refine Ex.seq ?_
     obtain ⟨K_20, hK_21, h⟩ := letE h
     refine Ex.blockJ (fun a S => ∃ (granted_17 : Int), ∃ (answers_18 : List Int), K_20 granted_17 answers_18 = some r ∧ a = mkS 45 [(8, .ptr 1 0), (9, .int .u64 granted_17), (10, .sl (answers_18.map (AV.int .i64)) (some 0)), (26, i6 ((r_3.1.length : Nat) : Int)), (27, i6 y_12)] ∧ S = ⟨[(C_City c_1), (C_band_requests r_5)], [(answers_18.length, 1)]⟩) ?_ ?_
     ·refine Ex.seq (rg 2 [8, 9, 10, 11, 26, 27] (mkS 45 [(8, .ptr 1 0), (9, .int .u64 granted_10), (10, .sl (answers_11.map (AV.int .i64)) (some 0)), (11, i6 y_12), (26, i6 ((r_3.1.length : Nat) : Int)), (27, i6 y_12)]) ⟨[(C_City c_1), (C_band_requests r_5)], [(answers_11.length, 1)]⟩ ?_)
      refine Ex.seq ?_
      obtain ⟨r_22, hr_22, h⟩ := bE h
      refine Ex.reg (rn 3 [8, 9, 10, 11, 26, 27, 30, 31, 32] (mkS 45 [(8, .ptr 1 0), (9, .int .u64 granted_10), (10, .sl (answers_11.map (AV.int .i64)) (some 0)), (11, i6 y_12), (26, i6 ((r_3.1.length : Nat) : Int)), (27, i6 y_12), (30, (A_band_requests r_5)), (31, i6 y_12), (32, .int .u64 granted_10)]) ⟨[(C_City c_1), (C_band_requests r_5)], [(answers_11.length, 1)]⟩ ?_)
      refine ExO.callL [] [(A_band_requests r_5), i6 y_12, .int .u64 granted_10] rfl rfl (a_band_requests_wrong r_5 y_12 granted_10) rfl rfl (d_band_requests_wrong N r_5 y_12 granted_10 r_22 hr_22) (b_band_requests_wrong _ _ _ _) rfl ?_
      refine rn 1 [8, 9, 10, 11, 12, 26, 27] (mkS 45 [(8, .ptr 1 0), (9, .int .u64 granted_10), (10, .sl (answers_11.map (AV.int .i64)) (some 0)), (11, i6 y_12), (12, i6 r_22), (26, i6 ((r_3.1.length : Nat) : Int)), (27, i6 y_12)]) ⟨[(C_City c_1), (C_band_requests r_5)], [(answers_11.length, 1)]⟩ ?_
      refine ExO.nil ?_
      refine Ex.seq (Ex.seq ?_)
      refine rg 2 [8, 9, 10, 11, 12, 26, 27, 35] (mkS 45 [(8, .ptr 1 0), (9, .int .u64 granted_10), (10, .sl (answers_11.map (AV.int .i64)) (some 0)), (11, i6 y_12), (12, i6 r_22), (26, i6 ((r_3.1.length : Nat) : Int)), (27, i6 y_12), (35, .bool (r_22 == 0))]) ⟨[(C_City c_1), (C_band_requests r_5)], [(answers_11.length, 1)]⟩ ?_
      rcases condI h with ⟨hc_23, h⟩ | ⟨hc_23, h⟩
      ·refine Ex.condT _ rfl hc_23 ?_
       obtain ⟨r_24, hr_24, h⟩ := bE h
       refine Ex.reg (rn 2 [8, 10, 12, 26, 27, 36, 37] (mkS 45 [(8, .ptr 1 0), (10, .sl (answers_11.map (AV.int .i64)) (some 0)), (12, i6 r_22), (26, i6 ((r_3.1.length : Nat) : Int)), (27, i6 y_12), (36, .int .u64 granted_10), (37, i6 y_12)]) ⟨[(C_City c_1), (C_band_requests r_5)], [(answers_11.length, 1)]⟩ ?_)
       refine ExO.callL [] [.int .u64 granted_10, i6 y_12] rfl rfl (a_band_choice_with granted_10 y_12) rfl rfl (d_band_choice_with N granted_10 y_12 r_24 hr_24) (b_band_choice_with _ _ _ _) rfl ?_
       refine rn 1 [8, 9, 10, 12, 26, 27] (mkS 45 [(8, .ptr 1 0), (9, .int .u64 r_24), (10, .sl (answers_11.map (AV.int .i64)) (some 0)), (12, i6 r_22), (26, i6 ((r_3.1.length : Nat) : Int)), (27, i6 y_12)]) ⟨[(C_City c_1), (C_band_requests r_5)], [(answers_11.length, 1)]⟩ ?_
       refine ExO.nil ?_
       obtain ⟨l_25, hl_25, h⟩ := bE h
       refine regH 5 [(3, .app (l_25.map (AV.int .i64)) l_25.length)] [8, 9, 10, 26, 27] [LApp answers_11.length (answers_11.map (AV.int .i64)) (([r_22] : List Int).map (AV.int .i64)) 1 (l_25.map (AV.int .i64)) l_25.length] (mkS 45 [(8, .ptr 1 0), (9, .int .u64 r_24), (10, .sl (l_25.map (AV.int .i64)) (some 0)), (26, i6 ((r_3.1.length : Nat) : Int)), (27, i6 y_12)]) (⟨[(C_City c_1), (C_band_requests r_5)], [(l_25.length, 1), (1, 1)]⟩) (by kernel_rfl) ⟨LApp.of hl_25 (fun _ => rfl), trivial⟩ rfl ?_
       (try simp only [reduceCtorEq, AEx.ex.injEq, Nat.reduceEqDiff, if_true, if_false])
       exact ⟨_, _, forgetA (m := 45) 2 [0] [(8, .ptr 1 0), (9, .int .u64 r_24), (10, .sl (l_25.map (AV.int .i64)) (some 0)), (26, i6 ((r_3.1.length : Nat) : Int)), (27, i6 y_12)] [(C_City c_1), (C_band_requests r_5)] [(l_25.length, 1)] (by simp [setAll]) (by simp) ⟨rfl, rfl, (reT (cleanI _ _) rfl), rfl, rfl, trivial⟩ (by simp) rfl (by decide), r_24, l_25, h, rfl, rfl⟩
      ·refine Ex.condF _ rfl hc_23 ?_
       refine Ex.skip ?_
       obtain ⟨l_26, hl_26, h⟩ := bE h
       refine regH 5 [(3, .app (l_26.map (AV.int .i64)) l_26.length)] [8, 9, 10, 26, 27] [LApp answers_11.length (answers_11.map (AV.int .i64)) (([r_22] : List Int).map (AV.int .i64)) 1 (l_26.map (AV.int .i64)) l_26.length] (mkS 45 [(8, .ptr 1 0), (9, .int .u64 granted_10), (10, .sl (l_26.map (AV.int .i64)) (some 0)), (26, i6 ((r_3.1.length : Nat) : Int)), (27, i6 y_12)]) (⟨[(C_City c_1), (C_band_requests r_5)], [(l_26.length, 1), (1, 1)]⟩) (by kernel_rfl) ⟨LApp.of hl_26 (fun _ => rfl), trivial⟩ rfl ?_
       (try simp only [reduceCtorEq, AEx.ex.injEq, Nat.reduceEqDiff, if_true, if_false])
       exact ⟨_, _, forgetA (m := 45) 2 [0] [(8, .ptr 1 0), (9, .int .u64 granted_10), (10, .sl (l_26.map (AV.int .i64)) (some 0)), (26, i6 ((r_3.1.length : Nat) : Int)), (27, i6 y_12)] [(C_City c_1), (C_band_requests r_5)] [(l_26.length, 1)] (by simp [setAll]) (by simp) ⟨rfl, rfl, (reT (cleanI _ _) rfl), rfl, rfl, trivial⟩ (by simp) rfl (by decide), granted_10, l_26, h, rfl, rfl⟩
     ·rintro a S ⟨granted_17, answers_18, h, rfl, rfl⟩
      subst hK_21
      refine rg 2 [8, 9, 10, 26, 27] (mkS 45 [(8, .ptr 1 0), (9, .int .u64 granted_17), (10, .sl (answers_18.map (AV.int .i64)) (some 0)), (26, i6 ((r_3.1.length : Nat) : Int)), (27, i6 (IntKind.i64.wrap (y_12 + 1)))]) ⟨[(C_City c_1), (C_band_requests r_5)], [(answers_18.length, 1)]⟩ ?_
      dsimp only
      exact ⟨_, _, Forgets.refl _ _ _, k, Nat.lt_succ_self k, granted_17, answers_18, (IntKind.i64.wrap (y_12 + 1)), h, rfl, rfl⟩
    ·refine Ex.condF _ rfl hc_16 ?_
     refine Ex.exit ?_
     (try simp only [reduceCtorEq, AEx.ex.injEq, Nat.reduceEqDiff, if_true, if_false])
     exact ⟨_, _, forgetA (m := 45) 0 [0] [(10, .sl (answers_11.map (AV.int .i64)) (some 0))] [] [(answers_11.length, 1)] (by simp [setAll]) (by simp) ⟨(reT (cleanI _ _) rfl), trivial⟩ (by simp) rfl (by decide), answers_11, h, rfl, rfl⟩
  ·rintro a S ⟨answers_6, h, rfl, rfl⟩
   subst hK_9
   refine Ex.seq (rg 3 [4, 5] (mkS 45 [(4, .sl (answers_6.map (AV.int .i64)) (some 0)), (5, i6 0)]) ⟨[], [(answers_6.length, 1)]⟩ ?_)
   refine Ex.ret ?_
   obtain rfl := sJ h
   exact rt (.tup [.sl (answers_6.map (AV.int .i64)) (some 0), i6 0])
def p_bl7_quarter (N : Nat)  : Option (T_City) := some (⟨(⟨[110, 80, 50], [(⟨0, 1⟩ : T_Street), (⟨1, 2⟩ : T_Street), (⟨0, 2⟩ : T_Street)], [], 6⟩ : T_Town), 5, [590, 500, 0]⟩ : T_City)
def v_bl7_quarter (r : T_City) : AV := (A_City r)
attribute [local simp] v_bl7_quarter
theorem a_bl7_quarter  : [].mapM (ren []) = some [] := by simp
theorem b_bl7_quarter (r : T_City) (n n2 m : Nat) : back n n2 m (v_bl7_quarter r) = some (v_bl7_quarter r) := by simp
theorem d_bl7_quarter (N : Nat)  (r : T_City) (h : p_bl7_quarter N  = some r) : Does Tryd.prog 50 [] [] fun v c => v = v_bl7_quarter r ∧ c = [] := by
 unfold p_bl7_quarter at h
 refine Does.ofL comp50 _ _ rfl rfl ?_
 refine Ex.seq (rg 1 [0] (mkS 9 [(0, .ptr 0 0)]) ⟨[[.nils, .nils, .nils, i6 0, i6 0, .nils]], []⟩ ?_)
 refine Ex.seq (rg 9 [0] (mkS 9 [(0, .ptr 0 0)]) ⟨[[.sl (([110, 80, 50] : List Int).map (AV.int .i64)) (some 0), .sl (([(⟨0, 1⟩ : T_Street), (⟨1, 2⟩ : T_Street), (⟨0, 2⟩ : T_Street)] : List T_Street).map A_Street) (some 1), .nils, i6 6, i6 5, .sl (([590, 500, 0] : List Int).map (AV.int .i64)) (some 2)]], [(3, 1), (3, 2), (3, 1)]⟩ ?_)
 refine Ex.ret ?_
 obtain rfl := sJ h
 exact rt (.agg [.sl (([110, 80, 50] : List Int).map (AV.int .i64)) (some 0), .sl (([(⟨0, 1⟩ : T_Street), (⟨1, 2⟩ : T_Street), (⟨0, 2⟩ : T_Street)] : List T_Street).map A_Street) (some 1), .nils, i6 6, i6 5, .sl (([590, 500, 0] : List Int).map (AV.int .i64)) (some 2)])
def p_bl7_span (N : Nat) (low_1 : Int) (high_2 : Int) : Option (T_Span) := some (⟨low_1, high_2⟩ : T_Span)
def v_bl7_span (r : T_Span) : AV := (A_Span r)
attribute [local simp] v_bl7_span
theorem a_bl7_span (low_1 : Int) (high_2 : Int) : [i6 low_1, i6 high_2].mapM (ren []) = some [i6 low_1, i6 high_2] := by simp
theorem b_bl7_span (r : T_Span) (n n2 m : Nat) : back n n2 m (v_bl7_span r) = some (v_bl7_span r) := by simp
theorem d_bl7_span (N : Nat) (low_1 : Int) (high_2 : Int) (r : T_Span) (h : p_bl7_span N low_1 high_2 = some r) : Does Tryd.prog 83 [i6 low_1, i6 high_2] [] fun v c => v = v_bl7_span r ∧ c = [] := by
 unfold p_bl7_span at h
 refine Does.ofL comp83 _ _ rfl rfl ?_
 refine Ex.seq (rg 1 [0, 1, 4] (mkS 8 [(0, i6 low_1), (1, i6 high_2), (4, .ptr 0 0)]) ⟨[[i6 0, i6 0]], []⟩ ?_)
 refine Ex.seq (rg 4 [4] (mkS 8 [(4, .ptr 0 0)]) ⟨[[i6 low_1, i6 high_2]], []⟩ ?_)
 refine Ex.ret ?_
 obtain rfl := sJ h
 exact rt (.agg [i6 low_1, i6 high_2])
def p_bl7_bands (N : Nat)  : Option ((List T_Band)) := ((p_bl7_span N 100 110).bind fun r_1 => ((p_bl7_span N 120 120).bind fun r_2 => ((p_bl7_span N 300 300).bind fun r_3 => ((p_bl7_span N 650 650).bind fun r_4 => some ([(⟨0, [0, 1], r_1, 20, 50⟩ : T_Band), (⟨2, [1], r_2, 30, 40⟩ : T_Band), (⟨1, [], r_3, 10, 90⟩ : T_Band), (⟨0, [], r_4, 10, 1⟩ : T_Band)])))))
def v_bl7_bands (r : (List T_Band)) : AV := .sl (r.map A_Band) none
attribute [local simp] v_bl7_bands
theorem a_bl7_bands  : [].mapM (ren []) = some [] := by simp
theorem b_bl7_bands (r : (List T_Band)) (n n2 m : Nat) : back n n2 m (v_bl7_bands r) = some (v_bl7_bands r) := by simp
theorem d_bl7_bands (N : Nat)  (r : (List T_Band)) (h : p_bl7_bands N  = some r) : Does Tryd.prog 51 [] [] fun v c => v = v_bl7_bands r ∧ c = [] := by
 unfold p_bl7_bands at h
 refine Does.ofL comp51 _ _ rfl rfl ?_
 refine Ex.seq (rg 1 [] (mkS 12 []) ⟨[], []⟩ ?_)
 refine Ex.seq ?_
 refine Ex.postF ?_
 obtain ⟨r_1, hr_1, h⟩ := bE h
 refine Ex.reg (rn 1 [1] (mkS 12 [(1, .sl (([0, 1] : List Int).map (AV.int .i64)) (some 0))]) ⟨[], [(2, 1)]⟩ ?_)
 refine ExO.callL [] [i6 100, i6 110] rfl rfl (a_bl7_span 100 110) rfl rfl (d_bl7_span N 100 110 r_1 hr_1) (b_bl7_span _ _ _ _) rfl ?_
 obtain ⟨r_2, hr_2, h⟩ := bE h
 refine rn 2 [3, 4] (mkS 12 [(3, .agg [i6 0, .sl (([0, 1] : List Int).map (AV.int .i64)) (some 0), i6 r_1.Lo, i6 r_1.Hi, i6 20, i6 50]), (4, .sl (([1] : List Int).map (AV.int .i64)) (some 1))]) ⟨[], [(2, 1), (1, 1)]⟩ ?_
 refine ExO.callL [] [i6 120, i6 120] rfl rfl (a_bl7_span 120 120) rfl rfl (d_bl7_span N 120 120 r_2 hr_2) (b_bl7_span _ _ _ _) rfl ?_
 obtain ⟨r_3, hr_3, h⟩ := bE h
 refine rn 1 [3, 6] (mkS 12 [(3, .agg [i6 0, .sl (([0, 1] : List Int).map (AV.int .i64)) (some 0), i6 r_1.Lo, i6 r_1.Hi, i6 20, i6 50]), (6, .agg [i6 2, .sl (([1] : List Int).map (AV.int .i64)) (some 1), i6 r_2.Lo, i6 r_2.Hi, i6 30, i6 40])]) ⟨[], [(2, 1), (1, 1)]⟩ ?_
 refine ExO.callL [] [i6 300, i6 300] rfl rfl (a_bl7_span 300 300) rfl rfl (d_bl7_span N 300 300 r_3 hr_3) (b_bl7_span _ _ _ _) rfl ?_
 obtain ⟨r_4, hr_4, h⟩ := bE h
 refine rn 1 [3, 6, 8] (mkS 12 [(3, .agg [i6 0, .sl (([0, 1] : List Int).map (AV.int .i64)) (some 0), i6 r_1.Lo, i6 r_1.Hi, i6 20, i6 50]), (6, .agg [i6 2, .sl (([1] : List Int).map (AV.int .i64)) (some 1), i6 r_2.Lo, i6 r_2.Hi, i6 30, i6 40]), (8, .agg [i6 1, .nils, i6 r_3.Lo, i6 r_3.Hi, i6 10, i6 90])]) ⟨[], [(2, 1), (1, 1)]⟩ ?_
 refine ExO.callL [] [i6 650, i6 650] rfl rfl (a_bl7_span 650 650) rfl rfl (d_bl7_span N 650 650 r_4 hr_4) (b_bl7_span _ _ _ _) rfl ?_
 refine rn 3 [0] (mkS 12 [(0, .sl [.agg [i6 0, .sl (([0, 1] : List Int).map (AV.int .i64)) (some 0), i6 r_1.Lo, i6 r_1.Hi, i6 20, i6 50], .agg [i6 2, .sl (([1] : List Int).map (AV.int .i64)) (some 1), i6 r_2.Lo, i6 r_2.Hi, i6 30, i6 40], .agg [i6 1, .nils, i6 r_3.Lo, i6 r_3.Hi, i6 10, i6 90], .agg [i6 0, .nils, i6 r_4.Lo, i6 r_4.Hi, i6 10, i6 1]] (some 2))]) ⟨[], [(2, 1), (1, 1), (4, 6)]⟩ ?_
 refine ExO.nil ?_
 refine ⟨mkS 12 [(0, .sl (([(⟨0, [0, 1], r_1, 20, 50⟩ : T_Band), (⟨2, [1], r_2, 30, 40⟩ : T_Band), (⟨1, [], r_3, 10, 90⟩ : T_Band), (⟨0, [], r_4, 10, 1⟩ : T_Band)] : List T_Band).map A_Band) (some 2))], ⟨[], [(2, 1), (1, 1), (4, 6)]⟩, Forgets.castR (by kernel_rfl) rfl (fadeE 0 [.agg [i6 0, .sl (([0, 1] : List Int).map (AV.int .i64)) (some 0), i6 r_1.Lo, i6 r_1.Hi, i6 20, i6 50], .agg [i6 2, .sl (([1] : List Int).map (AV.int .i64)) (some 1), i6 r_2.Lo, i6 r_2.Hi, i6 30, i6 40], .agg [i6 1, .nils, i6 r_3.Lo, i6 r_3.Hi, i6 10, i6 90], .agg [i6 0, .nils, i6 r_4.Lo, i6 r_4.Hi, i6 10, i6 1]] (some 2) rfl), ?_⟩
 refine Ex.ret ?_
 obtain rfl := sJ h
 exact rt (.sl (([(⟨0, [0, 1], r_1, 20, 50⟩ : T_Band), (⟨2, [1], r_2, 30, 40⟩ : T_Band), (⟨1, [], r_3, 10, 90⟩ : T_Band), (⟨0, [], r_4, 10, 1⟩ : T_Band)] : List T_Band).map A_Band) (some 2))
def p_bl7_later (N : Nat) (start_1 : Int) : Option (T_Band) := ((p_bl7_bands N).bind fun r_2 => ((getI r_2 1).bind fun x_3 => ((p_bl7_span N start_1 start_1).bind fun r_4 => some (⟨x_3.First, x_3.Path, r_4, x_3.Stay, x_3.People⟩ : T_Band))))
def v_bl7_later (r : T_Band) : AV := (A_Band r)
attribute [local simp] v_bl7_later
theorem b_bl7_later (r : T_Band) (n n2 m : Nat) : back n n2 m (v_bl7_later r) = some (v_bl7_later r) := by simp
theorem d_bl7_later (N : Nat) (start_1 : Int) (r : T_Band) (h : p_bl7_later N start_1 = some r) : Does Tryd.prog 52 [i6 start_1] [] fun v c => v = v_bl7_later r ∧ c = [] := by
 unfold p_bl7_later at h
 refine Does.ofL comp52 _ _ rfl rfl ?_
 refine Ex.seq (rg 1 [0, 2] (mkS 12 [(0, i6 start_1), (2, .ptr 0 0)]) ⟨[[i6 0, .nils, i6 0, i6 0, i6 0, i6 0]], []⟩ ?_)
 refine Ex.seq ?_
 obtain ⟨r_2, hr_2, h⟩ := bE h
 refine Ex.reg ?_
 refine ExO.callL [] [] rfl rfl (a_bl7_bands) rfl rfl (d_bl7_bands N r_2 hr_2) (b_bl7_bands _ _ _ _) rfl ?_
 obtain ⟨x_3, hx_3, h⟩ := bE h
 refine runH 4 [(0, .rop (C_Band x_3))] [0, 2, 3] [LGet (r_2.map A_Band) 1 6 (C_Band x_3)] (mkS 12 [(0, i6 start_1), (2, .ptr 0 0), (3, .ptr 1 0)]) (⟨[[i6 0, .nils, i6 0, i6 0, i6 0, i6 0], (C_Band x_3)], []⟩) (by kernel_rfl) ⟨LGet.of hx_3 rfl, trivial⟩ ?_
 refine ExO.nil ?_
 refine Ex.seq ?_
 obtain ⟨r_4, hr_4, h⟩ := bE h
 refine Ex.reg (rn 2 [2, 3, 7, 8] (mkS 12 [(2, .ptr 0 0), (3, .ptr 1 0), (7, i6 start_1), (8, i6 start_1)]) ⟨[[i6 0, .nils, i6 0, i6 0, i6 0, i6 0], (C_Band x_3)], []⟩ ?_)
 refine ExO.callL [] [i6 start_1, i6 start_1] rfl rfl (a_bl7_span start_1 start_1) rfl rfl (d_bl7_span N start_1 start_1 r_4 hr_4) (b_bl7_span _ _ _ _) rfl ?_
 refine rn 2 [2, 3] (mkS 12 [(2, .ptr 0 0), (3, .ptr 1 0)]) ⟨[[i6 0, .nils, i6 0, i6 0, i6 0, i6 0], [i6 x_3.First, .sl (x_3.Path.map (AV.int .i64)) none, i6 r_4.Lo, i6 r_4.Hi, i6 x_3.Stay, i6 x_3.People]], []⟩ ?_
 refine ExO.nil ?_
 refine Ex.seq (rg 2 [2] (mkS 12 [(2, .ptr 0 0)]) ⟨[[i6 x_3.First, .sl (x_3.Path.map (AV.int .i64)) none, i6 r_4.Lo, i6 r_4.Hi, i6 x_3.Stay, i6 x_3.People], [i6 x_3.First, .sl (x_3.Path.map (AV.int .i64)) none, i6 r_4.Lo, i6 r_4.Hi, i6 x_3.Stay, i6 x_3.People]], []⟩ ?_)
 refine Ex.ret ?_
 obtain rfl := sJ h
 exact rt (.agg [i6 x_3.First, .sl (x_3.Path.map (AV.int .i64)) none, i6 r_4.Lo, i6 r_4.Hi, i6 x_3.Stay, i6 x_3.People])
def p_bl7_awake (N : Nat)  : Option (Bool) := ((p_bl7_quarter N).bind fun r_1 => ((p_bl7_bands N).bind fun r_2 => ((p_band_Grant N r_1 r_2).bind fun r_3 => ((p_bl7_quarter N).bind fun r_4 => ((p_bl7_bands N).bind fun r_5 => ((getI r_5 0).bind fun x_6 => ((p_bl7_later N 60).bind fun r_7 => ((p_band_Cross N r_4 x_6 r_7).bind fun r_8 => ((p_bl7_quarter N).bind fun r_10 => ((p_bl7_bands N).bind fun r_11 => ((partI r_11 0 1).bind fun l_12 => ((p_band_Sleep N r_10 l_12 0).bind fun r_13 => (bif (r_3.2 == 0) then (bif (r_8.2 == 0) then (bif (r_13.2.2 == 0) then ((p_bk_EqErrors N r_3.1 [0, 10, 13, 11]).bind fun r_17 => (bif r_17 then (bif (r_8.1 == 3) then (bif (r_13.1 == 130) then some (r_13.2.1 == 590) else some false) else some false) else some false)) else some false) else some false) else some false)))))))))))))
def v_bl7_awake (r : Bool) : AV := .bool r
attribute [local simp] v_bl7_awake
theorem a_bl7_awake  : [].mapM (ren []) = some [] := by simp
theorem b_bl7_awake (r : Bool) (n n2 m : Nat) : back n n2 m (v_bl7_awake r) = some (v_bl7_awake r) := by simp
theorem d_bl7_awake (N : Nat)  (r : Bool) (h : p_bl7_awake N  = some r) : Does Tryd.prog 14 [] [] fun v c => v = v_bl7_awake r ∧ c = [] := by
 unfold p_bl7_awake at h
 refine Does.ofL comp14 _ _ rfl rfl ?_
 refine Ex.seq (rg 1 [] (mkS 58 []) ⟨[], []⟩ ?_)
 refine Ex.seq ?_
 obtain ⟨r_1, hr_1, h⟩ := bE h
 refine Ex.reg ?_
 refine ExO.callL [] [] rfl rfl (a_bl7_quarter) rfl rfl (d_bl7_quarter N r_1 hr_1) (b_bl7_quarter _ _ _ _) rfl ?_
 obtain ⟨r_2, hr_2, h⟩ := bE h
 refine ExO.callL [] [] rfl rfl (a_bl7_bands) rfl rfl (d_bl7_bands N r_2 hr_2) (b_bl7_bands _ _ _ _) rfl ?_
 obtain ⟨r_3, hr_3, h⟩ := bE h
 refine ExO.callL [] [(A_City r_1), .sl (r_2.map A_Band) none] rfl rfl (a_band_Grant r_1 r_2) rfl rfl (d_band_Grant N r_1 r_2 r_3 hr_3) (b_band_Grant _ _ _ _) rfl ?_
 refine rn 5 [1, 2] (mkS 58 [(1, .sl (r_3.1.map (AV.int .i64)) none), (2, i6 r_3.2)]) ⟨[], []⟩ ?_
 refine ExO.nil ?_
 refine Ex.seq ?_
 obtain ⟨r_4, hr_4, h⟩ := bE h
 obtain ⟨r_5, hr_5, h⟩ := bE h
 obtain ⟨x_6, hx_6, h⟩ := bE h
 obtain ⟨r_7, hr_7, h⟩ := bE h
 obtain ⟨r_8, hr_8, h⟩ := bE h
 have hT_9 : DoesA Tryd.prog [⟨50, [], [], (v_bl7_quarter r_4), []⟩, ⟨51, [], [], (v_bl7_bands r_5), []⟩, ⟨52, [i6 60], [], (v_bl7_later r_7), []⟩, ⟨32, [(A_City r_4), (A_Band x_6), (A_Band r_7)], [], (v_band_Cross r_8), []⟩] ∧ ConsA [⟨50, [], [], (v_bl7_quarter r_4), []⟩, ⟨51, [], [], (v_bl7_bands r_5), []⟩, ⟨52, [i6 60], [], (v_bl7_later r_7), []⟩, ⟨32, [(A_City r_4), (A_Band x_6), (A_Band r_7)], [], (v_band_Cross r_8), []⟩] := ⟨⟨(d_bl7_quarter N r_4 hr_4), rfl, (d_bl7_bands N r_5 hr_5), rfl, (d_bl7_later N 60 r_7 hr_7), rfl, (d_band_Cross N r_4 x_6 r_7 r_8 hr_8), rfl, trivial⟩, ⟨⟨ConsR.ne rfl, ConsR.ne rfl, ConsR.ne rfl, trivial⟩, ⟨ConsR.ne rfl, ConsR.ne rfl, trivial⟩, ⟨ConsR.ne rfl, trivial⟩, trivial, trivial⟩⟩
 refine Ex.drawE (a1 := mkS 58 [(1, .sl (r_3.1.map (AV.int .i64)) none), (2, i6 r_3.2), (3, i6 r_8.1), (14, .tup [i6 r_8.1, i6 r_8.2]), (15, (A_City r_4)), (16, .sl (r_5.map A_Band) none), (17, .rop (C_Band x_6)), (18, (A_Band x_6)), (19, (A_Band r_7)), (20, .tup [i6 r_8.1, i6 r_8.2]), (21, i6 r_8.1), (22, i6 r_8.2)]) (tabO_ok hT_9.1) [] [] [] ?_ ?_
 ·refine drC hT_9.2 0 _ [] (v_bl7_quarter r_4) rfl rfl rfl rfl rfl (fun _ => rfl) rfl (by simp; try rfl) (fun _ => b_bl7_quarter _ _ _ _) ?_
  refine drC hT_9.2 1 _ [] (v_bl7_bands r_5) rfl rfl rfl rfl rfl (fun _ => rfl) rfl (by simp; try rfl) (fun _ => b_bl7_bands _ _ _ _) ?_
  refine drS [] 2 [(0, .rop (C_Band x_6))] [LGet (r_5.map A_Band) 0 6 (C_Band x_6)] (mkS 58 [(1, .sl (r_3.1.map (AV.int .i64)) none), (2, i6 r_3.2), (15, (A_City r_4)), (16, .sl (r_5.map A_Band) none), (17, .rop (C_Band x_6)), (18, (A_Band x_6))]) (by simp) (by kernel_rfl) ⟨LGet.of hx_6 rfl, trivial⟩ (by kernel_rfl) ?_
  refine drC hT_9.2 2 _ [i6 60] (v_bl7_later r_7) rfl rfl rfl rfl rfl (fun _ => rfl) rfl (by simp; try rfl) (fun _ => b_bl7_later _ _ _ _) ?_
  refine drC hT_9.2 3 _ [(A_City r_4), (A_Band x_6), (A_Band r_7)] (v_band_Cross r_8) rfl rfl rfl rfl rfl (fun _ => rfl) rfl (by simp; try rfl) (fun _ => b_band_Cross _ _ _ _) ?_
  refine drS [] 4 [] [] (mkS 58 [(1, .sl (r_3.1.map (AV.int .i64)) none), (2, i6 r_3.2), (3, i6 r_8.1), (14, .tup [i6 r_8.1, i6 r_8.2]), (15, (A_City r_4)), (16, .sl (r_5.map A_Band) none), (17, .rop (C_Band x_6)), (18, (A_Band x_6)), (19, (A_Band r_7)), (20, .tup [i6 r_8.1, i6 r_8.2]), (21, i6 r_8.1), (22, i6 r_8.2)]) (by simp) (by kernel_rfl) trivial (by kernel_rfl) ?_
  exact DrO.nil rfl
 ·dsimp only [List.getLastD_cons, List.getLastD_nil]
  refine rn 1 [1, 2, 3, 4] (mkS 58 [(1, .sl (r_3.1.map (AV.int .i64)) none), (2, i6 r_3.2), (3, i6 r_8.1), (4, i6 r_8.2)]) ⟨[], []⟩ ?_
  refine ExO.nil ?_
  refine Ex.seq ?_
  obtain ⟨r_10, hr_10, h⟩ := bE h
  refine Ex.reg ?_
  refine ExO.callL [] [] rfl rfl (a_bl7_quarter) rfl rfl (d_bl7_quarter N r_10 hr_10) (b_bl7_quarter _ _ _ _) rfl ?_
  obtain ⟨r_11, hr_11, h⟩ := bE h
  refine ExO.callL [] [] rfl rfl (a_bl7_bands) rfl rfl (d_bl7_bands N r_11 hr_11) (b_bl7_bands _ _ _ _) rfl ?_
  obtain ⟨l_12, hl_12, h⟩ := bE h
  obtain ⟨r_13, hr_13, h⟩ := bE h
  refine runH 1 [(0, .sc (l_12.map A_Band))] [1, 2, 3, 4, 24, 26] [LSlc (r_11.map A_Band) none (some 1) 6 (l_12.map A_Band)] (mkS 58 [(1, .sl (r_3.1.map (AV.int .i64)) none), (2, i6 r_3.2), (3, i6 r_8.1), (4, i6 r_8.2), (24, (A_City r_10)), (26, .sl (l_12.map A_Band) none)]) (⟨[], []⟩) (by kernel_rfl) ⟨partI.ofR (f := A_Band) (fun _ => rfl) hl_12, trivial⟩ ?_
  refine ExO.callL [] [(A_City r_10), .sl (l_12.map A_Band) none, i6 0] rfl rfl (a_band_Sleep r_10 l_12 0) rfl rfl (d_band_Sleep N r_10 l_12 0 r_13 hr_13) (b_band_Sleep _ _ _ _) rfl ?_
  refine rn 7 [1, 2, 3, 4, 5, 6, 7] (mkS 58 [(1, .sl (r_3.1.map (AV.int .i64)) none), (2, i6 r_3.2), (3, i6 r_8.1), (4, i6 r_8.2), (5, i6 r_13.1), (6, i6 r_13.2.1), (7, i6 r_13.2.2)]) ⟨[], []⟩ ?_
  refine ExO.nil ?_
  refine Ex.seq ?_
  rcases condI h with ⟨hc_14, h⟩ | ⟨hc_14, h⟩
  ·rcases condI h with ⟨hc_15, h⟩ | ⟨hc_15, h⟩
   ·rcases condI h with ⟨hc_16, h⟩ | ⟨hc_16, h⟩
    ·obtain ⟨r_17, hr_17, h⟩ := bE h
     refine Ex.reg ?_
     refine runH 13 [(2, .eq (.bool true)), (6, .eq (.bool true)), (10, .eq (.bool true))] [3, 5, 6, 41, 42, 43] [AV.bool (r_3.2 == 0) = AV.bool true, AV.bool (r_8.2 == 0) = AV.bool true, AV.bool (r_13.2.2 == 0) = AV.bool true] (mkS 58 [(3, i6 r_8.1), (5, i6 r_13.1), (6, i6 r_13.2.1), (41, .bool true), (42, .sl (r_3.1.map (AV.int .i64)) none), (43, .sl (([0, 10, 13, 11] : List Int).map (AV.int .i64)) (some 0))]) (⟨[], [(4, 1)]⟩) (by kernel_rfl) ⟨congrArg AV.bool hc_14, congrArg AV.bool hc_15, congrArg AV.bool hc_16, trivial⟩ ?_
     refine ExO.callL [] [.sl (r_3.1.map (AV.int .i64)) none, .sl (([0, 10, 13, 11] : List Int).map (AV.int .i64)) (some 0)] rfl rfl (a_bk_EqErrors r_3.1 [0, 10, 13, 11]) rfl rfl (d_bk_EqErrors N r_3.1 [0, 10, 13, 11] r_17 hr_17) (b_bk_EqErrors _ _ _ _) rfl ?_
     rcases condI h with ⟨hc_18, h⟩ | ⟨hc_18, h⟩
     ·rcases condI h with ⟨hc_19, h⟩ | ⟨hc_19, h⟩
      ·rcases condI h with ⟨hc_20, h⟩ | ⟨hc_20, h⟩
       ·refine runH 14 [(1, .eq (.bool true)), (5, .eq (.bool true)), (9, .eq (.bool true))] [0] [AV.bool r_17 = AV.bool true, AV.bool (r_8.1 == 3) = AV.bool true, AV.bool (r_13.1 == 130) = AV.bool true] (mkS 58 [(0, .bool (r_13.2.1 == 590))]) (⟨[], [(4, 1)]⟩) (by kernel_rfl) ⟨congrArg AV.bool hc_18, congrArg AV.bool hc_19, congrArg AV.bool hc_20, trivial⟩ ?_
        refine ExO.nil ?_
        refine Ex.ret ?_
        obtain rfl := sJ h
        exact rt (.bool (r_13.2.1 == 590))
       ·refine runH 14 [(1, .eq (.bool true)), (5, .eq (.bool true)), (9, .eq (.bool false))] [0] [AV.bool r_17 = AV.bool true, AV.bool (r_8.1 == 3) = AV.bool true, AV.bool (r_13.1 == 130) = AV.bool false] (mkS 58 [(0, .bool false)]) (⟨[], [(4, 1)]⟩) (by kernel_rfl) ⟨congrArg AV.bool hc_18, congrArg AV.bool hc_19, congrArg AV.bool hc_20, trivial⟩ ?_
        refine ExO.nil ?_
        refine Ex.ret ?_
        obtain rfl := sJ h
        exact rt (.bool false)
      ·refine runH 14 [(1, .eq (.bool true)), (5, .eq (.bool false))] [0] [AV.bool r_17 = AV.bool true, AV.bool (r_8.1 == 3) = AV.bool false] (mkS 58 [(0, .bool false)]) (⟨[], [(4, 1)]⟩) (by kernel_rfl) ⟨congrArg AV.bool hc_18, congrArg AV.bool hc_19, trivial⟩ ?_
       refine ExO.nil ?_
       refine Ex.ret ?_
       obtain rfl := sJ h
       exact rt (.bool false)
     ·refine runH 14 [(1, .eq (.bool false))] [0] [AV.bool r_17 = AV.bool false] (mkS 58 [(0, .bool false)]) (⟨[], [(4, 1)]⟩) (by kernel_rfl) ⟨congrArg AV.bool hc_18, trivial⟩ ?_
      refine ExO.nil ?_
      refine Ex.ret ?_
      obtain rfl := sJ h
      exact rt (.bool false)
    ·refine regH 28 [(2, .eq (.bool true)), (6, .eq (.bool true)), (10, .eq (.bool false))] [0] [AV.bool (r_3.2 == 0) = AV.bool true, AV.bool (r_8.2 == 0) = AV.bool true, AV.bool (r_13.2.2 == 0) = AV.bool false] (mkS 58 [(0, .bool false)]) (⟨[], []⟩) (by kernel_rfl) ⟨congrArg AV.bool hc_14, congrArg AV.bool hc_15, congrArg AV.bool hc_16, trivial⟩ rfl ?_
     refine Ex.ret ?_
     obtain rfl := sJ h
     exact rt (.bool false)
   ·refine regH 28 [(2, .eq (.bool true)), (6, .eq (.bool false))] [0] [AV.bool (r_3.2 == 0) = AV.bool true, AV.bool (r_8.2 == 0) = AV.bool false] (mkS 58 [(0, .bool false)]) (⟨[], []⟩) (by kernel_rfl) ⟨congrArg AV.bool hc_14, congrArg AV.bool hc_15, trivial⟩ rfl ?_
    refine Ex.ret ?_
    obtain rfl := sJ h
    exact rt (.bool false)
  ·refine regH 28 [(2, .eq (.bool false))] [0] [AV.bool (r_3.2 == 0) = AV.bool false] (mkS 58 [(0, .bool false)]) (⟨[], []⟩) (by kernel_rfl) ⟨congrArg AV.bool hc_14, trivial⟩ rfl ?_
   refine Ex.ret ?_
   obtain rfl := sJ h
   exact rt (.bool false)
end Go.Proofs.YtkchfjblcfbajaaDoor
end
section
namespace Go.Proofs.YtkchfjblcfbajaaDoor
open Go.RowKit
attribute [local simp] ren ren1 AV.plain AV.plain1 AV.clean cleanL cleanI cleanBo cleanSt cleanII plFB clFB faFB KL_bk_Drum KL_Span KL_Street KL_Group KL_Town KL_City KL_Band KL_band_tour KL_band_visit KL_V12_bool KL_band_requests KL_band_request A_bk_Drum C_bk_Drum A_Span C_Span A_Street C_Street A_Group C_Group A_Town C_Town A_City C_City A_Band C_Band A_band_tour C_band_tour A_band_visit C_band_visit A_V12_bool C_V12_bool A_band_requests C_band_requests A_band_request C_band_request back back1 re re1 List.idxOf? List.findIdx? List.findIdx?.go KB_bk_Drum KB_Span KB_Street KB_Group KB_Town KB_City KB_Band KB_band_tour KB_band_visit KB_V12_bool KB_band_requests KB_band_request fadeS fadeV
def p_bl7_crossed (N : Nat) (c_1 : T_City) (a_2 : T_Band) (b_3 : T_Band) (m_4 : Int) (n_5 : Int) : Option (Bool) := ((p_band_Squares N c_1 a_2).bind fun r_6 => ((p_band_Squares N c_1 b_3).bind fun r_7 => (letJ (fun (_ : Unit) => some false) (fun k_8 => (loop1 (fun rec_12 (minute_11 : Int) => (bif (decide (minute_11 < 720)) then (letJ (fun (_ : Unit) => (rec_12 (IntKind.i64.wrap (minute_11 + 1)))) (fun k_16 => ((nzI a_2.Stay).bind fun u_19 => (letJ (fun (y_20 : Bool) => (bif y_20 then (k_16 ()) else (letJ (fun (_ : Unit) => ((nzI b_3.Stay).bind fun u_44 => (letJ (fun (y_45 : Bool) => (bif y_45 then some true else (k_16 ()))) (fun k_46 => (bif (decide (minute_11 > m_4)) then ((nzI a_2.Stay).bind fun u_50 => (bif ((Int.tmod (IntKind.i64.wrap (minute_11 - m_4)) a_2.Stay) == 0) then (bif (decide (minute_11 > n_5)) then ((nzI b_3.Stay).bind fun u_53 => (bif ((Int.tmod (IntKind.i64.wrap (minute_11 - n_5)) b_3.Stay) == 0) then (bif (decide ((IntKind.i64.wrap (Int.tdiv (IntKind.i64.wrap (minute_11 - n_5)) b_3.Stay)) < ((r_7.1.length : Nat) : Int))) then ((getI a_2.Path (IntKind.i64.wrap ((IntKind.i64.wrap (Int.tdiv (IntKind.i64.wrap (minute_11 - m_4)) a_2.Stay)) - 1))).bind fun x_56 => ((getI b_3.Path (IntKind.i64.wrap ((IntKind.i64.wrap (Int.tdiv (IntKind.i64.wrap (minute_11 - n_5)) b_3.Stay)) - 1))).bind fun x_57 => (k_46 (x_56 == x_57)))) else (k_46 false)) else (k_46 false))) else (k_46 false)) else (k_46 false))) else (k_46 false)))))) (fun k_26 => (loop1 (fun rec_30 (other_29 : Int) => (bif (decide (other_29 ≤ (IntKind.i64.wrap (minute_11 + c_1.Break)))) then ((nzI b_3.Stay).bind fun u_34 => (letJ (fun (y_35 : Bool) => (bif y_35 then some true else (rec_30 (IntKind.i64.wrap (other_29 + 1))))) (fun k_36 => (bif (decide (other_29 ≥ n_5)) then (bif (decide ((IntKind.i64.wrap (Int.tdiv (IntKind.i64.wrap (other_29 - n_5)) b_3.Stay)) < ((r_7.1.length : Nat) : Int))) then ((getI r_6.1 (IntKind.i64.wrap (Int.tdiv (IntKind.i64.wrap (minute_11 - m_4)) a_2.Stay))).bind fun x_41 => ((getI r_7.1 (IntKind.i64.wrap (Int.tdiv (IntKind.i64.wrap (other_29 - n_5)) b_3.Stay))).bind fun x_42 => (k_36 (x_41 == x_42)))) else (k_36 false)) else (k_36 false))))) else (k_26 ()))) N (if (IntKind.i64.wrap (minute_11 - c_1.Break)) > 0 then (IntKind.i64.wrap (minute_11 - c_1.Break)) else 0)))))) (fun k_21 => (bif (decide (minute_11 < m_4)) then (k_21 true) else (k_21 (decide ((IntKind.i64.wrap (Int.tdiv (IntKind.i64.wrap (minute_11 - m_4)) a_2.Stay)) ≥ ((r_6.1.length : Nat) : Int)))))))))) else (k_8 ()))) N 0)))))
def v_bl7_crossed (r : Bool) : AV := .bool r
attribute [local simp] v_bl7_crossed
theorem a_bl7_crossed (c_1 : T_City) (a_2 : T_Band) (b_3 : T_Band) (m_4 : Int) (n_5 : Int) : [(A_City c_1), (A_Band a_2), (A_Band b_3), i6 m_4, i6 n_5].mapM (ren []) = some [(A_City c_1), (A_Band a_2), (A_Band b_3), i6 m_4, i6 n_5] := by simp
theorem b_bl7_crossed (r : Bool) (n n2 m : Nat) : back n n2 m (v_bl7_crossed r) = some (v_bl7_crossed r) := by simp
theorem d_bl7_crossed (N : Nat) (c_1 : T_City) (a_2 : T_Band) (b_3 : T_Band) (m_4 : Int) (n_5 : Int) (r : Bool) (h : p_bl7_crossed N c_1 a_2 b_3 m_4 n_5 = some r) : Does Tryd.prog 38 [(A_City c_1), (A_Band a_2), (A_Band b_3), i6 m_4, i6 n_5] [] fun v c => v = v_bl7_crossed r ∧ c = [] := by
 unfold p_bl7_crossed at h
 refine Does.ofL comp38 _ _ rfl rfl ?_
 refine Ex.seq (rg 4 [3, 4, 5, 6, 7] (mkS 142 [(3, i6 m_4), (4, i6 n_5), (5, .ptr 0 0), (6, .ptr 1 0), (7, .ptr 2 0)]) ⟨[(C_City c_1), (C_Band a_2), (C_Band b_3)], []⟩ ?_)
 refine Ex.seq ?_
 obtain ⟨r_6, hr_6, h⟩ := bE h
 refine Ex.reg (rn 2 [3, 4, 5, 6, 7, 20, 21] (mkS 142 [(3, i6 m_4), (4, i6 n_5), (5, .ptr 0 0), (6, .ptr 1 0), (7, .ptr 2 0), (20, (A_City c_1)), (21, (A_Band a_2))]) ⟨[(C_City c_1), (C_Band a_2), (C_Band b_3)], []⟩ ?_)
 refine ExO.callL [] [(A_City c_1), (A_Band a_2)] rfl rfl (a_band_Squares c_1 a_2) rfl rfl (d_band_Squares N c_1 a_2 r_6 hr_6) (b_band_Squares _ _ _ _) rfl ?_
 refine rn 5 [3, 4, 5, 6, 7, 11] (mkS 142 [(3, i6 m_4), (4, i6 n_5), (5, .ptr 0 0), (6, .ptr 1 0), (7, .ptr 2 0), (11, .sl (r_6.1.map (AV.int .i64)) none)]) ⟨[(C_City c_1), (C_Band a_2), (C_Band b_3)], []⟩ ?_
 refine ExO.nil ?_
 refine Ex.seq ?_
 obtain ⟨r_7, hr_7, h⟩ := bE h
 refine Ex.reg (rn 2 [3, 4, 5, 6, 7, 11, 26, 27] (mkS 142 [(3, i6 m_4), (4, i6 n_5), (5, .ptr 0 0), (6, .ptr 1 0), (7, .ptr 2 0), (11, .sl (r_6.1.map (AV.int .i64)) none), (26, (A_City c_1)), (27, (A_Band b_3))]) ⟨[(C_City c_1), (C_Band a_2), (C_Band b_3)], []⟩ ?_)
 refine ExO.callL [] [(A_City c_1), (A_Band b_3)] rfl rfl (a_band_Squares c_1 b_3) rfl rfl (d_band_Squares N c_1 b_3 r_7 hr_7) (b_band_Squares _ _ _ _) rfl ?_
 refine rn 5 [3, 4, 5, 6, 7, 11, 13] (mkS 142 [(3, i6 m_4), (4, i6 n_5), (5, .ptr 0 0), (6, .ptr 1 0), (7, .ptr 2 0), (11, .sl (r_6.1.map (AV.int .i64)) none), (13, .sl (r_7.1.map (AV.int .i64)) none)]) ⟨[(C_City c_1), (C_Band a_2), (C_Band b_3)], []⟩ ?_
 refine ExO.nil ?_
 refine Ex.seq (Ex.seq ?_)
 refine rg 1 [3, 4, 5, 6, 7, 11, 13, 15] (mkS 142 [(3, i6 m_4), (4, i6 n_5), (5, .ptr 0 0), (6, .ptr 1 0), (7, .ptr 2 0), (11, .sl (r_6.1.map (AV.int .i64)) none), (13, .sl (r_7.1.map (AV.int .i64)) none), (15, i6 0)]) ⟨[(C_City c_1), (C_Band a_2), (C_Band b_3)], []⟩ ?_
 obtain ⟨K_9, hK_10, h⟩ := letE h
 refine Ex.blockJ (fun a S => K_9 () = some r ∧ a = mkS 142 [] ∧ S = ⟨[], []⟩) ?_ ?_
 ·obtain ⟨B_13, hB_14, h⟩ := loop1I h
  refine Ex.loopF (fun k a S => ∃ (minute_11 : Int), loop1 B_13 k minute_11 = some r ∧ a = mkS 142 [(3, i6 m_4), (4, i6 n_5), (5, .ptr 0 0), (6, .ptr 1 0), (7, .ptr 2 0), (11, .sl (r_6.1.map (AV.int .i64)) none), (13, .sl (r_7.1.map (AV.int .i64)) none), (15, i6 minute_11)] ∧ S = ⟨[(C_City c_1), (C_Band a_2), (C_Band b_3)], []⟩) N ⟨_, _, Forgets.refl _ _ _, 0, h, rfl, rfl⟩ ?_
  rintro k a S ⟨minute_11, h, rfl, rfl⟩
  cases k with
  | zero => exact (loop1Z h).elim
  | succ k =>
   replace h := loop1S h hB_14
   refine Ex.seq (Ex.seq ?_)
   refine rg 2 [3, 4, 5, 6, 7, 11, 13, 15, 32] (mkS 142 [(3, i6 m_4), (4, i6 n_5), (5, .ptr 0 0), (6, .ptr 1 0), (7, .ptr 2 0), (11, .sl (r_6.1.map (AV.int .i64)) none), (13, .sl (r_7.1.map (AV.int .i64)) none), (15, i6 minute_11), (32, .bool (decide (minute_11 < 720)))]) ⟨[(C_City c_1), (C_Band a_2), (C_Band b_3)], []⟩ ?_
   rcases condI h with ⟨hc_15, h⟩ | ⟨hc_15, h⟩
   ·refine Ex.condT _ rfl hc_15 ?_
    refine Ex.skip ?_
    refine Ex.seq ?_
    obtain ⟨K_17, hK_18, h⟩ := letE h
    refine Ex.blockJ (fun a S => K_17 () = some r ∧ a = mkS 142 [(3, i6 m_4), (4, i6 n_5), (5, .ptr 0 0), (6, .ptr 1 0), (7, .ptr 2 0), (11, .sl (r_6.1.map (AV.int .i64)) none), (13, .sl (r_7.1.map (AV.int .i64)) none), (15, i6 minute_11)] ∧ S = ⟨[(C_City c_1), (C_Band a_2), (C_Band b_3)], []⟩) ?_ ?_
    ·refine Ex.seq ?_
     obtain ⟨u_19, hu_19, h⟩ := bE h
     refine regH 8 [(5, .bin (i6 (IntKind.i64.wrap (Int.tdiv (IntKind.i64.wrap (minute_11 - m_4)) a_2.Stay))))] [3, 4, 5, 6, 7, 11, 13, 15, 16] [binA .quo (i6 (IntKind.i64.wrap (minute_11 - m_4))) (i6 a_2.Stay) = some (i6 (IntKind.i64.wrap (Int.tdiv (IntKind.i64.wrap (minute_11 - m_4)) a_2.Stay)))] (mkS 142 [(3, i6 m_4), (4, i6 n_5), (5, .ptr 0 0), (6, .ptr 1 0), (7, .ptr 2 0), (11, .sl (r_6.1.map (AV.int .i64)) none), (13, .sl (r_7.1.map (AV.int .i64)) none), (15, i6 minute_11), (16, i6 (IntKind.i64.wrap (Int.tdiv (IntKind.i64.wrap (minute_11 - m_4)) a_2.Stay)))]) (⟨[(C_City c_1), (C_Band a_2), (C_Band b_3)], []⟩) (by kernel_rfl) ⟨binQ hu_19, trivial⟩ rfl ?_
     refine Ex.seq ?_
     obtain ⟨K_22, hK_23, h⟩ := letE h
     refine Ex.seqJ (fun a S => ∃ (y_20 : Bool), K_22 y_20 = some r ∧ a = mkS 142 [(3, i6 m_4), (4, i6 n_5), (5, .ptr 0 0), (6, .ptr 1 0), (7, .ptr 2 0), (11, .sl (r_6.1.map (AV.int .i64)) none), (13, .sl (r_7.1.map (AV.int .i64)) none), (15, i6 minute_11), (16, i6 (IntKind.i64.wrap (Int.tdiv (IntKind.i64.wrap (minute_11 - m_4)) a_2.Stay))), (49, .bool y_20)] ∧ S = ⟨[(C_City c_1), (C_Band a_2), (C_Band b_3)], []⟩) ?_ ?_
     ·rcases condI h with ⟨hc_24, h⟩ | ⟨hc_24, h⟩
      ·refine regH 9 [(3, .eq (.bool true))] [3, 4, 5, 6, 7, 11, 13, 15, 16, 49] [AV.bool (decide (minute_11 < m_4)) = AV.bool true] (mkS 142 [(3, i6 m_4), (4, i6 n_5), (5, .ptr 0 0), (6, .ptr 1 0), (7, .ptr 2 0), (11, .sl (r_6.1.map (AV.int .i64)) none), (13, .sl (r_7.1.map (AV.int .i64)) none), (15, i6 minute_11), (16, i6 (IntKind.i64.wrap (Int.tdiv (IntKind.i64.wrap (minute_11 - m_4)) a_2.Stay))), (49, .bool true)]) (⟨[(C_City c_1), (C_Band a_2), (C_Band b_3)], []⟩) (by kernel_rfl) ⟨congrArg AV.bool hc_24, trivial⟩ rfl ?_
       (try simp only [reduceCtorEq, AEx.ex.injEq, Nat.reduceEqDiff, if_true, if_false])
       exact ⟨_, _, Forgets.refl _ _ _, true, h, rfl, rfl⟩
      ·refine regH 9 [(3, .eq (.bool false)), (6, .eq (i6 ((r_6.1.length : Nat) : Int)))] [3, 4, 5, 6, 7, 11, 13, 15, 16, 49] [AV.bool (decide (minute_11 < m_4)) = AV.bool false, AV.int .i64 (((r_6.1.map (AV.int .i64)).length : Nat) : Int) = AV.int .i64 ((r_6.1.length : Nat) : Int)] (mkS 142 [(3, i6 m_4), (4, i6 n_5), (5, .ptr 0 0), (6, .ptr 1 0), (7, .ptr 2 0), (11, .sl (r_6.1.map (AV.int .i64)) none), (13, .sl (r_7.1.map (AV.int .i64)) none), (15, i6 minute_11), (16, i6 (IntKind.i64.wrap (Int.tdiv (IntKind.i64.wrap (minute_11 - m_4)) a_2.Stay))), (49, .bool (decide ((IntKind.i64.wrap (Int.tdiv (IntKind.i64.wrap (minute_11 - m_4)) a_2.Stay)) ≥ ((r_6.1.length : Nat) : Int))))]) (⟨[(C_City c_1), (C_Band a_2), (C_Band b_3)], []⟩) (by kernel_rfl) ⟨congrArg AV.bool hc_24, lenM _ _, trivial⟩ rfl ?_
       (try simp only [reduceCtorEq, AEx.ex.injEq, Nat.reduceEqDiff, if_true, if_false])
       exact ⟨_, _, Forgets.refl _ _ _, (decide ((IntKind.i64.wrap (Int.tdiv (IntKind.i64.wrap (minute_11 - m_4)) a_2.Stay)) ≥ ((r_6.1.length : Nat) : Int))), h, rfl, rfl⟩
     ·rintro a S ⟨y_20, h, rfl, rfl⟩
      subst hK_23
      rcases condI h with ⟨hc_25, h⟩ | ⟨hc_25, h⟩
      ·refine Ex.condT _ rfl hc_25 ?_
       refine Ex.exit ?_
       (try simp only [reduceCtorEq, AEx.ex.injEq, Nat.reduceEqDiff, if_true, if_false])
       exact ⟨_, _, forgetK [3, 4, 5, 6, 7, 11, 13, 15], h, rfl, rfl⟩
      ·refine Ex.condF _ rfl hc_25 ?_
       refine Ex.skip ?_
       refine Ex.seq (Ex.seq ?_)
       refine rg 6 [3, 4, 5, 6, 7, 11, 13, 15, 16, 18] (mkS 142 [(3, i6 m_4), (4, i6 n_5), (5, .ptr 0 0), (6, .ptr 1 0), (7, .ptr 2 0), (11, .sl (r_6.1.map (AV.int .i64)) none), (13, .sl (r_7.1.map (AV.int .i64)) none), (15, i6 minute_11), (16, i6 (IntKind.i64.wrap (Int.tdiv (IntKind.i64.wrap (minute_11 - m_4)) a_2.Stay))), (18, i6 (if (IntKind.i64.wrap (minute_11 - c_1.Break)) > 0 then (IntKind.i64.wrap (minute_11 - c_1.Break)) else 0))]) ⟨[(C_City c_1), (C_Band a_2), (C_Band b_3)], []⟩ ?_
       obtain ⟨K_27, hK_28, h⟩ := letE h
       refine Ex.blockJ (fun a S => K_27 () = some r ∧ a = mkS 142 [(3, i6 m_4), (4, i6 n_5), (5, .ptr 0 0), (6, .ptr 1 0), (7, .ptr 2 0), (11, .sl (r_6.1.map (AV.int .i64)) none), (13, .sl (r_7.1.map (AV.int .i64)) none), (15, i6 minute_11), (16, i6 (IntKind.i64.wrap (Int.tdiv (IntKind.i64.wrap (minute_11 - m_4)) a_2.Stay)))] ∧ S = ⟨[(C_City c_1), (C_Band a_2), (C_Band b_3)], []⟩) ?_ ?_
       ·obtain ⟨B_31, hB_32, h⟩ := loop1I h
        refine Ex.loopF (fun k a S => ∃ (other_29 : Int), loop1 B_31 k other_29 = some r ∧ a = mkS 142 [(3, i6 m_4), (4, i6 n_5), (5, .ptr 0 0), (6, .ptr 1 0), (7, .ptr 2 0), (11, .sl (r_6.1.map (AV.int .i64)) none), (13, .sl (r_7.1.map (AV.int .i64)) none), (15, i6 minute_11), (16, i6 (IntKind.i64.wrap (Int.tdiv (IntKind.i64.wrap (minute_11 - m_4)) a_2.Stay))), (18, i6 other_29)] ∧ S = ⟨[(C_City c_1), (C_Band a_2), (C_Band b_3)], []⟩) N ⟨_, _, Forgets.refl _ _ _, (if (IntKind.i64.wrap (minute_11 - c_1.Break)) > 0 then (IntKind.i64.wrap (minute_11 - c_1.Break)) else 0), h, rfl, rfl⟩ ?_
        rintro k a S ⟨other_29, h, rfl, rfl⟩
        cases k with
        | zero => exact (loop1Z h).elim
        | succ k =>
         replace h := loop1S h hB_32
         refine Ex.seq (Ex.seq ?_)
         refine rg 6 [3, 4, 5, 6, 7, 11, 13, 15, 16, 18, 60] (mkS 142 [(3, i6 m_4), (4, i6 n_5), (5, .ptr 0 0), (6, .ptr 1 0), (7, .ptr 2 0), (11, .sl (r_6.1.map (AV.int .i64)) none), (13, .sl (r_7.1.map (AV.int .i64)) none), (15, i6 minute_11), (16, i6 (IntKind.i64.wrap (Int.tdiv (IntKind.i64.wrap (minute_11 - m_4)) a_2.Stay))), (18, i6 other_29), (60, .bool (decide (other_29 ≤ (IntKind.i64.wrap (minute_11 + c_1.Break)))))]) ⟨[(C_City c_1), (C_Band a_2), (C_Band b_3)], []⟩ ?_
         rcases condI h with ⟨hc_33, h⟩ | ⟨hc_33, h⟩
         ·refine Ex.condT _ rfl hc_33 ?_
          refine Ex.skip ?_
          refine Ex.seq ?_
          refine Ex.blockK ?_
          refine Ex.seq ?_
          obtain ⟨u_34, hu_34, h⟩ := bE h
          refine regH 7 [(5, .bin (i6 (IntKind.i64.wrap (Int.tdiv (IntKind.i64.wrap (other_29 - n_5)) b_3.Stay))))] [3, 4, 5, 6, 7, 11, 13, 15, 16, 17, 18] [binA .quo (i6 (IntKind.i64.wrap (other_29 - n_5))) (i6 b_3.Stay) = some (i6 (IntKind.i64.wrap (Int.tdiv (IntKind.i64.wrap (other_29 - n_5)) b_3.Stay)))] (mkS 142 [(3, i6 m_4), (4, i6 n_5), (5, .ptr 0 0), (6, .ptr 1 0), (7, .ptr 2 0), (11, .sl (r_6.1.map (AV.int .i64)) none), (13, .sl (r_7.1.map (AV.int .i64)) none), (15, i6 minute_11), (16, i6 (IntKind.i64.wrap (Int.tdiv (IntKind.i64.wrap (minute_11 - m_4)) a_2.Stay))), (17, i6 (IntKind.i64.wrap (Int.tdiv (IntKind.i64.wrap (other_29 - n_5)) b_3.Stay))), (18, i6 other_29)]) (⟨[(C_City c_1), (C_Band a_2), (C_Band b_3)], []⟩) (by kernel_rfl) ⟨binQ hu_34, trivial⟩ rfl ?_
          obtain ⟨K_37, hK_38, h⟩ := letE h
          refine Ex.seqJ (fun a S => ∃ (y_35 : Bool), K_37 y_35 = some r ∧ a = mkS 142 [(3, i6 m_4), (4, i6 n_5), (5, .ptr 0 0), (6, .ptr 1 0), (7, .ptr 2 0), (11, .sl (r_6.1.map (AV.int .i64)) none), (13, .sl (r_7.1.map (AV.int .i64)) none), (15, i6 minute_11), (16, i6 (IntKind.i64.wrap (Int.tdiv (IntKind.i64.wrap (minute_11 - m_4)) a_2.Stay))), (18, i6 other_29), (88, .bool y_35)] ∧ S = ⟨[(C_City c_1), (C_Band a_2), (C_Band b_3)], []⟩) ?_ ?_
          ·rcases condI h with ⟨hc_39, h⟩ | ⟨hc_39, h⟩
           ·rcases condI h with ⟨hc_40, h⟩ | ⟨hc_40, h⟩
            ·obtain ⟨x_41, hx_41, h⟩ := bE h
             obtain ⟨x_42, hx_42, h⟩ := bE h
             refine Ex.drawE (a1 := mkS 142 [(3, i6 m_4), (4, i6 n_5), (5, .ptr 0 0), (6, .ptr 1 0), (7, .ptr 2 0), (11, .sl (r_6.1.map (AV.int .i64)) none), (13, .sl (r_7.1.map (AV.int .i64)) none), (15, i6 minute_11), (16, i6 (IntKind.i64.wrap (Int.tdiv (IntKind.i64.wrap (minute_11 - m_4)) a_2.Stay))), (17, i6 (IntKind.i64.wrap (Int.tdiv (IntKind.i64.wrap (other_29 - n_5)) b_3.Stay))), (18, i6 other_29), (69, i6 other_29), (70, i6 n_5), (71, .bool (decide (other_29 ≥ n_5))), (72, .bool true), (73, i6 (IntKind.i64.wrap (Int.tdiv (IntKind.i64.wrap (other_29 - n_5)) b_3.Stay))), (74, .sl (r_7.1.map (AV.int .i64)) none), (75, i6 ((r_7.1.length : Nat) : Int)), (76, .bool (decide ((IntKind.i64.wrap (Int.tdiv (IntKind.i64.wrap (other_29 - n_5)) b_3.Stay)) < ((r_7.1.length : Nat) : Int)))), (77, .bool (decide ((IntKind.i64.wrap (Int.tdiv (IntKind.i64.wrap (other_29 - n_5)) b_3.Stay)) < ((r_7.1.length : Nat) : Int)))), (78, .bool true), (79, .sl (r_6.1.map (AV.int .i64)) none), (80, i6 (IntKind.i64.wrap (Int.tdiv (IntKind.i64.wrap (minute_11 - m_4)) a_2.Stay))), (81, .rop [i6 x_41]), (82, i6 x_41), (83, .sl (r_7.1.map (AV.int .i64)) none), (84, i6 (IntKind.i64.wrap (Int.tdiv (IntKind.i64.wrap (other_29 - n_5)) b_3.Stay))), (85, .rop [i6 x_42]), (86, i6 x_42)]) (noClr_ok _) [] [] [] ?_ ?_
             ·refine drS [0, 1, 2] 18 [(3, .eq (.bool true)), (6, .eq (i6 ((r_7.1.length : Nat) : Int))), (9, .eq (.bool true)), (12, .rop [i6 x_41]), (16, .rop [i6 x_42])] [AV.bool (decide (other_29 ≥ n_5)) = AV.bool true, AV.int .i64 (((r_7.1.map (AV.int .i64)).length : Nat) : Int) = AV.int .i64 ((r_7.1.length : Nat) : Int), AV.bool (decide ((IntKind.i64.wrap (Int.tdiv (IntKind.i64.wrap (other_29 - n_5)) b_3.Stay)) < ((r_7.1.length : Nat) : Int))) = AV.bool true, LGet (r_6.1.map (AV.int .i64)) (IntKind.i64.wrap (Int.tdiv (IntKind.i64.wrap (minute_11 - m_4)) a_2.Stay)) 1 [i6 x_41], LGet (r_7.1.map (AV.int .i64)) (IntKind.i64.wrap (Int.tdiv (IntKind.i64.wrap (other_29 - n_5)) b_3.Stay)) 1 [i6 x_42]] (mkS 142 [(3, i6 m_4), (4, i6 n_5), (5, .ptr 0 0), (6, .ptr 1 0), (7, .ptr 2 0), (11, .sl (r_6.1.map (AV.int .i64)) none), (13, .sl (r_7.1.map (AV.int .i64)) none), (15, i6 minute_11), (16, i6 (IntKind.i64.wrap (Int.tdiv (IntKind.i64.wrap (minute_11 - m_4)) a_2.Stay))), (17, i6 (IntKind.i64.wrap (Int.tdiv (IntKind.i64.wrap (other_29 - n_5)) b_3.Stay))), (18, i6 other_29), (69, i6 other_29), (70, i6 n_5), (71, .bool (decide (other_29 ≥ n_5))), (72, .bool true), (73, i6 (IntKind.i64.wrap (Int.tdiv (IntKind.i64.wrap (other_29 - n_5)) b_3.Stay))), (74, .sl (r_7.1.map (AV.int .i64)) none), (75, i6 ((r_7.1.length : Nat) : Int)), (76, .bool (decide ((IntKind.i64.wrap (Int.tdiv (IntKind.i64.wrap (other_29 - n_5)) b_3.Stay)) < ((r_7.1.length : Nat) : Int)))), (77, .bool (decide ((IntKind.i64.wrap (Int.tdiv (IntKind.i64.wrap (other_29 - n_5)) b_3.Stay)) < ((r_7.1.length : Nat) : Int)))), (78, .bool true), (79, .sl (r_6.1.map (AV.int .i64)) none), (80, i6 (IntKind.i64.wrap (Int.tdiv (IntKind.i64.wrap (minute_11 - m_4)) a_2.Stay))), (81, .rop [i6 x_41]), (82, i6 x_41), (83, .sl (r_7.1.map (AV.int .i64)) none), (84, i6 (IntKind.i64.wrap (Int.tdiv (IntKind.i64.wrap (other_29 - n_5)) b_3.Stay))), (85, .rop [i6 x_42]), (86, i6 x_42)]) (by simp) (by kernel_rfl) ⟨congrArg AV.bool hc_39, lenM _ _, congrArg AV.bool hc_40, LGet.of hx_41 rfl, LGet.of hx_42 rfl, trivial⟩ (by kernel_rfl) ?_
              exact DrO.nil rfl
             ·dsimp only [List.getLastD_cons, List.getLastD_nil]
              refine rn 2 [3, 4, 5, 6, 7, 11, 13, 15, 16, 18, 88] (mkS 142 [(3, i6 m_4), (4, i6 n_5), (5, .ptr 0 0), (6, .ptr 1 0), (7, .ptr 2 0), (11, .sl (r_6.1.map (AV.int .i64)) none), (13, .sl (r_7.1.map (AV.int .i64)) none), (15, i6 minute_11), (16, i6 (IntKind.i64.wrap (Int.tdiv (IntKind.i64.wrap (minute_11 - m_4)) a_2.Stay))), (18, i6 other_29), (88, .bool (x_41 == x_42))]) ⟨[(C_City c_1), (C_Band a_2), (C_Band b_3)], []⟩ ?_
              refine ExO.nil ?_
              (try simp only [reduceCtorEq, AEx.ex.injEq, Nat.reduceEqDiff, if_true, if_false])
              exact ⟨_, _, Forgets.refl _ _ _, (x_41 == x_42), h, rfl, rfl⟩
            ·refine dregX (noClr_ok _) [(3, .eq (.bool true)), (6, .eq (i6 ((r_7.1.length : Nat) : Int))), (9, .eq (.bool false))] [] [3, 4, 5, 6, 7, 11, 13, 15, 16, 18, 88] [AV.bool (decide (other_29 ≥ n_5)) = AV.bool true, AV.int .i64 (((r_7.1.map (AV.int .i64)).length : Nat) : Int) = AV.int .i64 ((r_7.1.length : Nat) : Int), AV.bool (decide ((IntKind.i64.wrap (Int.tdiv (IntKind.i64.wrap (other_29 - n_5)) b_3.Stay)) < ((r_7.1.length : Nat) : Int))) = AV.bool false] [] (mkS 142 [(3, i6 m_4), (4, i6 n_5), (5, .ptr 0 0), (6, .ptr 1 0), (7, .ptr 2 0), (11, .sl (r_6.1.map (AV.int .i64)) none), (13, .sl (r_7.1.map (AV.int .i64)) none), (15, i6 minute_11), (16, i6 (IntKind.i64.wrap (Int.tdiv (IntKind.i64.wrap (minute_11 - m_4)) a_2.Stay))), (17, i6 (IntKind.i64.wrap (Int.tdiv (IntKind.i64.wrap (other_29 - n_5)) b_3.Stay))), (18, i6 other_29), (69, i6 other_29), (70, i6 n_5), (71, .bool (decide (other_29 ≥ n_5))), (72, .bool true), (73, i6 (IntKind.i64.wrap (Int.tdiv (IntKind.i64.wrap (other_29 - n_5)) b_3.Stay))), (74, .sl (r_7.1.map (AV.int .i64)) none), (75, i6 ((r_7.1.length : Nat) : Int)), (76, .bool (decide ((IntKind.i64.wrap (Int.tdiv (IntKind.i64.wrap (other_29 - n_5)) b_3.Stay)) < ((r_7.1.length : Nat) : Int)))), (77, .bool (decide ((IntKind.i64.wrap (Int.tdiv (IntKind.i64.wrap (other_29 - n_5)) b_3.Stay)) < ((r_7.1.length : Nat) : Int)))), (78, .bool false), (79, .tup []), (80, .tup []), (81, .tup []), (82, .tup []), (83, .tup []), (84, .tup []), (85, .tup []), (86, .tup [])]) (mkS 142 [(3, i6 m_4), (4, i6 n_5), (5, .ptr 0 0), (6, .ptr 1 0), (7, .ptr 2 0), (11, .sl (r_6.1.map (AV.int .i64)) none), (13, .sl (r_7.1.map (AV.int .i64)) none), (15, i6 minute_11), (16, i6 (IntKind.i64.wrap (Int.tdiv (IntKind.i64.wrap (minute_11 - m_4)) a_2.Stay))), (18, i6 other_29), (88, .bool false)]) (by kernel_rfl) (by kernel_rfl) ⟨congrArg AV.bool hc_39, lenM _ _, congrArg AV.bool hc_40, trivial⟩ (by kernel_rfl) trivial ?_
             (try simp only [reduceCtorEq, AEx.ex.injEq, Nat.reduceEqDiff, if_true, if_false])
             exact ⟨_, _, Forgets.refl _ _ _, false, h, rfl, rfl⟩
           ·refine dregX (noClr_ok _) [(3, .eq (.bool false))] [] [3, 4, 5, 6, 7, 11, 13, 15, 16, 18, 88] [AV.bool (decide (other_29 ≥ n_5)) = AV.bool false] [] (mkS 142 [(3, i6 m_4), (4, i6 n_5), (5, .ptr 0 0), (6, .ptr 1 0), (7, .ptr 2 0), (11, .sl (r_6.1.map (AV.int .i64)) none), (13, .sl (r_7.1.map (AV.int .i64)) none), (15, i6 minute_11), (16, i6 (IntKind.i64.wrap (Int.tdiv (IntKind.i64.wrap (minute_11 - m_4)) a_2.Stay))), (17, i6 (IntKind.i64.wrap (Int.tdiv (IntKind.i64.wrap (other_29 - n_5)) b_3.Stay))), (18, i6 other_29), (69, i6 other_29), (70, i6 n_5), (71, .bool (decide (other_29 ≥ n_5))), (72, .bool false), (73, .tup []), (74, .tup []), (75, .tup []), (76, .tup []), (77, .bool false), (78, .bool false), (79, .tup []), (80, .tup []), (81, .tup []), (82, .tup []), (83, .tup []), (84, .tup []), (85, .tup []), (86, .tup [])]) (mkS 142 [(3, i6 m_4), (4, i6 n_5), (5, .ptr 0 0), (6, .ptr 1 0), (7, .ptr 2 0), (11, .sl (r_6.1.map (AV.int .i64)) none), (13, .sl (r_7.1.map (AV.int .i64)) none), (15, i6 minute_11), (16, i6 (IntKind.i64.wrap (Int.tdiv (IntKind.i64.wrap (minute_11 - m_4)) a_2.Stay))), (18, i6 other_29), (88, .bool false)]) (by kernel_rfl) (by kernel_rfl) ⟨congrArg AV.bool hc_39, trivial⟩ (by kernel_rfl) trivial ?_
            (try simp only [reduceCtorEq, AEx.ex.injEq, Nat.reduceEqDiff, if_true, if_false])
            exact ⟨_, _, Forgets.refl _ _ _, false, h, rfl, rfl⟩
          ·rintro a S ⟨y_35, h, rfl, rfl⟩
           subst hK_38
           rcases condI h with ⟨hc_43, h⟩ | ⟨hc_43, h⟩
           ·refine Ex.condT _ rfl hc_43 ?_
            refine Ex.seq (rg 1 [10] (mkS 142 [(10, .bool true)]) ⟨[(C_City c_1), (C_Band a_2), (C_Band b_3)], []⟩ ?_)
            refine Ex.ret ?_
            obtain rfl := sJ h
            exact rt (.bool true)
           ·refine Ex.condF _ rfl hc_43 ?_
            refine Ex.skip ?_
            refine rg 3 [3, 4, 5, 6, 7, 11, 13, 15, 16, 18] (mkS 142 [(3, i6 m_4), (4, i6 n_5), (5, .ptr 0 0), (6, .ptr 1 0), (7, .ptr 2 0), (11, .sl (r_6.1.map (AV.int .i64)) none), (13, .sl (r_7.1.map (AV.int .i64)) none), (15, i6 minute_11), (16, i6 (IntKind.i64.wrap (Int.tdiv (IntKind.i64.wrap (minute_11 - m_4)) a_2.Stay))), (18, i6 (IntKind.i64.wrap (other_29 + 1)))]) ⟨[(C_City c_1), (C_Band a_2), (C_Band b_3)], []⟩ ?_
            dsimp only
            exact ⟨_, _, Forgets.refl _ _ _, k, Nat.lt_succ_self k, (IntKind.i64.wrap (other_29 + 1)), h, rfl, rfl⟩
         ·refine Ex.condF _ rfl hc_33 ?_
          refine Ex.exit ?_
          (try simp only [reduceCtorEq, AEx.ex.injEq, Nat.reduceEqDiff, if_true, if_false])
          exact ⟨_, _, forgetK [3, 4, 5, 6, 7, 11, 13, 15, 16], h, rfl, rfl⟩
       ·rintro a S ⟨h, rfl, rfl⟩
        subst hK_28
        refine Ex.seq ?_
        obtain ⟨u_44, hu_44, h⟩ := bE h
        refine regH 7 [(5, .bin (i6 (IntKind.i64.wrap (Int.tdiv (IntKind.i64.wrap (minute_11 - n_5)) b_3.Stay))))] [3, 4, 5, 6, 7, 11, 13, 15, 16, 17] [binA .quo (i6 (IntKind.i64.wrap (minute_11 - n_5))) (i6 b_3.Stay) = some (i6 (IntKind.i64.wrap (Int.tdiv (IntKind.i64.wrap (minute_11 - n_5)) b_3.Stay)))] (mkS 142 [(3, i6 m_4), (4, i6 n_5), (5, .ptr 0 0), (6, .ptr 1 0), (7, .ptr 2 0), (11, .sl (r_6.1.map (AV.int .i64)) none), (13, .sl (r_7.1.map (AV.int .i64)) none), (15, i6 minute_11), (16, i6 (IntKind.i64.wrap (Int.tdiv (IntKind.i64.wrap (minute_11 - m_4)) a_2.Stay))), (17, i6 (IntKind.i64.wrap (Int.tdiv (IntKind.i64.wrap (minute_11 - n_5)) b_3.Stay)))]) (⟨[(C_City c_1), (C_Band a_2), (C_Band b_3)], []⟩) (by kernel_rfl) ⟨binQ hu_44, trivial⟩ rfl ?_
        obtain ⟨K_47, hK_48, h⟩ := letE h
        refine Ex.seqJ (fun a S => ∃ (y_45 : Bool), K_47 y_45 = some r ∧ a = mkS 142 [(3, i6 m_4), (4, i6 n_5), (5, .ptr 0 0), (6, .ptr 1 0), (7, .ptr 2 0), (11, .sl (r_6.1.map (AV.int .i64)) none), (13, .sl (r_7.1.map (AV.int .i64)) none), (15, i6 minute_11), (141, .bool y_45)] ∧ S = ⟨[(C_City c_1), (C_Band a_2), (C_Band b_3)], []⟩) ?_ ?_
        ·rcases condI h with ⟨hc_49, h⟩ | ⟨hc_49, h⟩
         ·obtain ⟨u_50, hu_50, h⟩ := bE h
          rcases condI h with ⟨hc_51, h⟩ | ⟨hc_51, h⟩
          ·rcases condI h with ⟨hc_52, h⟩ | ⟨hc_52, h⟩
           ·obtain ⟨u_53, hu_53, h⟩ := bE h
            rcases condI h with ⟨hc_54, h⟩ | ⟨hc_54, h⟩
            ·rcases condI h with ⟨hc_55, h⟩ | ⟨hc_55, h⟩
             ·obtain ⟨x_56, hx_56, h⟩ := bE h
              obtain ⟨x_57, hx_57, h⟩ := bE h
              refine Ex.drawE (a1 := mkS 142 [(3, i6 m_4), (4, i6 n_5), (5, .ptr 0 0), (6, .ptr 1 0), (7, .ptr 2 0), (11, .sl (r_6.1.map (AV.int .i64)) none), (13, .sl (r_7.1.map (AV.int .i64)) none), (15, i6 minute_11), (16, i6 (IntKind.i64.wrap (Int.tdiv (IntKind.i64.wrap (minute_11 - m_4)) a_2.Stay))), (17, i6 (IntKind.i64.wrap (Int.tdiv (IntKind.i64.wrap (minute_11 - n_5)) b_3.Stay))), (95, i6 minute_11), (96, i6 m_4), (97, .bool (decide (minute_11 > m_4))), (98, .bool true), (99, i6 minute_11), (100, i6 m_4), (101, i6 (IntKind.i64.wrap (minute_11 - m_4))), (102, .ptr 1 4), (103, i6 a_2.Stay), (104, i6 (Int.tmod (IntKind.i64.wrap (minute_11 - m_4)) a_2.Stay)), (105, .bool ((Int.tmod (IntKind.i64.wrap (minute_11 - m_4)) a_2.Stay) == 0)), (106, .bool ((Int.tmod (IntKind.i64.wrap (minute_11 - m_4)) a_2.Stay) == 0)), (107, .bool true), (108, i6 minute_11), (109, i6 n_5), (110, .bool (decide (minute_11 > n_5))), (111, .bool (decide (minute_11 > n_5))), (112, .bool true), (113, i6 minute_11), (114, i6 n_5), (115, i6 (IntKind.i64.wrap (minute_11 - n_5))), (116, .ptr 2 4), (117, i6 b_3.Stay), (118, i6 (Int.tmod (IntKind.i64.wrap (minute_11 - n_5)) b_3.Stay)), (119, .bool ((Int.tmod (IntKind.i64.wrap (minute_11 - n_5)) b_3.Stay) == 0)), (120, .bool ((Int.tmod (IntKind.i64.wrap (minute_11 - n_5)) b_3.Stay) == 0)), (121, .bool true), (122, i6 (IntKind.i64.wrap (Int.tdiv (IntKind.i64.wrap (minute_11 - n_5)) b_3.Stay))), (123, .sl (r_7.1.map (AV.int .i64)) none), (124, i6 ((r_7.1.length : Nat) : Int)), (125, .bool (decide ((IntKind.i64.wrap (Int.tdiv (IntKind.i64.wrap (minute_11 - n_5)) b_3.Stay)) < ((r_7.1.length : Nat) : Int)))), (126, .bool (decide ((IntKind.i64.wrap (Int.tdiv (IntKind.i64.wrap (minute_11 - n_5)) b_3.Stay)) < ((r_7.1.length : Nat) : Int)))), (127, .bool true), (128, .ptr 1 1), (129, .sl (a_2.Path.map (AV.int .i64)) none), (130, i6 (IntKind.i64.wrap (Int.tdiv (IntKind.i64.wrap (minute_11 - m_4)) a_2.Stay))), (131, i6 (IntKind.i64.wrap ((IntKind.i64.wrap (Int.tdiv (IntKind.i64.wrap (minute_11 - m_4)) a_2.Stay)) - 1))), (132, .rop [i6 x_56]), (133, i6 x_56), (134, .ptr 2 1), (135, .sl (b_3.Path.map (AV.int .i64)) none), (136, i6 (IntKind.i64.wrap (Int.tdiv (IntKind.i64.wrap (minute_11 - n_5)) b_3.Stay))), (137, i6 (IntKind.i64.wrap ((IntKind.i64.wrap (Int.tdiv (IntKind.i64.wrap (minute_11 - n_5)) b_3.Stay)) - 1))), (138, .rop [i6 x_57]), (139, i6 x_57)]) (noClr_ok _) [] [] [] ?_ ?_
              ·refine drS [0, 1, 2] 45 [(3, .eq (.bool true)), (9, .bin (i6 (Int.tmod (IntKind.i64.wrap (minute_11 - m_4)) a_2.Stay))), (12, .eq (.bool true)), (17, .eq (.bool true)), (23, .bin (i6 (Int.tmod (IntKind.i64.wrap (minute_11 - n_5)) b_3.Stay))), (26, .eq (.bool true)), (29, .eq (i6 ((r_7.1.length : Nat) : Int))), (32, .eq (.bool true)), (37, .rop [i6 x_56]), (43, .rop [i6 x_57])] [AV.bool (decide (minute_11 > m_4)) = AV.bool true, binA .rem (i6 (IntKind.i64.wrap (minute_11 - m_4))) (i6 a_2.Stay) = some (i6 (Int.tmod (IntKind.i64.wrap (minute_11 - m_4)) a_2.Stay)), AV.bool ((Int.tmod (IntKind.i64.wrap (minute_11 - m_4)) a_2.Stay) == 0) = AV.bool true, AV.bool (decide (minute_11 > n_5)) = AV.bool true, binA .rem (i6 (IntKind.i64.wrap (minute_11 - n_5))) (i6 b_3.Stay) = some (i6 (Int.tmod (IntKind.i64.wrap (minute_11 - n_5)) b_3.Stay)), AV.bool ((Int.tmod (IntKind.i64.wrap (minute_11 - n_5)) b_3.Stay) == 0) = AV.bool true, AV.int .i64 (((r_7.1.map (AV.int .i64)).length : Nat) : Int) = AV.int .i64 ((r_7.1.length : Nat) : Int), AV.bool (decide ((IntKind.i64.wrap (Int.tdiv (IntKind.i64.wrap (minute_11 - n_5)) b_3.Stay)) < ((r_7.1.length : Nat) : Int))) = AV.bool true, LGet (a_2.Path.map (AV.int .i64)) (IntKind.i64.wrap ((IntKind.i64.wrap (Int.tdiv (IntKind.i64.wrap (minute_11 - m_4)) a_2.Stay)) - 1)) 1 [i6 x_56], LGet (b_3.Path.map (AV.int .i64)) (IntKind.i64.wrap ((IntKind.i64.wrap (Int.tdiv (IntKind.i64.wrap (minute_11 - n_5)) b_3.Stay)) - 1)) 1 [i6 x_57]] (mkS 142 [(3, i6 m_4), (4, i6 n_5), (5, .ptr 0 0), (6, .ptr 1 0), (7, .ptr 2 0), (11, .sl (r_6.1.map (AV.int .i64)) none), (13, .sl (r_7.1.map (AV.int .i64)) none), (15, i6 minute_11), (16, i6 (IntKind.i64.wrap (Int.tdiv (IntKind.i64.wrap (minute_11 - m_4)) a_2.Stay))), (17, i6 (IntKind.i64.wrap (Int.tdiv (IntKind.i64.wrap (minute_11 - n_5)) b_3.Stay))), (95, i6 minute_11), (96, i6 m_4), (97, .bool (decide (minute_11 > m_4))), (98, .bool true), (99, i6 minute_11), (100, i6 m_4), (101, i6 (IntKind.i64.wrap (minute_11 - m_4))), (102, .ptr 1 4), (103, i6 a_2.Stay), (104, i6 (Int.tmod (IntKind.i64.wrap (minute_11 - m_4)) a_2.Stay)), (105, .bool ((Int.tmod (IntKind.i64.wrap (minute_11 - m_4)) a_2.Stay) == 0)), (106, .bool ((Int.tmod (IntKind.i64.wrap (minute_11 - m_4)) a_2.Stay) == 0)), (107, .bool true), (108, i6 minute_11), (109, i6 n_5), (110, .bool (decide (minute_11 > n_5))), (111, .bool (decide (minute_11 > n_5))), (112, .bool true), (113, i6 minute_11), (114, i6 n_5), (115, i6 (IntKind.i64.wrap (minute_11 - n_5))), (116, .ptr 2 4), (117, i6 b_3.Stay), (118, i6 (Int.tmod (IntKind.i64.wrap (minute_11 - n_5)) b_3.Stay)), (119, .bool ((Int.tmod (IntKind.i64.wrap (minute_11 - n_5)) b_3.Stay) == 0)), (120, .bool ((Int.tmod (IntKind.i64.wrap (minute_11 - n_5)) b_3.Stay) == 0)), (121, .bool true), (122, i6 (IntKind.i64.wrap (Int.tdiv (IntKind.i64.wrap (minute_11 - n_5)) b_3.Stay))), (123, .sl (r_7.1.map (AV.int .i64)) none), (124, i6 ((r_7.1.length : Nat) : Int)), (125, .bool (decide ((IntKind.i64.wrap (Int.tdiv (IntKind.i64.wrap (minute_11 - n_5)) b_3.Stay)) < ((r_7.1.length : Nat) : Int)))), (126, .bool (decide ((IntKind.i64.wrap (Int.tdiv (IntKind.i64.wrap (minute_11 - n_5)) b_3.Stay)) < ((r_7.1.length : Nat) : Int)))), (127, .bool true), (128, .ptr 1 1), (129, .sl (a_2.Path.map (AV.int .i64)) none), (130, i6 (IntKind.i64.wrap (Int.tdiv (IntKind.i64.wrap (minute_11 - m_4)) a_2.Stay))), (131, i6 (IntKind.i64.wrap ((IntKind.i64.wrap (Int.tdiv (IntKind.i64.wrap (minute_11 - m_4)) a_2.Stay)) - 1))), (132, .rop [i6 x_56]), (133, i6 x_56), (134, .ptr 2 1), (135, .sl (b_3.Path.map (AV.int .i64)) none), (136, i6 (IntKind.i64.wrap (Int.tdiv (IntKind.i64.wrap (minute_11 - n_5)) b_3.Stay))), (137, i6 (IntKind.i64.wrap ((IntKind.i64.wrap (Int.tdiv (IntKind.i64.wrap (minute_11 - n_5)) b_3.Stay)) - 1))), (138, .rop [i6 x_57]), (139, i6 x_57)]) (by simp) (by kernel_rfl) ⟨congrArg AV.bool hc_49, binR hu_50, congrArg AV.bool hc_51, congrArg AV.bool hc_52, binR hu_53, congrArg AV.bool hc_54, lenM _ _, congrArg AV.bool hc_55, LGet.of hx_56 rfl, LGet.of hx_57 rfl, trivial⟩ (by kernel_rfl) ?_
               exact DrO.nil rfl
              ·dsimp only [List.getLastD_cons, List.getLastD_nil]
               refine rn 2 [3, 4, 5, 6, 7, 11, 13, 15, 141] (mkS 142 [(3, i6 m_4), (4, i6 n_5), (5, .ptr 0 0), (6, .ptr 1 0), (7, .ptr 2 0), (11, .sl (r_6.1.map (AV.int .i64)) none), (13, .sl (r_7.1.map (AV.int .i64)) none), (15, i6 minute_11), (141, .bool (x_56 == x_57))]) ⟨[(C_City c_1), (C_Band a_2), (C_Band b_3)], []⟩ ?_
               refine ExO.nil ?_
               (try simp only [reduceCtorEq, AEx.ex.injEq, Nat.reduceEqDiff, if_true, if_false])
               exact ⟨_, _, Forgets.refl _ _ _, (x_56 == x_57), h, rfl, rfl⟩
             ·refine dregX (noClr_ok _) [(3, .eq (.bool true)), (9, .bin (i6 (Int.tmod (IntKind.i64.wrap (minute_11 - m_4)) a_2.Stay))), (12, .eq (.bool true)), (17, .eq (.bool true)), (23, .bin (i6 (Int.tmod (IntKind.i64.wrap (minute_11 - n_5)) b_3.Stay))), (26, .eq (.bool true)), (29, .eq (i6 ((r_7.1.length : Nat) : Int))), (32, .eq (.bool false))] [] [3, 4, 5, 6, 7, 11, 13, 15, 141] [AV.bool (decide (minute_11 > m_4)) = AV.bool true, binA .rem (i6 (IntKind.i64.wrap (minute_11 - m_4))) (i6 a_2.Stay) = some (i6 (Int.tmod (IntKind.i64.wrap (minute_11 - m_4)) a_2.Stay)), AV.bool ((Int.tmod (IntKind.i64.wrap (minute_11 - m_4)) a_2.Stay) == 0) = AV.bool true, AV.bool (decide (minute_11 > n_5)) = AV.bool true, binA .rem (i6 (IntKind.i64.wrap (minute_11 - n_5))) (i6 b_3.Stay) = some (i6 (Int.tmod (IntKind.i64.wrap (minute_11 - n_5)) b_3.Stay)), AV.bool ((Int.tmod (IntKind.i64.wrap (minute_11 - n_5)) b_3.Stay) == 0) = AV.bool true, AV.int .i64 (((r_7.1.map (AV.int .i64)).length : Nat) : Int) = AV.int .i64 ((r_7.1.length : Nat) : Int), AV.bool (decide ((IntKind.i64.wrap (Int.tdiv (IntKind.i64.wrap (minute_11 - n_5)) b_3.Stay)) < ((r_7.1.length : Nat) : Int))) = AV.bool false] [] (mkS 142 [(3, i6 m_4), (4, i6 n_5), (5, .ptr 0 0), (6, .ptr 1 0), (7, .ptr 2 0), (11, .sl (r_6.1.map (AV.int .i64)) none), (13, .sl (r_7.1.map (AV.int .i64)) none), (15, i6 minute_11), (16, i6 (IntKind.i64.wrap (Int.tdiv (IntKind.i64.wrap (minute_11 - m_4)) a_2.Stay))), (17, i6 (IntKind.i64.wrap (Int.tdiv (IntKind.i64.wrap (minute_11 - n_5)) b_3.Stay))), (95, i6 minute_11), (96, i6 m_4), (97, .bool (decide (minute_11 > m_4))), (98, .bool true), (99, i6 minute_11), (100, i6 m_4), (101, i6 (IntKind.i64.wrap (minute_11 - m_4))), (102, .ptr 1 4), (103, i6 a_2.Stay), (104, i6 (Int.tmod (IntKind.i64.wrap (minute_11 - m_4)) a_2.Stay)), (105, .bool ((Int.tmod (IntKind.i64.wrap (minute_11 - m_4)) a_2.Stay) == 0)), (106, .bool ((Int.tmod (IntKind.i64.wrap (minute_11 - m_4)) a_2.Stay) == 0)), (107, .bool true), (108, i6 minute_11), (109, i6 n_5), (110, .bool (decide (minute_11 > n_5))), (111, .bool (decide (minute_11 > n_5))), (112, .bool true), (113, i6 minute_11), (114, i6 n_5), (115, i6 (IntKind.i64.wrap (minute_11 - n_5))), (116, .ptr 2 4), (117, i6 b_3.Stay), (118, i6 (Int.tmod (IntKind.i64.wrap (minute_11 - n_5)) b_3.Stay)), (119, .bool ((Int.tmod (IntKind.i64.wrap (minute_11 - n_5)) b_3.Stay) == 0)), (120, .bool ((Int.tmod (IntKind.i64.wrap (minute_11 - n_5)) b_3.Stay) == 0)), (121, .bool true), (122, i6 (IntKind.i64.wrap (Int.tdiv (IntKind.i64.wrap (minute_11 - n_5)) b_3.Stay))), (123, .sl (r_7.1.map (AV.int .i64)) none), (124, i6 ((r_7.1.length : Nat) : Int)), (125, .bool (decide ((IntKind.i64.wrap (Int.tdiv (IntKind.i64.wrap (minute_11 - n_5)) b_3.Stay)) < ((r_7.1.length : Nat) : Int)))), (126, .bool (decide ((IntKind.i64.wrap (Int.tdiv (IntKind.i64.wrap (minute_11 - n_5)) b_3.Stay)) < ((r_7.1.length : Nat) : Int)))), (127, .bool false), (128, .tup []), (129, .tup []), (130, .tup []), (131, .tup []), (132, .tup []), (133, .tup []), (134, .tup []), (135, .tup []), (136, .tup []), (137, .tup []), (138, .tup []), (139, .tup [])]) (mkS 142 [(3, i6 m_4), (4, i6 n_5), (5, .ptr 0 0), (6, .ptr 1 0), (7, .ptr 2 0), (11, .sl (r_6.1.map (AV.int .i64)) none), (13, .sl (r_7.1.map (AV.int .i64)) none), (15, i6 minute_11), (141, .bool false)]) (by kernel_rfl) (by kernel_rfl) ⟨congrArg AV.bool hc_49, binR hu_50, congrArg AV.bool hc_51, congrArg AV.bool hc_52, binR hu_53, congrArg AV.bool hc_54, lenM _ _, congrArg AV.bool hc_55, trivial⟩ (by kernel_rfl) trivial ?_
              (try simp only [reduceCtorEq, AEx.ex.injEq, Nat.reduceEqDiff, if_true, if_false])
              exact ⟨_, _, Forgets.refl _ _ _, false, h, rfl, rfl⟩
            ·refine dregX (noClr_ok _) [(3, .eq (.bool true)), (9, .bin (i6 (Int.tmod (IntKind.i64.wrap (minute_11 - m_4)) a_2.Stay))), (12, .eq (.bool true)), (17, .eq (.bool true)), (23, .bin (i6 (Int.tmod (IntKind.i64.wrap (minute_11 - n_5)) b_3.Stay))), (26, .eq (.bool false))] [] [3, 4, 5, 6, 7, 11, 13, 15, 141] [AV.bool (decide (minute_11 > m_4)) = AV.bool true, binA .rem (i6 (IntKind.i64.wrap (minute_11 - m_4))) (i6 a_2.Stay) = some (i6 (Int.tmod (IntKind.i64.wrap (minute_11 - m_4)) a_2.Stay)), AV.bool ((Int.tmod (IntKind.i64.wrap (minute_11 - m_4)) a_2.Stay) == 0) = AV.bool true, AV.bool (decide (minute_11 > n_5)) = AV.bool true, binA .rem (i6 (IntKind.i64.wrap (minute_11 - n_5))) (i6 b_3.Stay) = some (i6 (Int.tmod (IntKind.i64.wrap (minute_11 - n_5)) b_3.Stay)), AV.bool ((Int.tmod (IntKind.i64.wrap (minute_11 - n_5)) b_3.Stay) == 0) = AV.bool false] [] (mkS 142 [(3, i6 m_4), (4, i6 n_5), (5, .ptr 0 0), (6, .ptr 1 0), (7, .ptr 2 0), (11, .sl (r_6.1.map (AV.int .i64)) none), (13, .sl (r_7.1.map (AV.int .i64)) none), (15, i6 minute_11), (16, i6 (IntKind.i64.wrap (Int.tdiv (IntKind.i64.wrap (minute_11 - m_4)) a_2.Stay))), (17, i6 (IntKind.i64.wrap (Int.tdiv (IntKind.i64.wrap (minute_11 - n_5)) b_3.Stay))), (95, i6 minute_11), (96, i6 m_4), (97, .bool (decide (minute_11 > m_4))), (98, .bool true), (99, i6 minute_11), (100, i6 m_4), (101, i6 (IntKind.i64.wrap (minute_11 - m_4))), (102, .ptr 1 4), (103, i6 a_2.Stay), (104, i6 (Int.tmod (IntKind.i64.wrap (minute_11 - m_4)) a_2.Stay)), (105, .bool ((Int.tmod (IntKind.i64.wrap (minute_11 - m_4)) a_2.Stay) == 0)), (106, .bool ((Int.tmod (IntKind.i64.wrap (minute_11 - m_4)) a_2.Stay) == 0)), (107, .bool true), (108, i6 minute_11), (109, i6 n_5), (110, .bool (decide (minute_11 > n_5))), (111, .bool (decide (minute_11 > n_5))), (112, .bool true), (113, i6 minute_11), (114, i6 n_5), (115, i6 (IntKind.i64.wrap (minute_11 - n_5))), (116, .ptr 2 4), (117, i6 b_3.Stay), (118, i6 (Int.tmod (IntKind.i64.wrap (minute_11 - n_5)) b_3.Stay)), (119, .bool ((Int.tmod (IntKind.i64.wrap (minute_11 - n_5)) b_3.Stay) == 0)), (120, .bool ((Int.tmod (IntKind.i64.wrap (minute_11 - n_5)) b_3.Stay) == 0)), (121, .bool false), (122, .tup []), (123, .tup []), (124, .tup []), (125, .tup []), (126, .bool false), (127, .bool false), (128, .tup []), (129, .tup []), (130, .tup []), (131, .tup []), (132, .tup []), (133, .tup []), (134, .tup []), (135, .tup []), (136, .tup []), (137, .tup []), (138, .tup []), (139, .tup [])]) (mkS 142 [(3, i6 m_4), (4, i6 n_5), (5, .ptr 0 0), (6, .ptr 1 0), (7, .ptr 2 0), (11, .sl (r_6.1.map (AV.int .i64)) none), (13, .sl (r_7.1.map (AV.int .i64)) none), (15, i6 minute_11), (141, .bool false)]) (by kernel_rfl) (by kernel_rfl) ⟨congrArg AV.bool hc_49, binR hu_50, congrArg AV.bool hc_51, congrArg AV.bool hc_52, binR hu_53, congrArg AV.bool hc_54, trivial⟩ (by kernel_rfl) trivial ?_
             (try simp only [reduceCtorEq, AEx.ex.injEq, Nat.reduceEqDiff, if_true, if_false])
             exact ⟨_, _, Forgets.refl _ _ _, false, h, rfl, rfl⟩
           ·refine dregX (noClr_ok _) [(3, .eq (.bool true)), (9, .bin (i6 (Int.tmod (IntKind.i64.wrap (minute_11 - m_4)) a_2.Stay))), (12, .eq (.bool true)), (17, .eq (.bool false))] [] [3, 4, 5, 6, 7, 11, 13, 15, 141] [AV.bool (decide (minute_11 > m_4)) = AV.bool true, binA .rem (i6 (IntKind.i64.wrap (minute_11 - m_4))) (i6 a_2.Stay) = some (i6 (Int.tmod (IntKind.i64.wrap (minute_11 - m_4)) a_2.Stay)), AV.bool ((Int.tmod (IntKind.i64.wrap (minute_11 - m_4)) a_2.Stay) == 0) = AV.bool true, AV.bool (decide (minute_11 > n_5)) = AV.bool false] [] (mkS 142 [(3, i6 m_4), (4, i6 n_5), (5, .ptr 0 0), (6, .ptr 1 0), (7, .ptr 2 0), (11, .sl (r_6.1.map (AV.int .i64)) none), (13, .sl (r_7.1.map (AV.int .i64)) none), (15, i6 minute_11), (16, i6 (IntKind.i64.wrap (Int.tdiv (IntKind.i64.wrap (minute_11 - m_4)) a_2.Stay))), (17, i6 (IntKind.i64.wrap (Int.tdiv (IntKind.i64.wrap (minute_11 - n_5)) b_3.Stay))), (95, i6 minute_11), (96, i6 m_4), (97, .bool (decide (minute_11 > m_4))), (98, .bool true), (99, i6 minute_11), (100, i6 m_4), (101, i6 (IntKind.i64.wrap (minute_11 - m_4))), (102, .ptr 1 4), (103, i6 a_2.Stay), (104, i6 (Int.tmod (IntKind.i64.wrap (minute_11 - m_4)) a_2.Stay)), (105, .bool ((Int.tmod (IntKind.i64.wrap (minute_11 - m_4)) a_2.Stay) == 0)), (106, .bool ((Int.tmod (IntKind.i64.wrap (minute_11 - m_4)) a_2.Stay) == 0)), (107, .bool true), (108, i6 minute_11), (109, i6 n_5), (110, .bool (decide (minute_11 > n_5))), (111, .bool (decide (minute_11 > n_5))), (112, .bool false), (113, .tup []), (114, .tup []), (115, .tup []), (116, .tup []), (117, .tup []), (118, .tup []), (119, .tup []), (120, .bool false), (121, .bool false), (122, .tup []), (123, .tup []), (124, .tup []), (125, .tup []), (126, .bool false), (127, .bool false), (128, .tup []), (129, .tup []), (130, .tup []), (131, .tup []), (132, .tup []), (133, .tup []), (134, .tup []), (135, .tup []), (136, .tup []), (137, .tup []), (138, .tup []), (139, .tup [])]) (mkS 142 [(3, i6 m_4), (4, i6 n_5), (5, .ptr 0 0), (6, .ptr 1 0), (7, .ptr 2 0), (11, .sl (r_6.1.map (AV.int .i64)) none), (13, .sl (r_7.1.map (AV.int .i64)) none), (15, i6 minute_11), (141, .bool false)]) (by kernel_rfl) (by kernel_rfl) ⟨congrArg AV.bool hc_49, binR hu_50, congrArg AV.bool hc_51, congrArg AV.bool hc_52, trivial⟩ (by kernel_rfl) trivial ?_
            (try simp only [reduceCtorEq, AEx.ex.injEq, Nat.reduceEqDiff, if_true, if_false])
            exact ⟨_, _, Forgets.refl _ _ _, false, h, rfl, rfl⟩
          ·refine dregX (noClr_ok _) [(3, .eq (.bool true)), (9, .bin (i6 (Int.tmod (IntKind.i64.wrap (minute_11 - m_4)) a_2.Stay))), (12, .eq (.bool false))] [] [3, 4, 5, 6, 7, 11, 13, 15, 141] [AV.bool (decide (minute_11 > m_4)) = AV.bool true, binA .rem (i6 (IntKind.i64.wrap (minute_11 - m_4))) (i6 a_2.Stay) = some (i6 (Int.tmod (IntKind.i64.wrap (minute_11 - m_4)) a_2.Stay)), AV.bool ((Int.tmod (IntKind.i64.wrap (minute_11 - m_4)) a_2.Stay) == 0) = AV.bool false] [] (mkS 142 [(3, i6 m_4), (4, i6 n_5), (5, .ptr 0 0), (6, .ptr 1 0), (7, .ptr 2 0), (11, .sl (r_6.1.map (AV.int .i64)) none), (13, .sl (r_7.1.map (AV.int .i64)) none), (15, i6 minute_11), (16, i6 (IntKind.i64.wrap (Int.tdiv (IntKind.i64.wrap (minute_11 - m_4)) a_2.Stay))), (17, i6 (IntKind.i64.wrap (Int.tdiv (IntKind.i64.wrap (minute_11 - n_5)) b_3.Stay))), (95, i6 minute_11), (96, i6 m_4), (97, .bool (decide (minute_11 > m_4))), (98, .bool true), (99, i6 minute_11), (100, i6 m_4), (101, i6 (IntKind.i64.wrap (minute_11 - m_4))), (102, .ptr 1 4), (103, i6 a_2.Stay), (104, i6 (Int.tmod (IntKind.i64.wrap (minute_11 - m_4)) a_2.Stay)), (105, .bool ((Int.tmod (IntKind.i64.wrap (minute_11 - m_4)) a_2.Stay) == 0)), (106, .bool ((Int.tmod (IntKind.i64.wrap (minute_11 - m_4)) a_2.Stay) == 0)), (107, .bool false), (108, .tup []), (109, .tup []), (110, .tup []), (111, .bool false), (112, .bool false), (113, .tup []), (114, .tup []), (115, .tup []), (116, .tup []), (117, .tup []), (118, .tup []), (119, .tup []), (120, .bool false), (121, .bool false), (122, .tup []), (123, .tup []), (124, .tup []), (125, .tup []), (126, .bool false), (127, .bool false), (128, .tup []), (129, .tup []), (130, .tup []), (131, .tup []), (132, .tup []), (133, .tup []), (134, .tup []), (135, .tup []), (136, .tup []), (137, .tup []), (138, .tup []), (139, .tup [])]) (mkS 142 [(3, i6 m_4), (4, i6 n_5), (5, .ptr 0 0), (6, .ptr 1 0), (7, .ptr 2 0), (11, .sl (r_6.1.map (AV.int .i64)) none), (13, .sl (r_7.1.map (AV.int .i64)) none), (15, i6 minute_11), (141, .bool false)]) (by kernel_rfl) (by kernel_rfl) ⟨congrArg AV.bool hc_49, binR hu_50, congrArg AV.bool hc_51, trivial⟩ (by kernel_rfl) trivial ?_
           (try simp only [reduceCtorEq, AEx.ex.injEq, Nat.reduceEqDiff, if_true, if_false])
           exact ⟨_, _, Forgets.refl _ _ _, false, h, rfl, rfl⟩
         ·refine dregX (noClr_ok _) [(3, .eq (.bool false))] [] [3, 4, 5, 6, 7, 11, 13, 15, 141] [AV.bool (decide (minute_11 > m_4)) = AV.bool false] [] (mkS 142 [(3, i6 m_4), (4, i6 n_5), (5, .ptr 0 0), (6, .ptr 1 0), (7, .ptr 2 0), (11, .sl (r_6.1.map (AV.int .i64)) none), (13, .sl (r_7.1.map (AV.int .i64)) none), (15, i6 minute_11), (16, i6 (IntKind.i64.wrap (Int.tdiv (IntKind.i64.wrap (minute_11 - m_4)) a_2.Stay))), (17, i6 (IntKind.i64.wrap (Int.tdiv (IntKind.i64.wrap (minute_11 - n_5)) b_3.Stay))), (95, i6 minute_11), (96, i6 m_4), (97, .bool (decide (minute_11 > m_4))), (98, .bool false), (99, .tup []), (100, .tup []), (101, .tup []), (102, .tup []), (103, .tup []), (104, .tup []), (105, .tup []), (106, .bool false), (107, .bool false), (108, .tup []), (109, .tup []), (110, .tup []), (111, .bool false), (112, .bool false), (113, .tup []), (114, .tup []), (115, .tup []), (116, .tup []), (117, .tup []), (118, .tup []), (119, .tup []), (120, .bool false), (121, .bool false), (122, .tup []), (123, .tup []), (124, .tup []), (125, .tup []), (126, .bool false), (127, .bool false), (128, .tup []), (129, .tup []), (130, .tup []), (131, .tup []), (132, .tup []), (133, .tup []), (134, .tup []), (135, .tup []), (136, .tup []), (137, .tup []), (138, .tup []), (139, .tup [])]) (mkS 142 [(3, i6 m_4), (4, i6 n_5), (5, .ptr 0 0), (6, .ptr 1 0), (7, .ptr 2 0), (11, .sl (r_6.1.map (AV.int .i64)) none), (13, .sl (r_7.1.map (AV.int .i64)) none), (15, i6 minute_11), (141, .bool false)]) (by kernel_rfl) (by kernel_rfl) ⟨congrArg AV.bool hc_49, trivial⟩ (by kernel_rfl) trivial ?_
          (try simp only [reduceCtorEq, AEx.ex.injEq, Nat.reduceEqDiff, if_true, if_false])
          exact ⟨_, _, Forgets.refl _ _ _, false, h, rfl, rfl⟩
        ·rintro a S ⟨y_45, h, rfl, rfl⟩
         subst hK_48
         rcases condI h with ⟨hc_58, h⟩ | ⟨hc_58, h⟩
         ·refine Ex.condT _ rfl hc_58 ?_
          refine Ex.seq (rg 1 [10] (mkS 142 [(10, .bool true)]) ⟨[(C_City c_1), (C_Band a_2), (C_Band b_3)], []⟩ ?_)
          refine Ex.ret ?_
          obtain rfl := sJ h
          exact rt (.bool true)
         ·refine Ex.condF _ rfl hc_58 ?_
          refine Ex.skip ?_
          (try simp only [reduceCtorEq, AEx.ex.injEq, Nat.reduceEqDiff, if_true, if_false])
          exact ⟨_, _, forgetK [3, 4, 5, 6, 7, 11, 13, 15], h, rfl, rfl⟩
    ·rintro a S ⟨h, rfl, rfl⟩
     subst hK_18
     refine rg 3 [3, 4, 5, 6, 7, 11, 13, 15] (mkS 142 [(3, i6 m_4), (4, i6 n_5), (5, .ptr 0 0), (6, .ptr 1 0), (7, .ptr 2 0), (11, .sl (r_6.1.map (AV.int .i64)) none), (13, .sl (r_7.1.map (AV.int .i64)) none), (15, i6 (IntKind.i64.wrap (minute_11 + 1)))]) ⟨[(C_City c_1), (C_Band a_2), (C_Band b_3)], []⟩ ?_
     dsimp only
     exact ⟨_, _, Forgets.refl _ _ _, k, Nat.lt_succ_self k, (IntKind.i64.wrap (minute_11 + 1)), h, rfl, rfl⟩
   ·refine Ex.condF _ rfl hc_15 ?_
    refine Ex.exit ?_
    (try simp only [reduceCtorEq, AEx.ex.injEq, Nat.reduceEqDiff, if_true, if_false])
    exact ⟨_, _, forgetA (m := 142) 0 [] [] [] [] (by simp [setAll]) (by simp) trivial (by simp) rfl (by decide), h, rfl, rfl⟩
 ·rintro a S ⟨h, rfl, rfl⟩
  subst hK_10
  refine Ex.seq (rg 1 [10] (mkS 142 [(10, .bool false)]) ⟨[], []⟩ ?_)
  refine Ex.ret ?_
  obtain rfl := sJ h
  exact rt (.bool false)
theorem IJ_Street (x y : T_Street) (h : A_Street x = A_Street y) : x = y := by
 have h := AV.agg.inj h
 simp only [C_Street, List.cons.injEq, AV.int.injEq, AV.bool.injEq, AV.str.injEq, AV.sl.injEq, true_and, and_true] at h
 obtain ⟨h0, h1⟩ := h
 obtain ⟨x0, x1⟩ := x; obtain ⟨y0, y1⟩ := y; simp_all
theorem IJ_Group (x y : T_Group) (h : A_Group x = A_Group y) : x = y := by
 have h := AV.agg.inj h
 simp only [C_Group, List.cons.injEq, AV.int.injEq, AV.bool.injEq, AV.str.injEq, AV.sl.injEq, true_and, and_true] at h
 obtain ⟨h0, h1, h2, h3, h4, h5, h6⟩ := h
 have h6 := mapInj (intInj _) h6
 obtain ⟨⟨x0, x1⟩, ⟨x2, x3⟩, x4, x5, x6⟩ := x; obtain ⟨⟨y0, y1⟩, ⟨y2, y3⟩, y4, y5, y6⟩ := y; simp_all
theorem IJ_City (x y : T_City) (h : A_City x = A_City y) : x = y := by
 have h := AV.agg.inj h
 simp only [C_City, List.cons.injEq, AV.int.injEq, AV.bool.injEq, AV.str.injEq, AV.sl.injEq, true_and, and_true] at h
 obtain ⟨h0, h1, h2, h3, h4, h5⟩ := h
 have h0 := mapInj (intInj _) h0
 have h1 := mapInj IJ_Street h1
 have h2 := mapInj IJ_Group h2
 have h5 := mapInj (intInj _) h5
 obtain ⟨⟨x0, x1, x2, x3⟩, x4, x5⟩ := x; obtain ⟨⟨y0, y1, y2, y3⟩, y4, y5⟩ := y; simp_all
theorem k_bk_BandOf (N : Nat) (d_1 : T_bk_Drum) (c_2 : T_City) (d_1z : T_bk_Drum) (c_2z : T_City) (r s : T_Band × T_bk_Drum) (hr : p_bk_BandOf N d_1 c_2 = some r) (hs : p_bk_BandOf N d_1z c_2z = some s) : ConsR ⟨18, [.ptr 0 0, (A_City c_2)], [(C_bk_Drum d_1)], v_bk_BandOf r, [(C_bk_Drum r.2)]⟩ ⟨18, [.ptr 0 0, (A_City c_2z)], [(C_bk_Drum d_1z)], v_bk_BandOf s, [(C_bk_Drum s.2)]⟩ := by
 intro _ h1 h2
 have h1 : ([.ptr 0 0, (A_City c_2)] : List AV) = [.ptr 0 0, (A_City c_2z)] := h1
 have h2 : ([(C_bk_Drum d_1)] : List (List AV)) = [(C_bk_Drum d_1z)] := h2
 obtain rfl : d_1 = d_1z := IJ_bk_Drum _ _ (congrArg AV.agg (List.cons.inj h2).1)
 obtain rfl : c_2 = c_2z := IJ_City _ _ (List.cons.inj (List.cons.inj h1).2).1
 rw [hr] at hs; cases hs; exact ⟨rfl, rfl⟩
def p_bl7_BandMeets (N : Nat) (nums_1 : (List Int)) : Option (Bool) := ((p_bk_DrumOf N nums_1).bind fun r_2 => ((p_bk_CityOf N r_2).bind fun r_3 => ((p_bk_BandOf N r_3.2 (⟨r_3.1.Town, (if 8 < r_3.1.Break then 8 else r_3.1.Break), r_3.1.Sleep⟩ : T_City)).bind fun r_4 => ((p_bk_BandOf N r_4.2 (⟨r_3.1.Town, (if 8 < r_3.1.Break then 8 else r_3.1.Break), r_3.1.Sleep⟩ : T_City)).bind fun r_5 => ((p_band_Cross N (⟨r_3.1.Town, (if 8 < r_3.1.Break then 8 else r_3.1.Break), r_3.1.Sleep⟩ : T_City) (⟨r_4.1.First, r_4.1.Path, (⟨r_4.1.Start.Lo, (if (IntKind.i64.wrap (r_4.1.Start.Lo + 2)) < r_4.1.Start.Hi then (IntKind.i64.wrap (r_4.1.Start.Lo + 2)) else r_4.1.Start.Hi)⟩ : T_Span), r_4.1.Stay, r_4.1.People⟩ : T_Band) (⟨r_5.1.First, r_5.1.Path, (⟨r_5.1.Start.Lo, (if (IntKind.i64.wrap (r_5.1.Start.Lo + 2)) < r_5.1.Start.Hi then (IntKind.i64.wrap (r_5.1.Start.Lo + 2)) else r_5.1.Start.Hi)⟩ : T_Span), r_5.1.Stay, r_5.1.People⟩ : T_Band)).bind fun r_7 => ((p_band_Cross N (⟨r_3.1.Town, (if 8 < r_3.1.Break then 8 else r_3.1.Break), r_3.1.Sleep⟩ : T_City) (⟨r_5.1.First, r_5.1.Path, (⟨r_5.1.Start.Lo, (if (IntKind.i64.wrap (r_5.1.Start.Lo + 2)) < r_5.1.Start.Hi then (IntKind.i64.wrap (r_5.1.Start.Lo + 2)) else r_5.1.Start.Hi)⟩ : T_Span), r_5.1.Stay, r_5.1.People⟩ : T_Band) (⟨r_4.1.First, r_4.1.Path, (⟨r_4.1.Start.Lo, (if (IntKind.i64.wrap (r_4.1.Start.Lo + 2)) < r_4.1.Start.Hi then (IntKind.i64.wrap (r_4.1.Start.Lo + 2)) else r_4.1.Start.Hi)⟩ : T_Span), r_4.1.Stay, r_4.1.People⟩ : T_Band)).bind fun r_8 => (letJ (fun (y_9 : Bool) => (bif y_9 then some false else (letJ (fun (some_16 : Bool) (all_17 : Bool) => (bif ((r_7.1 == 1) == all_17) then (bif ((r_7.1 == 2) == (!some_16)) then ((p_bl7_awake N).bind fun r_51 => some r_51) else some false) else some false)) (fun k_18 => (loop3 (fun rec_24 (some_21 : Bool) (all_22 : Bool) (m_23 : Int) => (bif (decide (m_23 ≤ (if (IntKind.i64.wrap (r_4.1.Start.Lo + 2)) < r_4.1.Start.Hi then (IntKind.i64.wrap (r_4.1.Start.Lo + 2)) else r_4.1.Start.Hi))) then (letJ (fun (some_28 : Bool) (all_29 : Bool) => (rec_24 some_28 all_29 (IntKind.i64.wrap (m_23 + 1)))) (fun k_30 => (loop3 (fun rec_36 (some_33 : Bool) (all_34 : Bool) (n_35 : Int) => (bif (decide (n_35 ≤ (if (IntKind.i64.wrap (r_5.1.Start.Lo + 2)) < r_5.1.Start.Hi then (IntKind.i64.wrap (r_5.1.Start.Lo + 2)) else r_5.1.Start.Hi))) then (letJ (fun (some_40 : Bool) (all_41 : Bool) => (rec_36 some_40 all_41 (IntKind.i64.wrap (n_35 + 1)))) (fun k_42 => ((p_bl7_crossed N (⟨r_3.1.Town, (if 8 < r_3.1.Break then 8 else r_3.1.Break), r_3.1.Sleep⟩ : T_City) (⟨r_4.1.First, r_4.1.Path, (⟨r_4.1.Start.Lo, (if (IntKind.i64.wrap (r_4.1.Start.Lo + 2)) < r_4.1.Start.Hi then (IntKind.i64.wrap (r_4.1.Start.Lo + 2)) else r_4.1.Start.Hi)⟩ : T_Span), r_4.1.Stay, r_4.1.People⟩ : T_Band) (⟨r_5.1.First, r_5.1.Path, (⟨r_5.1.Start.Lo, (if (IntKind.i64.wrap (r_5.1.Start.Lo + 2)) < r_5.1.Start.Hi then (IntKind.i64.wrap (r_5.1.Start.Lo + 2)) else r_5.1.Start.Hi)⟩ : T_Span), r_5.1.Stay, r_5.1.People⟩ : T_Band) m_23 n_35).bind fun r_45 => (bif some_33 then (bif all_34 then (k_42 true r_45) else (k_42 true false)) else (bif all_34 then (k_42 r_45 r_45) else (k_42 r_45 false)))))) else (k_30 some_33 all_34))) N some_21 all_22 r_5.1.Start.Lo))) else (k_18 some_21 all_22))) N false true r_4.1.Start.Lo))))) (fun k_10 => (bif (r_7.2 != 0) then (k_10 true) else (bif (r_8.2 != 0) then (k_10 true) else (k_10 (r_7.1 != r_8.1))))))))))))
def v_bl7_BandMeets (r : Bool) : AV := .bool r
attribute [local simp] v_bl7_BandMeets
theorem d_bl7_BandMeets (N : Nat) (nums_1 : (List Int)) (r : Bool) (h : p_bl7_BandMeets N nums_1 = some r) : Does Tryd.prog 6 [.sl (nums_1.map (AV.int .i64)) none] [] fun v c => v = v_bl7_BandMeets r ∧ c = [] := by
 unfold p_bl7_BandMeets at h
 refine Does.ofL comp6 _ _ rfl rfl ?_
 refine Ex.seq (rg 1 [0] (mkS 123 [(0, .sl (nums_1.map (AV.int .i64)) none)]) ⟨[], []⟩ ?_)
 refine Ex.seq ?_
 obtain ⟨r_2, hr_2, h⟩ := bE h
 refine Ex.reg (rn 1 [16] (mkS 123 [(16, .sl (nums_1.map (AV.int .i64)) none)]) ⟨[], []⟩ ?_)
 refine ExO.callL (v' := .ptr 0 0) [] [.sl (nums_1.map (AV.int .i64)) none] rfl rfl (a_bk_DrumOf nums_1) rfl rfl (d_bk_DrumOf N nums_1 r_2 hr_2) rfl (by simp) ?_
 refine rn 1 [3] (mkS 123 [(3, .ptr 0 0)]) ⟨[(C_bk_Drum r_2)], []⟩ ?_
 refine ExO.nil ?_
 refine Ex.seq ?_
 obtain ⟨r_3, hr_3, h⟩ := bE h
 refine Ex.reg (rn 1 [3, 18] (mkS 123 [(3, .ptr 0 0), (18, .ptr 0 0)]) ⟨[(C_bk_Drum r_2)], []⟩ ?_)
 refine ExO.callL [0] [.ptr 0 0] rfl rfl (by simp; try rfl) rfl (by simp) (d_bk_CityOf N r_2 r_3 hr_3) (b_bk_CityOf _ _ _ _) (by simp) ?_
 refine rn 2 [3, 4] (mkS 123 [(3, .ptr 0 0), (4, .ptr 1 0)]) ⟨[(C_bk_Drum r_3.2), (C_City r_3.1)], []⟩ ?_
 refine ExO.nil ?_
 refine Ex.seq (rg 5 [3, 4] (mkS 123 [(3, .ptr 0 0), (4, .ptr 1 0)]) ⟨[(C_bk_Drum r_3.2), [.sl (r_3.1.Town.Rooms.map (AV.int .i64)) none, .sl (r_3.1.Town.Streets.map A_Street) none, .sl (r_3.1.Town.Groups.map A_Group) none, i6 r_3.1.Town.Steps, i6 (if 8 < r_3.1.Break then 8 else r_3.1.Break), .sl (r_3.1.Sleep.map (AV.int .i64)) none]], []⟩ ?_)
 refine Ex.seq ?_
 obtain ⟨r_4, hr_4, h⟩ := bE h
 obtain ⟨r_5, hr_5, h⟩ := bE h
 have hT_6 : DoesA Tryd.prog [⟨18, [.ptr 0 0, .agg [.sl (r_3.1.Town.Rooms.map (AV.int .i64)) none, .sl (r_3.1.Town.Streets.map A_Street) none, .sl (r_3.1.Town.Groups.map A_Group) none, i6 r_3.1.Town.Steps, i6 (if 8 < r_3.1.Break then 8 else r_3.1.Break), .sl (r_3.1.Sleep.map (AV.int .i64)) none]], [(C_bk_Drum r_3.2)], (v_bk_BandOf r_4), [(C_bk_Drum r_4.2)]⟩, ⟨18, [.ptr 0 0, .agg [.sl (r_3.1.Town.Rooms.map (AV.int .i64)) none, .sl (r_3.1.Town.Streets.map A_Street) none, .sl (r_3.1.Town.Groups.map A_Group) none, i6 r_3.1.Town.Steps, i6 (if 8 < r_3.1.Break then 8 else r_3.1.Break), .sl (r_3.1.Sleep.map (AV.int .i64)) none]], [(C_bk_Drum r_4.2)], (v_bk_BandOf r_5), [(C_bk_Drum r_5.2)]⟩] ∧ ConsA [⟨18, [.ptr 0 0, .agg [.sl (r_3.1.Town.Rooms.map (AV.int .i64)) none, .sl (r_3.1.Town.Streets.map A_Street) none, .sl (r_3.1.Town.Groups.map A_Group) none, i6 r_3.1.Town.Steps, i6 (if 8 < r_3.1.Break then 8 else r_3.1.Break), .sl (r_3.1.Sleep.map (AV.int .i64)) none]], [(C_bk_Drum r_3.2)], (v_bk_BandOf r_4), [(C_bk_Drum r_4.2)]⟩, ⟨18, [.ptr 0 0, .agg [.sl (r_3.1.Town.Rooms.map (AV.int .i64)) none, .sl (r_3.1.Town.Streets.map A_Street) none, .sl (r_3.1.Town.Groups.map A_Group) none, i6 r_3.1.Town.Steps, i6 (if 8 < r_3.1.Break then 8 else r_3.1.Break), .sl (r_3.1.Sleep.map (AV.int .i64)) none]], [(C_bk_Drum r_4.2)], (v_bk_BandOf r_5), [(C_bk_Drum r_5.2)]⟩] := ⟨⟨(d_bk_BandOf N r_3.2 (⟨r_3.1.Town, (if 8 < r_3.1.Break then 8 else r_3.1.Break), r_3.1.Sleep⟩ : T_City) r_4 hr_4), rfl, (d_bk_BandOf N r_4.2 (⟨r_3.1.Town, (if 8 < r_3.1.Break then 8 else r_3.1.Break), r_3.1.Sleep⟩ : T_City) r_5 hr_5), rfl, trivial⟩, ⟨⟨k_bk_BandOf N r_3.2 (⟨r_3.1.Town, (if 8 < r_3.1.Break then 8 else r_3.1.Break), r_3.1.Sleep⟩ : T_City) r_4.2 (⟨r_3.1.Town, (if 8 < r_3.1.Break then 8 else r_3.1.Break), r_3.1.Sleep⟩ : T_City) r_4 r_5 hr_4 hr_5, trivial⟩, trivial, trivial⟩⟩
 refine Ex.drawE (a1 := mkS 123 [(3, .ptr 0 0), (4, .ptr 1 0), (5, .ptr 2 0), (6, .ptr 3 0), (24, .ptr 0 0), (25, .agg [.sl (r_3.1.Town.Rooms.map (AV.int .i64)) none, .sl (r_3.1.Town.Streets.map A_Street) none, .sl (r_3.1.Town.Groups.map A_Group) none, i6 r_3.1.Town.Steps, i6 (if 8 < r_3.1.Break then 8 else r_3.1.Break), .sl (r_3.1.Sleep.map (AV.int .i64)) none]), (26, (A_Band r_4.1)), (27, .ptr 0 0), (28, .agg [.sl (r_3.1.Town.Rooms.map (AV.int .i64)) none, .sl (r_3.1.Town.Streets.map A_Street) none, .sl (r_3.1.Town.Groups.map A_Group) none, i6 r_3.1.Town.Steps, i6 (if 8 < r_3.1.Break then 8 else r_3.1.Break), .sl (r_3.1.Sleep.map (AV.int .i64)) none]), (29, (A_Band r_5.1))]) (tabO_ok hT_6.1) [[i6 0, .nils, i6 0, i6 0, i6 0, i6 0], [i6 0, .nils, i6 0, i6 0, i6 0, i6 0]] [] [⟨[(C_bk_Drum r_4.2), [.sl (r_3.1.Town.Rooms.map (AV.int .i64)) none, .sl (r_3.1.Town.Streets.map A_Street) none, .sl (r_3.1.Town.Groups.map A_Group) none, i6 r_3.1.Town.Steps, i6 (if 8 < r_3.1.Break then 8 else r_3.1.Break), .sl (r_3.1.Sleep.map (AV.int .i64)) none], [i6 0, .nils, i6 0, i6 0, i6 0, i6 0], [i6 0, .nils, i6 0, i6 0, i6 0, i6 0]], []⟩, ⟨[(C_bk_Drum r_5.2), [.sl (r_3.1.Town.Rooms.map (AV.int .i64)) none, .sl (r_3.1.Town.Streets.map A_Street) none, .sl (r_3.1.Town.Groups.map A_Group) none, i6 r_3.1.Town.Steps, i6 (if 8 < r_3.1.Break then 8 else r_3.1.Break), .sl (r_3.1.Sleep.map (AV.int .i64)) none], [i6 0, .nils, i6 0, i6 0, i6 0, i6 0], [i6 0, .nils, i6 0, i6 0, i6 0, i6 0]], []⟩] ?_ ?_
 ·refine drS [1, 2, 3] 2 [] [] (mkS 123 [(3, .ptr 0 0), (4, .ptr 1 0), (24, .ptr 0 0), (25, .agg [.sl (r_3.1.Town.Rooms.map (AV.int .i64)) none, .sl (r_3.1.Town.Streets.map A_Street) none, .sl (r_3.1.Town.Groups.map A_Group) none, i6 r_3.1.Town.Steps, i6 (if 8 < r_3.1.Break then 8 else r_3.1.Break), .sl (r_3.1.Sleep.map (AV.int .i64)) none])]) (by simp) (by kernel_rfl) trivial (by kernel_rfl) ?_
  refine drB hT_6.2 0 _ [0] [.ptr 0 0, .agg [.sl (r_3.1.Town.Rooms.map (AV.int .i64)) none, .sl (r_3.1.Town.Streets.map A_Street) none, .sl (r_3.1.Town.Groups.map A_Group) none, i6 r_3.1.Town.Steps, i6 (if 8 < r_3.1.Break then 8 else r_3.1.Break), .sl (r_3.1.Sleep.map (AV.int .i64)) none]] (v_bk_BandOf r_4) _ _ rfl rfl rfl rfl rfl rfl rfl rfl (by simp; try rfl) rfl (by simp) (b_bk_BandOf _ _ _ _) (by simp) rfl ?_
  refine drS [1, 2, 3] 2 [] [] (mkS 123 [(3, .ptr 0 0), (4, .ptr 1 0), (24, .ptr 0 0), (25, .agg [.sl (r_3.1.Town.Rooms.map (AV.int .i64)) none, .sl (r_3.1.Town.Streets.map A_Street) none, .sl (r_3.1.Town.Groups.map A_Group) none, i6 r_3.1.Town.Steps, i6 (if 8 < r_3.1.Break then 8 else r_3.1.Break), .sl (r_3.1.Sleep.map (AV.int .i64)) none]), (26, (A_Band r_4.1)), (27, .ptr 0 0), (28, .agg [.sl (r_3.1.Town.Rooms.map (AV.int .i64)) none, .sl (r_3.1.Town.Streets.map A_Street) none, .sl (r_3.1.Town.Groups.map A_Group) none, i6 r_3.1.Town.Steps, i6 (if 8 < r_3.1.Break then 8 else r_3.1.Break), .sl (r_3.1.Sleep.map (AV.int .i64)) none])]) (by simp) (by kernel_rfl) trivial (by kernel_rfl) ?_
  refine drB hT_6.2 1 _ [0] [.ptr 0 0, .agg [.sl (r_3.1.Town.Rooms.map (AV.int .i64)) none, .sl (r_3.1.Town.Streets.map A_Street) none, .sl (r_3.1.Town.Groups.map A_Group) none, i6 r_3.1.Town.Steps, i6 (if 8 < r_3.1.Break then 8 else r_3.1.Break), .sl (r_3.1.Sleep.map (AV.int .i64)) none]] (v_bk_BandOf r_5) _ _ rfl rfl rfl rfl rfl rfl rfl rfl (by simp; try rfl) rfl (by simp) (b_bk_BandOf _ _ _ _) (by simp) rfl ?_
  refine drX 2 [i6 0, .nils, i6 0, i6 0, i6 0, i6 0] rfl rfl (fun _ => by kernel_rfl) (by simp) rfl rfl ?_
  refine drX 3 [i6 0, .nils, i6 0, i6 0, i6 0, i6 0] rfl rfl (fun _ => by kernel_rfl) (by simp) rfl rfl ?_
  exact DrO.nil rfl
 ·dsimp only [List.getLastD_cons, List.getLastD_nil]
  refine rn 2 [4, 5, 6] (mkS 123 [(4, .ptr 1 0), (5, .ptr 2 0), (6, .ptr 3 0)]) ⟨[(C_bk_Drum r_5.2), [.sl (r_3.1.Town.Rooms.map (AV.int .i64)) none, .sl (r_3.1.Town.Streets.map A_Street) none, .sl (r_3.1.Town.Groups.map A_Group) none, i6 r_3.1.Town.Steps, i6 (if 8 < r_3.1.Break then 8 else r_3.1.Break), .sl (r_3.1.Sleep.map (AV.int .i64)) none], (C_Band r_4.1), (C_Band r_5.1)], []⟩ ?_
  refine ExO.nil ?_
  refine Ex.seq ?_
  refine Ex.drawE (a1 := mkS 123 [(4, .ptr 1 0), (5, .ptr 2 0), (6, .ptr 3 0), (30, .ptr 2 2), (31, .ptr 2 3), (32, i6 r_4.1.Start.Hi), (33, .ptr 2 2), (34, .ptr 2 2), (35, i6 r_4.1.Start.Lo), (36, i6 (IntKind.i64.wrap (r_4.1.Start.Lo + 2))), (37, i6 (if (IntKind.i64.wrap (r_4.1.Start.Lo + 2)) < r_4.1.Start.Hi then (IntKind.i64.wrap (r_4.1.Start.Lo + 2)) else r_4.1.Start.Hi)), (38, .ptr 3 2), (39, .ptr 3 3), (40, i6 r_5.1.Start.Hi), (41, .ptr 3 2), (42, .ptr 3 2), (43, i6 r_5.1.Start.Lo), (44, i6 (IntKind.i64.wrap (r_5.1.Start.Lo + 2))), (45, i6 (if (IntKind.i64.wrap (r_5.1.Start.Lo + 2)) < r_5.1.Start.Hi then (IntKind.i64.wrap (r_5.1.Start.Lo + 2)) else r_5.1.Start.Hi)), (46, .ptr 2 2), (47, .ptr 2 3)]) (noClr_ok _) [] [] [⟨[(C_bk_Drum r_5.2), [.sl (r_3.1.Town.Rooms.map (AV.int .i64)) none, .sl (r_3.1.Town.Streets.map A_Street) none, .sl (r_3.1.Town.Groups.map A_Group) none, i6 r_3.1.Town.Steps, i6 (if 8 < r_3.1.Break then 8 else r_3.1.Break), .sl (r_3.1.Sleep.map (AV.int .i64)) none], [i6 r_4.1.First, .sl (r_4.1.Path.map (AV.int .i64)) none, i6 r_4.1.Start.Lo, i6 (if (IntKind.i64.wrap (r_4.1.Start.Lo + 2)) < r_4.1.Start.Hi then (IntKind.i64.wrap (r_4.1.Start.Lo + 2)) else r_4.1.Start.Hi), i6 r_4.1.Stay, i6 r_4.1.People], (C_Band r_5.1)], []⟩] ?_ ?_
  ·refine drS [0, 1, 3] 2 [] [] (mkS 123 [(4, .ptr 1 0), (5, .ptr 2 0), (6, .ptr 3 0), (30, .ptr 2 2), (31, .ptr 2 3)]) (by simp) (by kernel_rfl) trivial (by kernel_rfl) ?_
   refine drPL none none (i6 r_4.1.Start.Hi) 32 _ rfl (by kernel_rfl) (by kernel_rfl) rfl (by kernel_rfl) (by kernel_rfl) trivial ?_
   refine drS [0, 1, 3] 2 [] [] (mkS 123 [(4, .ptr 1 0), (5, .ptr 2 0), (6, .ptr 3 0), (30, .ptr 2 2), (31, .ptr 2 3), (32, i6 r_4.1.Start.Hi), (33, .ptr 2 2), (34, .ptr 2 2)]) (by simp) (by kernel_rfl) trivial (by kernel_rfl) ?_
   refine drPL none none (i6 r_4.1.Start.Lo) 35 _ rfl (by kernel_rfl) (by kernel_rfl) rfl (by kernel_rfl) (by kernel_rfl) trivial ?_
   refine drS [0, 1, 3] 12 [] [] (mkS 123 [(4, .ptr 1 0), (5, .ptr 2 0), (6, .ptr 3 0), (30, .ptr 2 2), (31, .ptr 2 3), (32, i6 r_4.1.Start.Hi), (33, .ptr 2 2), (34, .ptr 2 2), (35, i6 r_4.1.Start.Lo), (36, i6 (IntKind.i64.wrap (r_4.1.Start.Lo + 2))), (37, i6 (if (IntKind.i64.wrap (r_4.1.Start.Lo + 2)) < r_4.1.Start.Hi then (IntKind.i64.wrap (r_4.1.Start.Lo + 2)) else r_4.1.Start.Hi)), (38, .ptr 3 2), (39, .ptr 3 3), (40, i6 r_5.1.Start.Hi), (41, .ptr 3 2), (42, .ptr 3 2), (43, i6 r_5.1.Start.Lo), (44, i6 (IntKind.i64.wrap (r_5.1.Start.Lo + 2))), (45, i6 (if (IntKind.i64.wrap (r_5.1.Start.Lo + 2)) < r_5.1.Start.Hi then (IntKind.i64.wrap (r_5.1.Start.Lo + 2)) else r_5.1.Start.Hi)), (46, .ptr 2 2), (47, .ptr 2 3)]) (by simp) (by kernel_rfl) trivial (by kernel_rfl) ?_
   refine drE none none (.tup []) _ _ rfl rfl rfl rfl rfl (by kernel_rfl) trivial ?_
   exact DrO.nil rfl
  ·dsimp only [List.getLastD_cons, List.getLastD_nil]
   refine rn 3 [4, 5, 6] (mkS 123 [(4, .ptr 1 0), (5, .ptr 2 0), (6, .ptr 3 0)]) ⟨[(C_bk_Drum r_5.2), [.sl (r_3.1.Town.Rooms.map (AV.int .i64)) none, .sl (r_3.1.Town.Streets.map A_Street) none, .sl (r_3.1.Town.Groups.map A_Group) none, i6 r_3.1.Town.Steps, i6 (if 8 < r_3.1.Break then 8 else r_3.1.Break), .sl (r_3.1.Sleep.map (AV.int .i64)) none], [i6 r_4.1.First, .sl (r_4.1.Path.map (AV.int .i64)) none, i6 r_4.1.Start.Lo, i6 (if (IntKind.i64.wrap (r_4.1.Start.Lo + 2)) < r_4.1.Start.Hi then (IntKind.i64.wrap (r_4.1.Start.Lo + 2)) else r_4.1.Start.Hi), i6 r_4.1.Stay, i6 r_4.1.People], [i6 r_5.1.First, .sl (r_5.1.Path.map (AV.int .i64)) none, i6 r_5.1.Start.Lo, i6 (if (IntKind.i64.wrap (r_5.1.Start.Lo + 2)) < r_5.1.Start.Hi then (IntKind.i64.wrap (r_5.1.Start.Lo + 2)) else r_5.1.Start.Hi), i6 r_5.1.Stay, i6 r_5.1.People]], []⟩ ?_
   refine ExO.nil ?_
   refine Ex.seq ?_
   obtain ⟨r_7, hr_7, h⟩ := bE h
   refine Ex.reg (rn 3 [4, 5, 6, 51, 52, 53] (mkS 123 [(4, .ptr 1 0), (5, .ptr 2 0), (6, .ptr 3 0), (51, .agg [.sl (r_3.1.Town.Rooms.map (AV.int .i64)) none, .sl (r_3.1.Town.Streets.map A_Street) none, .sl (r_3.1.Town.Groups.map A_Group) none, i6 r_3.1.Town.Steps, i6 (if 8 < r_3.1.Break then 8 else r_3.1.Break), .sl (r_3.1.Sleep.map (AV.int .i64)) none]), (52, .agg [i6 r_4.1.First, .sl (r_4.1.Path.map (AV.int .i64)) none, i6 r_4.1.Start.Lo, i6 (if (IntKind.i64.wrap (r_4.1.Start.Lo + 2)) < r_4.1.Start.Hi then (IntKind.i64.wrap (r_4.1.Start.Lo + 2)) else r_4.1.Start.Hi), i6 r_4.1.Stay, i6 r_4.1.People]), (53, .agg [i6 r_5.1.First, .sl (r_5.1.Path.map (AV.int .i64)) none, i6 r_5.1.Start.Lo, i6 (if (IntKind.i64.wrap (r_5.1.Start.Lo + 2)) < r_5.1.Start.Hi then (IntKind.i64.wrap (r_5.1.Start.Lo + 2)) else r_5.1.Start.Hi), i6 r_5.1.Stay, i6 r_5.1.People])]) ⟨[(C_bk_Drum r_5.2), [.sl (r_3.1.Town.Rooms.map (AV.int .i64)) none, .sl (r_3.1.Town.Streets.map A_Street) none, .sl (r_3.1.Town.Groups.map A_Group) none, i6 r_3.1.Town.Steps, i6 (if 8 < r_3.1.Break then 8 else r_3.1.Break), .sl (r_3.1.Sleep.map (AV.int .i64)) none], [i6 r_4.1.First, .sl (r_4.1.Path.map (AV.int .i64)) none, i6 r_4.1.Start.Lo, i6 (if (IntKind.i64.wrap (r_4.1.Start.Lo + 2)) < r_4.1.Start.Hi then (IntKind.i64.wrap (r_4.1.Start.Lo + 2)) else r_4.1.Start.Hi), i6 r_4.1.Stay, i6 r_4.1.People], [i6 r_5.1.First, .sl (r_5.1.Path.map (AV.int .i64)) none, i6 r_5.1.Start.Lo, i6 (if (IntKind.i64.wrap (r_5.1.Start.Lo + 2)) < r_5.1.Start.Hi then (IntKind.i64.wrap (r_5.1.Start.Lo + 2)) else r_5.1.Start.Hi), i6 r_5.1.Stay, i6 r_5.1.People]], []⟩ ?_)
   refine ExO.callL [] [.agg [.sl (r_3.1.Town.Rooms.map (AV.int .i64)) none, .sl (r_3.1.Town.Streets.map A_Street) none, .sl (r_3.1.Town.Groups.map A_Group) none, i6 r_3.1.Town.Steps, i6 (if 8 < r_3.1.Break then 8 else r_3.1.Break), .sl (r_3.1.Sleep.map (AV.int .i64)) none], .agg [i6 r_4.1.First, .sl (r_4.1.Path.map (AV.int .i64)) none, i6 r_4.1.Start.Lo, i6 (if (IntKind.i64.wrap (r_4.1.Start.Lo + 2)) < r_4.1.Start.Hi then (IntKind.i64.wrap (r_4.1.Start.Lo + 2)) else r_4.1.Start.Hi), i6 r_4.1.Stay, i6 r_4.1.People], .agg [i6 r_5.1.First, .sl (r_5.1.Path.map (AV.int .i64)) none, i6 r_5.1.Start.Lo, i6 (if (IntKind.i64.wrap (r_5.1.Start.Lo + 2)) < r_5.1.Start.Hi then (IntKind.i64.wrap (r_5.1.Start.Lo + 2)) else r_5.1.Start.Hi), i6 r_5.1.Stay, i6 r_5.1.People]] rfl rfl (a_band_Cross (⟨r_3.1.Town, (if 8 < r_3.1.Break then 8 else r_3.1.Break), r_3.1.Sleep⟩ : T_City) (⟨r_4.1.First, r_4.1.Path, (⟨r_4.1.Start.Lo, (if (IntKind.i64.wrap (r_4.1.Start.Lo + 2)) < r_4.1.Start.Hi then (IntKind.i64.wrap (r_4.1.Start.Lo + 2)) else r_4.1.Start.Hi)⟩ : T_Span), r_4.1.Stay, r_4.1.People⟩ : T_Band) (⟨r_5.1.First, r_5.1.Path, (⟨r_5.1.Start.Lo, (if (IntKind.i64.wrap (r_5.1.Start.Lo + 2)) < r_5.1.Start.Hi then (IntKind.i64.wrap (r_5.1.Start.Lo + 2)) else r_5.1.Start.Hi)⟩ : T_Span), r_5.1.Stay, r_5.1.People⟩ : T_Band)) rfl rfl (d_band_Cross N (⟨r_3.1.Town, (if 8 < r_3.1.Break then 8 else r_3.1.Break), r_3.1.Sleep⟩ : T_City) (⟨r_4.1.First, r_4.1.Path, (⟨r_4.1.Start.Lo, (if (IntKind.i64.wrap (r_4.1.Start.Lo + 2)) < r_4.1.Start.Hi then (IntKind.i64.wrap (r_4.1.Start.Lo + 2)) else r_4.1.Start.Hi)⟩ : T_Span), r_4.1.Stay, r_4.1.People⟩ : T_Band) (⟨r_5.1.First, r_5.1.Path, (⟨r_5.1.Start.Lo, (if (IntKind.i64.wrap (r_5.1.Start.Lo + 2)) < r_5.1.Start.Hi then (IntKind.i64.wrap (r_5.1.Start.Lo + 2)) else r_5.1.Start.Hi)⟩ : T_Span), r_5.1.Stay, r_5.1.People⟩ : T_Band) r_7 hr_7) (b_band_Cross _ _ _ _) rfl ?_
   refine rn 5 [4, 5, 6, 7, 8] (mkS 123 [(4, .ptr 1 0), (5, .ptr 2 0), (6, .ptr 3 0), (7, i6 r_7.1), (8, i6 r_7.2)]) ⟨[(C_bk_Drum r_5.2), [.sl (r_3.1.Town.Rooms.map (AV.int .i64)) none, .sl (r_3.1.Town.Streets.map A_Street) none, .sl (r_3.1.Town.Groups.map A_Group) none, i6 r_3.1.Town.Steps, i6 (if 8 < r_3.1.Break then 8 else r_3.1.Break), .sl (r_3.1.Sleep.map (AV.int .i64)) none], [i6 r_4.1.First, .sl (r_4.1.Path.map (AV.int .i64)) none, i6 r_4.1.Start.Lo, i6 (if (IntKind.i64.wrap (r_4.1.Start.Lo + 2)) < r_4.1.Start.Hi then (IntKind.i64.wrap (r_4.1.Start.Lo + 2)) else r_4.1.Start.Hi), i6 r_4.1.Stay, i6 r_4.1.People], [i6 r_5.1.First, .sl (r_5.1.Path.map (AV.int .i64)) none, i6 r_5.1.Start.Lo, i6 (if (IntKind.i64.wrap (r_5.1.Start.Lo + 2)) < r_5.1.Start.Hi then (IntKind.i64.wrap (r_5.1.Start.Lo + 2)) else r_5.1.Start.Hi), i6 r_5.1.Stay, i6 r_5.1.People]], []⟩ ?_
   refine ExO.nil ?_
   refine Ex.seq ?_
   obtain ⟨r_8, hr_8, h⟩ := bE h
   refine Ex.reg (rn 3 [4, 5, 6, 7, 8, 58, 59, 60] (mkS 123 [(4, .ptr 1 0), (5, .ptr 2 0), (6, .ptr 3 0), (7, i6 r_7.1), (8, i6 r_7.2), (58, .agg [.sl (r_3.1.Town.Rooms.map (AV.int .i64)) none, .sl (r_3.1.Town.Streets.map A_Street) none, .sl (r_3.1.Town.Groups.map A_Group) none, i6 r_3.1.Town.Steps, i6 (if 8 < r_3.1.Break then 8 else r_3.1.Break), .sl (r_3.1.Sleep.map (AV.int .i64)) none]), (59, .agg [i6 r_5.1.First, .sl (r_5.1.Path.map (AV.int .i64)) none, i6 r_5.1.Start.Lo, i6 (if (IntKind.i64.wrap (r_5.1.Start.Lo + 2)) < r_5.1.Start.Hi then (IntKind.i64.wrap (r_5.1.Start.Lo + 2)) else r_5.1.Start.Hi), i6 r_5.1.Stay, i6 r_5.1.People]), (60, .agg [i6 r_4.1.First, .sl (r_4.1.Path.map (AV.int .i64)) none, i6 r_4.1.Start.Lo, i6 (if (IntKind.i64.wrap (r_4.1.Start.Lo + 2)) < r_4.1.Start.Hi then (IntKind.i64.wrap (r_4.1.Start.Lo + 2)) else r_4.1.Start.Hi), i6 r_4.1.Stay, i6 r_4.1.People])]) ⟨[(C_bk_Drum r_5.2), [.sl (r_3.1.Town.Rooms.map (AV.int .i64)) none, .sl (r_3.1.Town.Streets.map A_Street) none, .sl (r_3.1.Town.Groups.map A_Group) none, i6 r_3.1.Town.Steps, i6 (if 8 < r_3.1.Break then 8 else r_3.1.Break), .sl (r_3.1.Sleep.map (AV.int .i64)) none], [i6 r_4.1.First, .sl (r_4.1.Path.map (AV.int .i64)) none, i6 r_4.1.Start.Lo, i6 (if (IntKind.i64.wrap (r_4.1.Start.Lo + 2)) < r_4.1.Start.Hi then (IntKind.i64.wrap (r_4.1.Start.Lo + 2)) else r_4.1.Start.Hi), i6 r_4.1.Stay, i6 r_4.1.People], [i6 r_5.1.First, .sl (r_5.1.Path.map (AV.int .i64)) none, i6 r_5.1.Start.Lo, i6 (if (IntKind.i64.wrap (r_5.1.Start.Lo + 2)) < r_5.1.Start.Hi then (IntKind.i64.wrap (r_5.1.Start.Lo + 2)) else r_5.1.Start.Hi), i6 r_5.1.Stay, i6 r_5.1.People]], []⟩ ?_)
   refine ExO.callL [] [.agg [.sl (r_3.1.Town.Rooms.map (AV.int .i64)) none, .sl (r_3.1.Town.Streets.map A_Street) none, .sl (r_3.1.Town.Groups.map A_Group) none, i6 r_3.1.Town.Steps, i6 (if 8 < r_3.1.Break then 8 else r_3.1.Break), .sl (r_3.1.Sleep.map (AV.int .i64)) none], .agg [i6 r_5.1.First, .sl (r_5.1.Path.map (AV.int .i64)) none, i6 r_5.1.Start.Lo, i6 (if (IntKind.i64.wrap (r_5.1.Start.Lo + 2)) < r_5.1.Start.Hi then (IntKind.i64.wrap (r_5.1.Start.Lo + 2)) else r_5.1.Start.Hi), i6 r_5.1.Stay, i6 r_5.1.People], .agg [i6 r_4.1.First, .sl (r_4.1.Path.map (AV.int .i64)) none, i6 r_4.1.Start.Lo, i6 (if (IntKind.i64.wrap (r_4.1.Start.Lo + 2)) < r_4.1.Start.Hi then (IntKind.i64.wrap (r_4.1.Start.Lo + 2)) else r_4.1.Start.Hi), i6 r_4.1.Stay, i6 r_4.1.People]] rfl rfl (a_band_Cross (⟨r_3.1.Town, (if 8 < r_3.1.Break then 8 else r_3.1.Break), r_3.1.Sleep⟩ : T_City) (⟨r_5.1.First, r_5.1.Path, (⟨r_5.1.Start.Lo, (if (IntKind.i64.wrap (r_5.1.Start.Lo + 2)) < r_5.1.Start.Hi then (IntKind.i64.wrap (r_5.1.Start.Lo + 2)) else r_5.1.Start.Hi)⟩ : T_Span), r_5.1.Stay, r_5.1.People⟩ : T_Band) (⟨r_4.1.First, r_4.1.Path, (⟨r_4.1.Start.Lo, (if (IntKind.i64.wrap (r_4.1.Start.Lo + 2)) < r_4.1.Start.Hi then (IntKind.i64.wrap (r_4.1.Start.Lo + 2)) else r_4.1.Start.Hi)⟩ : T_Span), r_4.1.Stay, r_4.1.People⟩ : T_Band)) rfl rfl (d_band_Cross N (⟨r_3.1.Town, (if 8 < r_3.1.Break then 8 else r_3.1.Break), r_3.1.Sleep⟩ : T_City) (⟨r_5.1.First, r_5.1.Path, (⟨r_5.1.Start.Lo, (if (IntKind.i64.wrap (r_5.1.Start.Lo + 2)) < r_5.1.Start.Hi then (IntKind.i64.wrap (r_5.1.Start.Lo + 2)) else r_5.1.Start.Hi)⟩ : T_Span), r_5.1.Stay, r_5.1.People⟩ : T_Band) (⟨r_4.1.First, r_4.1.Path, (⟨r_4.1.Start.Lo, (if (IntKind.i64.wrap (r_4.1.Start.Lo + 2)) < r_4.1.Start.Hi then (IntKind.i64.wrap (r_4.1.Start.Lo + 2)) else r_4.1.Start.Hi)⟩ : T_Span), r_4.1.Stay, r_4.1.People⟩ : T_Band) r_8 hr_8) (b_band_Cross _ _ _ _) rfl ?_
   refine rn 5 [4, 5, 6, 7, 8, 9, 10] (mkS 123 [(4, .ptr 1 0), (5, .ptr 2 0), (6, .ptr 3 0), (7, i6 r_7.1), (8, i6 r_7.2), (9, i6 r_8.1), (10, i6 r_8.2)]) ⟨[(C_bk_Drum r_5.2), [.sl (r_3.1.Town.Rooms.map (AV.int .i64)) none, .sl (r_3.1.Town.Streets.map A_Street) none, .sl (r_3.1.Town.Groups.map A_Group) none, i6 r_3.1.Town.Steps, i6 (if 8 < r_3.1.Break then 8 else r_3.1.Break), .sl (r_3.1.Sleep.map (AV.int .i64)) none], [i6 r_4.1.First, .sl (r_4.1.Path.map (AV.int .i64)) none, i6 r_4.1.Start.Lo, i6 (if (IntKind.i64.wrap (r_4.1.Start.Lo + 2)) < r_4.1.Start.Hi then (IntKind.i64.wrap (r_4.1.Start.Lo + 2)) else r_4.1.Start.Hi), i6 r_4.1.Stay, i6 r_4.1.People], [i6 r_5.1.First, .sl (r_5.1.Path.map (AV.int .i64)) none, i6 r_5.1.Start.Lo, i6 (if (IntKind.i64.wrap (r_5.1.Start.Lo + 2)) < r_5.1.Start.Hi then (IntKind.i64.wrap (r_5.1.Start.Lo + 2)) else r_5.1.Start.Hi), i6 r_5.1.Stay, i6 r_5.1.People]], []⟩ ?_
   refine ExO.nil ?_
   refine Ex.seq ?_
   obtain ⟨K_11, hK_12, h⟩ := letE h
   refine Ex.seqJ (fun a S => ∃ (y_9 : Bool), K_11 y_9 = some r ∧ a = mkS 123 [(4, .ptr 1 0), (5, .ptr 2 0), (6, .ptr 3 0), (7, i6 r_7.1), (74, .bool y_9)] ∧ S = ⟨[(C_bk_Drum r_5.2), [.sl (r_3.1.Town.Rooms.map (AV.int .i64)) none, .sl (r_3.1.Town.Streets.map A_Street) none, .sl (r_3.1.Town.Groups.map A_Group) none, i6 r_3.1.Town.Steps, i6 (if 8 < r_3.1.Break then 8 else r_3.1.Break), .sl (r_3.1.Sleep.map (AV.int .i64)) none], [i6 r_4.1.First, .sl (r_4.1.Path.map (AV.int .i64)) none, i6 r_4.1.Start.Lo, i6 (if (IntKind.i64.wrap (r_4.1.Start.Lo + 2)) < r_4.1.Start.Hi then (IntKind.i64.wrap (r_4.1.Start.Lo + 2)) else r_4.1.Start.Hi), i6 r_4.1.Stay, i6 r_4.1.People], [i6 r_5.1.First, .sl (r_5.1.Path.map (AV.int .i64)) none, i6 r_5.1.Start.Lo, i6 (if (IntKind.i64.wrap (r_5.1.Start.Lo + 2)) < r_5.1.Start.Hi then (IntKind.i64.wrap (r_5.1.Start.Lo + 2)) else r_5.1.Start.Hi), i6 r_5.1.Stay, i6 r_5.1.People]], []⟩) ?_ ?_
   ·rcases condI h with ⟨hc_13, h⟩ | ⟨hc_13, h⟩
    ·refine regH 11 [(2, .eq (.bool true))] [4, 5, 6, 7, 74] [AV.bool (r_7.2 != 0) = AV.bool true] (mkS 123 [(4, .ptr 1 0), (5, .ptr 2 0), (6, .ptr 3 0), (7, i6 r_7.1), (74, .bool true)]) (⟨[(C_bk_Drum r_5.2), [.sl (r_3.1.Town.Rooms.map (AV.int .i64)) none, .sl (r_3.1.Town.Streets.map A_Street) none, .sl (r_3.1.Town.Groups.map A_Group) none, i6 r_3.1.Town.Steps, i6 (if 8 < r_3.1.Break then 8 else r_3.1.Break), .sl (r_3.1.Sleep.map (AV.int .i64)) none], [i6 r_4.1.First, .sl (r_4.1.Path.map (AV.int .i64)) none, i6 r_4.1.Start.Lo, i6 (if (IntKind.i64.wrap (r_4.1.Start.Lo + 2)) < r_4.1.Start.Hi then (IntKind.i64.wrap (r_4.1.Start.Lo + 2)) else r_4.1.Start.Hi), i6 r_4.1.Stay, i6 r_4.1.People], [i6 r_5.1.First, .sl (r_5.1.Path.map (AV.int .i64)) none, i6 r_5.1.Start.Lo, i6 (if (IntKind.i64.wrap (r_5.1.Start.Lo + 2)) < r_5.1.Start.Hi then (IntKind.i64.wrap (r_5.1.Start.Lo + 2)) else r_5.1.Start.Hi), i6 r_5.1.Stay, i6 r_5.1.People]], []⟩) (by kernel_rfl) ⟨congrArg AV.bool hc_13, trivial⟩ rfl ?_
     (try simp only [reduceCtorEq, AEx.ex.injEq, Nat.reduceEqDiff, if_true, if_false])
     exact ⟨_, _, Forgets.refl _ _ _, true, h, rfl, rfl⟩
    ·rcases condI h with ⟨hc_14, h⟩ | ⟨hc_14, h⟩
     ·refine regH 11 [(2, .eq (.bool false)), (6, .eq (.bool true))] [4, 5, 6, 7, 74] [AV.bool (r_7.2 != 0) = AV.bool false, AV.bool (r_8.2 != 0) = AV.bool true] (mkS 123 [(4, .ptr 1 0), (5, .ptr 2 0), (6, .ptr 3 0), (7, i6 r_7.1), (74, .bool true)]) (⟨[(C_bk_Drum r_5.2), [.sl (r_3.1.Town.Rooms.map (AV.int .i64)) none, .sl (r_3.1.Town.Streets.map A_Street) none, .sl (r_3.1.Town.Groups.map A_Group) none, i6 r_3.1.Town.Steps, i6 (if 8 < r_3.1.Break then 8 else r_3.1.Break), .sl (r_3.1.Sleep.map (AV.int .i64)) none], [i6 r_4.1.First, .sl (r_4.1.Path.map (AV.int .i64)) none, i6 r_4.1.Start.Lo, i6 (if (IntKind.i64.wrap (r_4.1.Start.Lo + 2)) < r_4.1.Start.Hi then (IntKind.i64.wrap (r_4.1.Start.Lo + 2)) else r_4.1.Start.Hi), i6 r_4.1.Stay, i6 r_4.1.People], [i6 r_5.1.First, .sl (r_5.1.Path.map (AV.int .i64)) none, i6 r_5.1.Start.Lo, i6 (if (IntKind.i64.wrap (r_5.1.Start.Lo + 2)) < r_5.1.Start.Hi then (IntKind.i64.wrap (r_5.1.Start.Lo + 2)) else r_5.1.Start.Hi), i6 r_5.1.Stay, i6 r_5.1.People]], []⟩) (by kernel_rfl) ⟨congrArg AV.bool hc_13, congrArg AV.bool hc_14, trivial⟩ rfl ?_
      (try simp only [reduceCtorEq, AEx.ex.injEq, Nat.reduceEqDiff, if_true, if_false])
      exact ⟨_, _, Forgets.refl _ _ _, true, h, rfl, rfl⟩
     ·refine regH 11 [(2, .eq (.bool false)), (6, .eq (.bool false))] [4, 5, 6, 7, 74] [AV.bool (r_7.2 != 0) = AV.bool false, AV.bool (r_8.2 != 0) = AV.bool false] (mkS 123 [(4, .ptr 1 0), (5, .ptr 2 0), (6, .ptr 3 0), (7, i6 r_7.1), (74, .bool (r_7.1 != r_8.1))]) (⟨[(C_bk_Drum r_5.2), [.sl (r_3.1.Town.Rooms.map (AV.int .i64)) none, .sl (r_3.1.Town.Streets.map A_Street) none, .sl (r_3.1.Town.Groups.map A_Group) none, i6 r_3.1.Town.Steps, i6 (if 8 < r_3.1.Break then 8 else r_3.1.Break), .sl (r_3.1.Sleep.map (AV.int .i64)) none], [i6 r_4.1.First, .sl (r_4.1.Path.map (AV.int .i64)) none, i6 r_4.1.Start.Lo, i6 (if (IntKind.i64.wrap (r_4.1.Start.Lo + 2)) < r_4.1.Start.Hi then (IntKind.i64.wrap (r_4.1.Start.Lo + 2)) else r_4.1.Start.Hi), i6 r_4.1.Stay, i6 r_4.1.People], [i6 r_5.1.First, .sl (r_5.1.Path.map (AV.int .i64)) none, i6 r_5.1.Start.Lo, i6 (if (IntKind.i64.wrap (r_5.1.Start.Lo + 2)) < r_5.1.Start.Hi then (IntKind.i64.wrap (r_5.1.Start.Lo + 2)) else r_5.1.Start.Hi), i6 r_5.1.Stay, i6 r_5.1.People]], []⟩) (by kernel_rfl) ⟨congrArg AV.bool hc_13, congrArg AV.bool hc_14, trivial⟩ rfl ?_
      (try simp only [reduceCtorEq, AEx.ex.injEq, Nat.reduceEqDiff, if_true, if_false])
      exact ⟨_, _, Forgets.refl _ _ _, (r_7.1 != r_8.1), h, rfl, rfl⟩
   ·rintro a S ⟨y_9, h, rfl, rfl⟩
    subst hK_12
    rcases condI h with ⟨hc_15, h⟩ | ⟨hc_15, h⟩
    ·refine Ex.condT _ rfl hc_15 ?_
     refine Ex.seq (rg 1 [2] (mkS 123 [(2, .bool false)]) ⟨[(C_bk_Drum r_5.2), [.sl (r_3.1.Town.Rooms.map (AV.int .i64)) none, .sl (r_3.1.Town.Streets.map A_Street) none, .sl (r_3.1.Town.Groups.map A_Group) none, i6 r_3.1.Town.Steps, i6 (if 8 < r_3.1.Break then 8 else r_3.1.Break), .sl (r_3.1.Sleep.map (AV.int .i64)) none], [i6 r_4.1.First, .sl (r_4.1.Path.map (AV.int .i64)) none, i6 r_4.1.Start.Lo, i6 (if (IntKind.i64.wrap (r_4.1.Start.Lo + 2)) < r_4.1.Start.Hi then (IntKind.i64.wrap (r_4.1.Start.Lo + 2)) else r_4.1.Start.Hi), i6 r_4.1.Stay, i6 r_4.1.People], [i6 r_5.1.First, .sl (r_5.1.Path.map (AV.int .i64)) none, i6 r_5.1.Start.Lo, i6 (if (IntKind.i64.wrap (r_5.1.Start.Lo + 2)) < r_5.1.Start.Hi then (IntKind.i64.wrap (r_5.1.Start.Lo + 2)) else r_5.1.Start.Hi), i6 r_5.1.Stay, i6 r_5.1.People]], []⟩ ?_)
     refine Ex.ret ?_
     obtain rfl := sJ h
     exact rt (.bool false)
    ·refine Ex.condF _ rfl hc_15 ?_
     refine Ex.skip ?_
     refine Ex.seq (rg 2 [4, 5, 6, 7, 11, 12] (mkS 123 [(4, .ptr 1 0), (5, .ptr 2 0), (6, .ptr 3 0), (7, i6 r_7.1), (11, .bool false), (12, .bool true)]) ⟨[(C_bk_Drum r_5.2), [.sl (r_3.1.Town.Rooms.map (AV.int .i64)) none, .sl (r_3.1.Town.Streets.map A_Street) none, .sl (r_3.1.Town.Groups.map A_Group) none, i6 r_3.1.Town.Steps, i6 (if 8 < r_3.1.Break then 8 else r_3.1.Break), .sl (r_3.1.Sleep.map (AV.int .i64)) none], [i6 r_4.1.First, .sl (r_4.1.Path.map (AV.int .i64)) none, i6 r_4.1.Start.Lo, i6 (if (IntKind.i64.wrap (r_4.1.Start.Lo + 2)) < r_4.1.Start.Hi then (IntKind.i64.wrap (r_4.1.Start.Lo + 2)) else r_4.1.Start.Hi), i6 r_4.1.Stay, i6 r_4.1.People], [i6 r_5.1.First, .sl (r_5.1.Path.map (AV.int .i64)) none, i6 r_5.1.Start.Lo, i6 (if (IntKind.i64.wrap (r_5.1.Start.Lo + 2)) < r_5.1.Start.Hi then (IntKind.i64.wrap (r_5.1.Start.Lo + 2)) else r_5.1.Start.Hi), i6 r_5.1.Stay, i6 r_5.1.People]], []⟩ ?_)
     refine Ex.seq (Ex.seq ?_)
     refine rg 4 [4, 5, 6, 7, 11, 12, 13] (mkS 123 [(4, .ptr 1 0), (5, .ptr 2 0), (6, .ptr 3 0), (7, i6 r_7.1), (11, .bool false), (12, .bool true), (13, i6 r_4.1.Start.Lo)]) ⟨[(C_bk_Drum r_5.2), [.sl (r_3.1.Town.Rooms.map (AV.int .i64)) none, .sl (r_3.1.Town.Streets.map A_Street) none, .sl (r_3.1.Town.Groups.map A_Group) none, i6 r_3.1.Town.Steps, i6 (if 8 < r_3.1.Break then 8 else r_3.1.Break), .sl (r_3.1.Sleep.map (AV.int .i64)) none], [i6 r_4.1.First, .sl (r_4.1.Path.map (AV.int .i64)) none, i6 r_4.1.Start.Lo, i6 (if (IntKind.i64.wrap (r_4.1.Start.Lo + 2)) < r_4.1.Start.Hi then (IntKind.i64.wrap (r_4.1.Start.Lo + 2)) else r_4.1.Start.Hi), i6 r_4.1.Stay, i6 r_4.1.People], [i6 r_5.1.First, .sl (r_5.1.Path.map (AV.int .i64)) none, i6 r_5.1.Start.Lo, i6 (if (IntKind.i64.wrap (r_5.1.Start.Lo + 2)) < r_5.1.Start.Hi then (IntKind.i64.wrap (r_5.1.Start.Lo + 2)) else r_5.1.Start.Hi), i6 r_5.1.Stay, i6 r_5.1.People]], []⟩ ?_
     obtain ⟨K_19, hK_20, h⟩ := letE h
     refine Ex.blockJ (fun a S => ∃ (some_16 : Bool), ∃ (all_17 : Bool), K_19 some_16 all_17 = some r ∧ a = mkS 123 [(7, i6 r_7.1), (11, .bool some_16), (12, .bool all_17)] ∧ S = ⟨[], []⟩) ?_ ?_
     ·obtain ⟨B_25, hB_26, h⟩ := loop3I h
      refine Ex.loopF (fun k a S => ∃ (some_21 : Bool), ∃ (all_22 : Bool), ∃ (m_23 : Int), loop3 B_25 k some_21 all_22 m_23 = some r ∧ a = mkS 123 [(4, .ptr 1 0), (5, .ptr 2 0), (6, .ptr 3 0), (7, i6 r_7.1), (11, .bool some_21), (12, .bool all_22), (13, i6 m_23)] ∧ S = ⟨[(C_bk_Drum r_5.2), [.sl (r_3.1.Town.Rooms.map (AV.int .i64)) none, .sl (r_3.1.Town.Streets.map A_Street) none, .sl (r_3.1.Town.Groups.map A_Group) none, i6 r_3.1.Town.Steps, i6 (if 8 < r_3.1.Break then 8 else r_3.1.Break), .sl (r_3.1.Sleep.map (AV.int .i64)) none], [i6 r_4.1.First, .sl (r_4.1.Path.map (AV.int .i64)) none, i6 r_4.1.Start.Lo, i6 (if (IntKind.i64.wrap (r_4.1.Start.Lo + 2)) < r_4.1.Start.Hi then (IntKind.i64.wrap (r_4.1.Start.Lo + 2)) else r_4.1.Start.Hi), i6 r_4.1.Stay, i6 r_4.1.People], [i6 r_5.1.First, .sl (r_5.1.Path.map (AV.int .i64)) none, i6 r_5.1.Start.Lo, i6 (if (IntKind.i64.wrap (r_5.1.Start.Lo + 2)) < r_5.1.Start.Hi then (IntKind.i64.wrap (r_5.1.Start.Lo + 2)) else r_5.1.Start.Hi), i6 r_5.1.Stay, i6 r_5.1.People]], []⟩) N ⟨_, _, Forgets.refl _ _ _, false, true, r_4.1.Start.Lo, h, rfl, rfl⟩ ?_
      rintro k a S ⟨some_21, all_22, m_23, h, rfl, rfl⟩
      cases k with
      | zero => exact (loop3Z h).elim
      | succ k =>
       replace h := loop3S h hB_26
       refine Ex.seq (Ex.seq ?_)
       refine rg 5 [4, 5, 6, 7, 11, 12, 13, 82] (mkS 123 [(4, .ptr 1 0), (5, .ptr 2 0), (6, .ptr 3 0), (7, i6 r_7.1), (11, .bool some_21), (12, .bool all_22), (13, i6 m_23), (82, .bool (decide (m_23 ≤ (if (IntKind.i64.wrap (r_4.1.Start.Lo + 2)) < r_4.1.Start.Hi then (IntKind.i64.wrap (r_4.1.Start.Lo + 2)) else r_4.1.Start.Hi))))]) ⟨[(C_bk_Drum r_5.2), [.sl (r_3.1.Town.Rooms.map (AV.int .i64)) none, .sl (r_3.1.Town.Streets.map A_Street) none, .sl (r_3.1.Town.Groups.map A_Group) none, i6 r_3.1.Town.Steps, i6 (if 8 < r_3.1.Break then 8 else r_3.1.Break), .sl (r_3.1.Sleep.map (AV.int .i64)) none], [i6 r_4.1.First, .sl (r_4.1.Path.map (AV.int .i64)) none, i6 r_4.1.Start.Lo, i6 (if (IntKind.i64.wrap (r_4.1.Start.Lo + 2)) < r_4.1.Start.Hi then (IntKind.i64.wrap (r_4.1.Start.Lo + 2)) else r_4.1.Start.Hi), i6 r_4.1.Stay, i6 r_4.1.People], [i6 r_5.1.First, .sl (r_5.1.Path.map (AV.int .i64)) none, i6 r_5.1.Start.Lo, i6 (if (IntKind.i64.wrap (r_5.1.Start.Lo + 2)) < r_5.1.Start.Hi then (IntKind.i64.wrap (r_5.1.Start.Lo + 2)) else r_5.1.Start.Hi), i6 r_5.1.Stay, i6 r_5.1.People]], []⟩ ?_
       rcases condI h with ⟨hc_27, h⟩ | ⟨hc_27, h⟩
       ·refine Ex.condT _ rfl hc_27 ?_
        refine Ex.skip ?_
        refine Ex.seq ?_
        refine Ex.blockK ?_
        refine Ex.seq (rg 4 [4, 5, 6, 7, 11, 12, 13, 14] (mkS 123 [(4, .ptr 1 0), (5, .ptr 2 0), (6, .ptr 3 0), (7, i6 r_7.1), (11, .bool some_21), (12, .bool all_22), (13, i6 m_23), (14, i6 r_5.1.Start.Lo)]) ⟨[(C_bk_Drum r_5.2), [.sl (r_3.1.Town.Rooms.map (AV.int .i64)) none, .sl (r_3.1.Town.Streets.map A_Street) none, .sl (r_3.1.Town.Groups.map A_Group) none, i6 r_3.1.Town.Steps, i6 (if 8 < r_3.1.Break then 8 else r_3.1.Break), .sl (r_3.1.Sleep.map (AV.int .i64)) none], [i6 r_4.1.First, .sl (r_4.1.Path.map (AV.int .i64)) none, i6 r_4.1.Start.Lo, i6 (if (IntKind.i64.wrap (r_4.1.Start.Lo + 2)) < r_4.1.Start.Hi then (IntKind.i64.wrap (r_4.1.Start.Lo + 2)) else r_4.1.Start.Hi), i6 r_4.1.Stay, i6 r_4.1.People], [i6 r_5.1.First, .sl (r_5.1.Path.map (AV.int .i64)) none, i6 r_5.1.Start.Lo, i6 (if (IntKind.i64.wrap (r_5.1.Start.Lo + 2)) < r_5.1.Start.Hi then (IntKind.i64.wrap (r_5.1.Start.Lo + 2)) else r_5.1.Start.Hi), i6 r_5.1.Stay, i6 r_5.1.People]], []⟩ ?_)
        obtain ⟨K_31, hK_32, h⟩ := letE h
        refine Ex.blockJ (fun a S => ∃ (some_28 : Bool), ∃ (all_29 : Bool), K_31 some_28 all_29 = some r ∧ a = mkS 123 [(4, .ptr 1 0), (5, .ptr 2 0), (6, .ptr 3 0), (7, i6 r_7.1), (11, .bool some_28), (12, .bool all_29), (13, i6 m_23)] ∧ S = ⟨[(C_bk_Drum r_5.2), [.sl (r_3.1.Town.Rooms.map (AV.int .i64)) none, .sl (r_3.1.Town.Streets.map A_Street) none, .sl (r_3.1.Town.Groups.map A_Group) none, i6 r_3.1.Town.Steps, i6 (if 8 < r_3.1.Break then 8 else r_3.1.Break), .sl (r_3.1.Sleep.map (AV.int .i64)) none], [i6 r_4.1.First, .sl (r_4.1.Path.map (AV.int .i64)) none, i6 r_4.1.Start.Lo, i6 (if (IntKind.i64.wrap (r_4.1.Start.Lo + 2)) < r_4.1.Start.Hi then (IntKind.i64.wrap (r_4.1.Start.Lo + 2)) else r_4.1.Start.Hi), i6 r_4.1.Stay, i6 r_4.1.People], [i6 r_5.1.First, .sl (r_5.1.Path.map (AV.int .i64)) none, i6 r_5.1.Start.Lo, i6 (if (IntKind.i64.wrap (r_5.1.Start.Lo + 2)) < r_5.1.Start.Hi then (IntKind.i64.wrap (r_5.1.Start.Lo + 2)) else r_5.1.Start.Hi), i6 r_5.1.Stay, i6 r_5.1.People]], []⟩) ?_ ?_
        ·obtain ⟨B_37, hB_38, h⟩ := loop3I h
         refine Ex.loopF (fun k a S => ∃ (some_33 : Bool), ∃ (all_34 : Bool), ∃ (n_35 : Int), loop3 B_37 k some_33 all_34 n_35 = some r ∧ a = mkS 123 [(4, .ptr 1 0), (5, .ptr 2 0), (6, .ptr 3 0), (7, i6 r_7.1), (11, .bool some_33), (12, .bool all_34), (13, i6 m_23), (14, i6 n_35)] ∧ S = ⟨[(C_bk_Drum r_5.2), [.sl (r_3.1.Town.Rooms.map (AV.int .i64)) none, .sl (r_3.1.Town.Streets.map A_Street) none, .sl (r_3.1.Town.Groups.map A_Group) none, i6 r_3.1.Town.Steps, i6 (if 8 < r_3.1.Break then 8 else r_3.1.Break), .sl (r_3.1.Sleep.map (AV.int .i64)) none], [i6 r_4.1.First, .sl (r_4.1.Path.map (AV.int .i64)) none, i6 r_4.1.Start.Lo, i6 (if (IntKind.i64.wrap (r_4.1.Start.Lo + 2)) < r_4.1.Start.Hi then (IntKind.i64.wrap (r_4.1.Start.Lo + 2)) else r_4.1.Start.Hi), i6 r_4.1.Stay, i6 r_4.1.People], [i6 r_5.1.First, .sl (r_5.1.Path.map (AV.int .i64)) none, i6 r_5.1.Start.Lo, i6 (if (IntKind.i64.wrap (r_5.1.Start.Lo + 2)) < r_5.1.Start.Hi then (IntKind.i64.wrap (r_5.1.Start.Lo + 2)) else r_5.1.Start.Hi), i6 r_5.1.Stay, i6 r_5.1.People]], []⟩) N ⟨_, _, Forgets.refl _ _ _, some_21, all_22, r_5.1.Start.Lo, h, rfl, rfl⟩ ?_
         rintro k a S ⟨some_33, all_34, n_35, h, rfl, rfl⟩
         cases k with
         | zero => exact (loop3Z h).elim
         | succ k =>
          replace h := loop3S h hB_38
          refine Ex.seq (Ex.seq ?_)
          refine rg 5 [4, 5, 6, 7, 11, 12, 13, 14, 92] (mkS 123 [(4, .ptr 1 0), (5, .ptr 2 0), (6, .ptr 3 0), (7, i6 r_7.1), (11, .bool some_33), (12, .bool all_34), (13, i6 m_23), (14, i6 n_35), (92, .bool (decide (n_35 ≤ (if (IntKind.i64.wrap (r_5.1.Start.Lo + 2)) < r_5.1.Start.Hi then (IntKind.i64.wrap (r_5.1.Start.Lo + 2)) else r_5.1.Start.Hi))))]) ⟨[(C_bk_Drum r_5.2), [.sl (r_3.1.Town.Rooms.map (AV.int .i64)) none, .sl (r_3.1.Town.Streets.map A_Street) none, .sl (r_3.1.Town.Groups.map A_Group) none, i6 r_3.1.Town.Steps, i6 (if 8 < r_3.1.Break then 8 else r_3.1.Break), .sl (r_3.1.Sleep.map (AV.int .i64)) none], [i6 r_4.1.First, .sl (r_4.1.Path.map (AV.int .i64)) none, i6 r_4.1.Start.Lo, i6 (if (IntKind.i64.wrap (r_4.1.Start.Lo + 2)) < r_4.1.Start.Hi then (IntKind.i64.wrap (r_4.1.Start.Lo + 2)) else r_4.1.Start.Hi), i6 r_4.1.Stay, i6 r_4.1.People], [i6 r_5.1.First, .sl (r_5.1.Path.map (AV.int .i64)) none, i6 r_5.1.Start.Lo, i6 (if (IntKind.i64.wrap (r_5.1.Start.Lo + 2)) < r_5.1.Start.Hi then (IntKind.i64.wrap (r_5.1.Start.Lo + 2)) else r_5.1.Start.Hi), i6 r_5.1.Stay, i6 r_5.1.People]], []⟩ ?_
          rcases condI h with ⟨hc_39, h⟩ | ⟨hc_39, h⟩
          ·refine Ex.condT _ rfl hc_39 ?_
           refine Ex.skip ?_
           refine Ex.seq ?_
           obtain ⟨K_43, hK_44, h⟩ := letE h
           refine Ex.blockJ (fun a S => ∃ (some_40 : Bool), ∃ (all_41 : Bool), K_43 some_40 all_41 = some r ∧ a = mkS 123 [(4, .ptr 1 0), (5, .ptr 2 0), (6, .ptr 3 0), (7, i6 r_7.1), (11, .bool some_40), (12, .bool all_41), (13, i6 m_23), (14, i6 n_35)] ∧ S = ⟨[(C_bk_Drum r_5.2), [.sl (r_3.1.Town.Rooms.map (AV.int .i64)) none, .sl (r_3.1.Town.Streets.map A_Street) none, .sl (r_3.1.Town.Groups.map A_Group) none, i6 r_3.1.Town.Steps, i6 (if 8 < r_3.1.Break then 8 else r_3.1.Break), .sl (r_3.1.Sleep.map (AV.int .i64)) none], [i6 r_4.1.First, .sl (r_4.1.Path.map (AV.int .i64)) none, i6 r_4.1.Start.Lo, i6 (if (IntKind.i64.wrap (r_4.1.Start.Lo + 2)) < r_4.1.Start.Hi then (IntKind.i64.wrap (r_4.1.Start.Lo + 2)) else r_4.1.Start.Hi), i6 r_4.1.Stay, i6 r_4.1.People], [i6 r_5.1.First, .sl (r_5.1.Path.map (AV.int .i64)) none, i6 r_5.1.Start.Lo, i6 (if (IntKind.i64.wrap (r_5.1.Start.Lo + 2)) < r_5.1.Start.Hi then (IntKind.i64.wrap (r_5.1.Start.Lo + 2)) else r_5.1.Start.Hi), i6 r_5.1.Stay, i6 r_5.1.People]], []⟩) ?_ ?_
           ·refine Ex.seq ?_
            obtain ⟨r_45, hr_45, h⟩ := bE h
            refine Ex.reg (rn 5 [4, 5, 6, 7, 11, 12, 13, 14, 95, 96, 97, 98, 99] (mkS 123 [(4, .ptr 1 0), (5, .ptr 2 0), (6, .ptr 3 0), (7, i6 r_7.1), (11, .bool some_33), (12, .bool all_34), (13, i6 m_23), (14, i6 n_35), (95, .agg [.sl (r_3.1.Town.Rooms.map (AV.int .i64)) none, .sl (r_3.1.Town.Streets.map A_Street) none, .sl (r_3.1.Town.Groups.map A_Group) none, i6 r_3.1.Town.Steps, i6 (if 8 < r_3.1.Break then 8 else r_3.1.Break), .sl (r_3.1.Sleep.map (AV.int .i64)) none]), (96, .agg [i6 r_4.1.First, .sl (r_4.1.Path.map (AV.int .i64)) none, i6 r_4.1.Start.Lo, i6 (if (IntKind.i64.wrap (r_4.1.Start.Lo + 2)) < r_4.1.Start.Hi then (IntKind.i64.wrap (r_4.1.Start.Lo + 2)) else r_4.1.Start.Hi), i6 r_4.1.Stay, i6 r_4.1.People]), (97, .agg [i6 r_5.1.First, .sl (r_5.1.Path.map (AV.int .i64)) none, i6 r_5.1.Start.Lo, i6 (if (IntKind.i64.wrap (r_5.1.Start.Lo + 2)) < r_5.1.Start.Hi then (IntKind.i64.wrap (r_5.1.Start.Lo + 2)) else r_5.1.Start.Hi), i6 r_5.1.Stay, i6 r_5.1.People]), (98, i6 m_23), (99, i6 n_35)]) ⟨[(C_bk_Drum r_5.2), [.sl (r_3.1.Town.Rooms.map (AV.int .i64)) none, .sl (r_3.1.Town.Streets.map A_Street) none, .sl (r_3.1.Town.Groups.map A_Group) none, i6 r_3.1.Town.Steps, i6 (if 8 < r_3.1.Break then 8 else r_3.1.Break), .sl (r_3.1.Sleep.map (AV.int .i64)) none], [i6 r_4.1.First, .sl (r_4.1.Path.map (AV.int .i64)) none, i6 r_4.1.Start.Lo, i6 (if (IntKind.i64.wrap (r_4.1.Start.Lo + 2)) < r_4.1.Start.Hi then (IntKind.i64.wrap (r_4.1.Start.Lo + 2)) else r_4.1.Start.Hi), i6 r_4.1.Stay, i6 r_4.1.People], [i6 r_5.1.First, .sl (r_5.1.Path.map (AV.int .i64)) none, i6 r_5.1.Start.Lo, i6 (if (IntKind.i64.wrap (r_5.1.Start.Lo + 2)) < r_5.1.Start.Hi then (IntKind.i64.wrap (r_5.1.Start.Lo + 2)) else r_5.1.Start.Hi), i6 r_5.1.Stay, i6 r_5.1.People]], []⟩ ?_)
            refine ExO.callL [] [.agg [.sl (r_3.1.Town.Rooms.map (AV.int .i64)) none, .sl (r_3.1.Town.Streets.map A_Street) none, .sl (r_3.1.Town.Groups.map A_Group) none, i6 r_3.1.Town.Steps, i6 (if 8 < r_3.1.Break then 8 else r_3.1.Break), .sl (r_3.1.Sleep.map (AV.int .i64)) none], .agg [i6 r_4.1.First, .sl (r_4.1.Path.map (AV.int .i64)) none, i6 r_4.1.Start.Lo, i6 (if (IntKind.i64.wrap (r_4.1.Start.Lo + 2)) < r_4.1.Start.Hi then (IntKind.i64.wrap (r_4.1.Start.Lo + 2)) else r_4.1.Start.Hi), i6 r_4.1.Stay, i6 r_4.1.People], .agg [i6 r_5.1.First, .sl (r_5.1.Path.map (AV.int .i64)) none, i6 r_5.1.Start.Lo, i6 (if (IntKind.i64.wrap (r_5.1.Start.Lo + 2)) < r_5.1.Start.Hi then (IntKind.i64.wrap (r_5.1.Start.Lo + 2)) else r_5.1.Start.Hi), i6 r_5.1.Stay, i6 r_5.1.People], i6 m_23, i6 n_35] rfl rfl (a_bl7_crossed (⟨r_3.1.Town, (if 8 < r_3.1.Break then 8 else r_3.1.Break), r_3.1.Sleep⟩ : T_City) (⟨r_4.1.First, r_4.1.Path, (⟨r_4.1.Start.Lo, (if (IntKind.i64.wrap (r_4.1.Start.Lo + 2)) < r_4.1.Start.Hi then (IntKind.i64.wrap (r_4.1.Start.Lo + 2)) else r_4.1.Start.Hi)⟩ : T_Span), r_4.1.Stay, r_4.1.People⟩ : T_Band) (⟨r_5.1.First, r_5.1.Path, (⟨r_5.1.Start.Lo, (if (IntKind.i64.wrap (r_5.1.Start.Lo + 2)) < r_5.1.Start.Hi then (IntKind.i64.wrap (r_5.1.Start.Lo + 2)) else r_5.1.Start.Hi)⟩ : T_Span), r_5.1.Stay, r_5.1.People⟩ : T_Band) m_23 n_35) rfl rfl (d_bl7_crossed N (⟨r_3.1.Town, (if 8 < r_3.1.Break then 8 else r_3.1.Break), r_3.1.Sleep⟩ : T_City) (⟨r_4.1.First, r_4.1.Path, (⟨r_4.1.Start.Lo, (if (IntKind.i64.wrap (r_4.1.Start.Lo + 2)) < r_4.1.Start.Hi then (IntKind.i64.wrap (r_4.1.Start.Lo + 2)) else r_4.1.Start.Hi)⟩ : T_Span), r_4.1.Stay, r_4.1.People⟩ : T_Band) (⟨r_5.1.First, r_5.1.Path, (⟨r_5.1.Start.Lo, (if (IntKind.i64.wrap (r_5.1.Start.Lo + 2)) < r_5.1.Start.Hi then (IntKind.i64.wrap (r_5.1.Start.Lo + 2)) else r_5.1.Start.Hi)⟩ : T_Span), r_5.1.Stay, r_5.1.People⟩ : T_Band) m_23 n_35 r_45 hr_45) (b_bl7_crossed _ _ _ _) rfl ?_
            refine rn 1 [4, 5, 6, 7, 11, 12, 13, 14, 15] (mkS 123 [(4, .ptr 1 0), (5, .ptr 2 0), (6, .ptr 3 0), (7, i6 r_7.1), (11, .bool some_33), (12, .bool all_34), (13, i6 m_23), (14, i6 n_35), (15, .bool r_45)]) ⟨[(C_bk_Drum r_5.2), [.sl (r_3.1.Town.Rooms.map (AV.int .i64)) none, .sl (r_3.1.Town.Streets.map A_Street) none, .sl (r_3.1.Town.Groups.map A_Group) none, i6 r_3.1.Town.Steps, i6 (if 8 < r_3.1.Break then 8 else r_3.1.Break), .sl (r_3.1.Sleep.map (AV.int .i64)) none], [i6 r_4.1.First, .sl (r_4.1.Path.map (AV.int .i64)) none, i6 r_4.1.Start.Lo, i6 (if (IntKind.i64.wrap (r_4.1.Start.Lo + 2)) < r_4.1.Start.Hi then (IntKind.i64.wrap (r_4.1.Start.Lo + 2)) else r_4.1.Start.Hi), i6 r_4.1.Stay, i6 r_4.1.People], [i6 r_5.1.First, .sl (r_5.1.Path.map (AV.int .i64)) none, i6 r_5.1.Start.Lo, i6 (if (IntKind.i64.wrap (r_5.1.Start.Lo + 2)) < r_5.1.Start.Hi then (IntKind.i64.wrap (r_5.1.Start.Lo + 2)) else r_5.1.Start.Hi), i6 r_5.1.Stay, i6 r_5.1.People]], []⟩ ?_
            refine ExO.nil ?_
            rcases condI h with ⟨hc_46, h⟩ | ⟨hc_46, h⟩
            ·rcases condI h with ⟨hc_47, h⟩ | ⟨hc_47, h⟩
             ·refine regH 10 [(1, .eq (.bool true)), (5, .eq (.bool true))] [4, 5, 6, 7, 11, 12, 13, 14] [AV.bool some_33 = AV.bool true, AV.bool all_34 = AV.bool true] (mkS 123 [(4, .ptr 1 0), (5, .ptr 2 0), (6, .ptr 3 0), (7, i6 r_7.1), (11, .bool true), (12, .bool r_45), (13, i6 m_23), (14, i6 n_35)]) (⟨[(C_bk_Drum r_5.2), [.sl (r_3.1.Town.Rooms.map (AV.int .i64)) none, .sl (r_3.1.Town.Streets.map A_Street) none, .sl (r_3.1.Town.Groups.map A_Group) none, i6 r_3.1.Town.Steps, i6 (if 8 < r_3.1.Break then 8 else r_3.1.Break), .sl (r_3.1.Sleep.map (AV.int .i64)) none], [i6 r_4.1.First, .sl (r_4.1.Path.map (AV.int .i64)) none, i6 r_4.1.Start.Lo, i6 (if (IntKind.i64.wrap (r_4.1.Start.Lo + 2)) < r_4.1.Start.Hi then (IntKind.i64.wrap (r_4.1.Start.Lo + 2)) else r_4.1.Start.Hi), i6 r_4.1.Stay, i6 r_4.1.People], [i6 r_5.1.First, .sl (r_5.1.Path.map (AV.int .i64)) none, i6 r_5.1.Start.Lo, i6 (if (IntKind.i64.wrap (r_5.1.Start.Lo + 2)) < r_5.1.Start.Hi then (IntKind.i64.wrap (r_5.1.Start.Lo + 2)) else r_5.1.Start.Hi), i6 r_5.1.Stay, i6 r_5.1.People]], []⟩) (by kernel_rfl) ⟨congrArg AV.bool hc_46, congrArg AV.bool hc_47, trivial⟩ rfl ?_
              (try simp only [reduceCtorEq, AEx.ex.injEq, Nat.reduceEqDiff, if_true, if_false])
              exact ⟨_, _, Forgets.refl _ _ _, true, r_45, h, rfl, rfl⟩
             ·refine regH 10 [(1, .eq (.bool true)), (5, .eq (.bool false))] [4, 5, 6, 7, 11, 12, 13, 14] [AV.bool some_33 = AV.bool true, AV.bool all_34 = AV.bool false] (mkS 123 [(4, .ptr 1 0), (5, .ptr 2 0), (6, .ptr 3 0), (7, i6 r_7.1), (11, .bool true), (12, .bool false), (13, i6 m_23), (14, i6 n_35)]) (⟨[(C_bk_Drum r_5.2), [.sl (r_3.1.Town.Rooms.map (AV.int .i64)) none, .sl (r_3.1.Town.Streets.map A_Street) none, .sl (r_3.1.Town.Groups.map A_Group) none, i6 r_3.1.Town.Steps, i6 (if 8 < r_3.1.Break then 8 else r_3.1.Break), .sl (r_3.1.Sleep.map (AV.int .i64)) none], [i6 r_4.1.First, .sl (r_4.1.Path.map (AV.int .i64)) none, i6 r_4.1.Start.Lo, i6 (if (IntKind.i64.wrap (r_4.1.Start.Lo + 2)) < r_4.1.Start.Hi then (IntKind.i64.wrap (r_4.1.Start.Lo + 2)) else r_4.1.Start.Hi), i6 r_4.1.Stay, i6 r_4.1.People], [i6 r_5.1.First, .sl (r_5.1.Path.map (AV.int .i64)) none, i6 r_5.1.Start.Lo, i6 (if (IntKind.i64.wrap (r_5.1.Start.Lo + 2)) < r_5.1.Start.Hi then (IntKind.i64.wrap (r_5.1.Start.Lo + 2)) else r_5.1.Start.Hi), i6 r_5.1.Stay, i6 r_5.1.People]], []⟩) (by kernel_rfl) ⟨congrArg AV.bool hc_46, congrArg AV.bool hc_47, trivial⟩ rfl ?_
              (try simp only [reduceCtorEq, AEx.ex.injEq, Nat.reduceEqDiff, if_true, if_false])
              exact ⟨_, _, Forgets.refl _ _ _, true, false, h, rfl, rfl⟩
            ·rcases condI h with ⟨hc_48, h⟩ | ⟨hc_48, h⟩
             ·refine regH 10 [(1, .eq (.bool false)), (5, .eq (.bool true))] [4, 5, 6, 7, 11, 12, 13, 14] [AV.bool some_33 = AV.bool false, AV.bool all_34 = AV.bool true] (mkS 123 [(4, .ptr 1 0), (5, .ptr 2 0), (6, .ptr 3 0), (7, i6 r_7.1), (11, .bool r_45), (12, .bool r_45), (13, i6 m_23), (14, i6 n_35)]) (⟨[(C_bk_Drum r_5.2), [.sl (r_3.1.Town.Rooms.map (AV.int .i64)) none, .sl (r_3.1.Town.Streets.map A_Street) none, .sl (r_3.1.Town.Groups.map A_Group) none, i6 r_3.1.Town.Steps, i6 (if 8 < r_3.1.Break then 8 else r_3.1.Break), .sl (r_3.1.Sleep.map (AV.int .i64)) none], [i6 r_4.1.First, .sl (r_4.1.Path.map (AV.int .i64)) none, i6 r_4.1.Start.Lo, i6 (if (IntKind.i64.wrap (r_4.1.Start.Lo + 2)) < r_4.1.Start.Hi then (IntKind.i64.wrap (r_4.1.Start.Lo + 2)) else r_4.1.Start.Hi), i6 r_4.1.Stay, i6 r_4.1.People], [i6 r_5.1.First, .sl (r_5.1.Path.map (AV.int .i64)) none, i6 r_5.1.Start.Lo, i6 (if (IntKind.i64.wrap (r_5.1.Start.Lo + 2)) < r_5.1.Start.Hi then (IntKind.i64.wrap (r_5.1.Start.Lo + 2)) else r_5.1.Start.Hi), i6 r_5.1.Stay, i6 r_5.1.People]], []⟩) (by kernel_rfl) ⟨congrArg AV.bool hc_46, congrArg AV.bool hc_48, trivial⟩ rfl ?_
              (try simp only [reduceCtorEq, AEx.ex.injEq, Nat.reduceEqDiff, if_true, if_false])
              exact ⟨_, _, Forgets.refl _ _ _, r_45, r_45, h, rfl, rfl⟩
             ·refine regH 10 [(1, .eq (.bool false)), (5, .eq (.bool false))] [4, 5, 6, 7, 11, 12, 13, 14] [AV.bool some_33 = AV.bool false, AV.bool all_34 = AV.bool false] (mkS 123 [(4, .ptr 1 0), (5, .ptr 2 0), (6, .ptr 3 0), (7, i6 r_7.1), (11, .bool r_45), (12, .bool false), (13, i6 m_23), (14, i6 n_35)]) (⟨[(C_bk_Drum r_5.2), [.sl (r_3.1.Town.Rooms.map (AV.int .i64)) none, .sl (r_3.1.Town.Streets.map A_Street) none, .sl (r_3.1.Town.Groups.map A_Group) none, i6 r_3.1.Town.Steps, i6 (if 8 < r_3.1.Break then 8 else r_3.1.Break), .sl (r_3.1.Sleep.map (AV.int .i64)) none], [i6 r_4.1.First, .sl (r_4.1.Path.map (AV.int .i64)) none, i6 r_4.1.Start.Lo, i6 (if (IntKind.i64.wrap (r_4.1.Start.Lo + 2)) < r_4.1.Start.Hi then (IntKind.i64.wrap (r_4.1.Start.Lo + 2)) else r_4.1.Start.Hi), i6 r_4.1.Stay, i6 r_4.1.People], [i6 r_5.1.First, .sl (r_5.1.Path.map (AV.int .i64)) none, i6 r_5.1.Start.Lo, i6 (if (IntKind.i64.wrap (r_5.1.Start.Lo + 2)) < r_5.1.Start.Hi then (IntKind.i64.wrap (r_5.1.Start.Lo + 2)) else r_5.1.Start.Hi), i6 r_5.1.Stay, i6 r_5.1.People]], []⟩) (by kernel_rfl) ⟨congrArg AV.bool hc_46, congrArg AV.bool hc_48, trivial⟩ rfl ?_
              (try simp only [reduceCtorEq, AEx.ex.injEq, Nat.reduceEqDiff, if_true, if_false])
              exact ⟨_, _, Forgets.refl _ _ _, r_45, false, h, rfl, rfl⟩
           ·rintro a S ⟨some_40, all_41, h, rfl, rfl⟩
            subst hK_44
            refine rg 3 [4, 5, 6, 7, 11, 12, 13, 14] (mkS 123 [(4, .ptr 1 0), (5, .ptr 2 0), (6, .ptr 3 0), (7, i6 r_7.1), (11, .bool some_40), (12, .bool all_41), (13, i6 m_23), (14, i6 (IntKind.i64.wrap (n_35 + 1)))]) ⟨[(C_bk_Drum r_5.2), [.sl (r_3.1.Town.Rooms.map (AV.int .i64)) none, .sl (r_3.1.Town.Streets.map A_Street) none, .sl (r_3.1.Town.Groups.map A_Group) none, i6 r_3.1.Town.Steps, i6 (if 8 < r_3.1.Break then 8 else r_3.1.Break), .sl (r_3.1.Sleep.map (AV.int .i64)) none], [i6 r_4.1.First, .sl (r_4.1.Path.map (AV.int .i64)) none, i6 r_4.1.Start.Lo, i6 (if (IntKind.i64.wrap (r_4.1.Start.Lo + 2)) < r_4.1.Start.Hi then (IntKind.i64.wrap (r_4.1.Start.Lo + 2)) else r_4.1.Start.Hi), i6 r_4.1.Stay, i6 r_4.1.People], [i6 r_5.1.First, .sl (r_5.1.Path.map (AV.int .i64)) none, i6 r_5.1.Start.Lo, i6 (if (IntKind.i64.wrap (r_5.1.Start.Lo + 2)) < r_5.1.Start.Hi then (IntKind.i64.wrap (r_5.1.Start.Lo + 2)) else r_5.1.Start.Hi), i6 r_5.1.Stay, i6 r_5.1.People]], []⟩ ?_
            dsimp only
            exact ⟨_, _, Forgets.refl _ _ _, k, Nat.lt_succ_self k, some_40, all_41, (IntKind.i64.wrap (n_35 + 1)), h, rfl, rfl⟩
          ·refine Ex.condF _ rfl hc_39 ?_
           refine Ex.exit ?_
           (try simp only [reduceCtorEq, AEx.ex.injEq, Nat.reduceEqDiff, if_true, if_false])
           exact ⟨_, _, forgetK [4, 5, 6, 7, 11, 12, 13], some_33, all_34, h, rfl, rfl⟩
        ·rintro a S ⟨some_28, all_29, h, rfl, rfl⟩
         subst hK_32
         refine rg 3 [4, 5, 6, 7, 11, 12, 13] (mkS 123 [(4, .ptr 1 0), (5, .ptr 2 0), (6, .ptr 3 0), (7, i6 r_7.1), (11, .bool some_28), (12, .bool all_29), (13, i6 (IntKind.i64.wrap (m_23 + 1)))]) ⟨[(C_bk_Drum r_5.2), [.sl (r_3.1.Town.Rooms.map (AV.int .i64)) none, .sl (r_3.1.Town.Streets.map A_Street) none, .sl (r_3.1.Town.Groups.map A_Group) none, i6 r_3.1.Town.Steps, i6 (if 8 < r_3.1.Break then 8 else r_3.1.Break), .sl (r_3.1.Sleep.map (AV.int .i64)) none], [i6 r_4.1.First, .sl (r_4.1.Path.map (AV.int .i64)) none, i6 r_4.1.Start.Lo, i6 (if (IntKind.i64.wrap (r_4.1.Start.Lo + 2)) < r_4.1.Start.Hi then (IntKind.i64.wrap (r_4.1.Start.Lo + 2)) else r_4.1.Start.Hi), i6 r_4.1.Stay, i6 r_4.1.People], [i6 r_5.1.First, .sl (r_5.1.Path.map (AV.int .i64)) none, i6 r_5.1.Start.Lo, i6 (if (IntKind.i64.wrap (r_5.1.Start.Lo + 2)) < r_5.1.Start.Hi then (IntKind.i64.wrap (r_5.1.Start.Lo + 2)) else r_5.1.Start.Hi), i6 r_5.1.Stay, i6 r_5.1.People]], []⟩ ?_
         dsimp only
         exact ⟨_, _, Forgets.refl _ _ _, k, Nat.lt_succ_self k, some_28, all_29, (IntKind.i64.wrap (m_23 + 1)), h, rfl, rfl⟩
       ·refine Ex.condF _ rfl hc_27 ?_
        refine Ex.exit ?_
        (try simp only [reduceCtorEq, AEx.ex.injEq, Nat.reduceEqDiff, if_true, if_false])
        exact ⟨_, _, forgetA (m := 123) 0 [] [(7, i6 r_7.1), (11, .bool some_21), (12, .bool all_22)] [] [] (by simp [setAll]) (by simp) ⟨rfl, rfl, rfl, trivial⟩ (by simp) rfl (by decide), some_21, all_22, h, rfl, rfl⟩
     ·rintro a S ⟨some_16, all_17, h, rfl, rfl⟩
      subst hK_20
      refine Ex.seq ?_
      rcases condI h with ⟨hc_49, h⟩ | ⟨hc_49, h⟩
      ·rcases condI h with ⟨hc_50, h⟩ | ⟨hc_50, h⟩
       ·obtain ⟨r_51, hr_51, h⟩ := bE h
        refine Ex.reg ?_
        refine runH 12 [(4, .eq (.bool true)), (11, .eq (.bool true))] [120] [AV.bool ((r_7.1 == 1) == all_17) = AV.bool true, AV.bool ((r_7.1 == 2) == (!some_16)) = AV.bool true] (mkS 123 [(120, .bool true)]) (⟨[], []⟩) (by kernel_rfl) ⟨congrArg AV.bool hc_49, congrArg AV.bool hc_50, trivial⟩ ?_
        refine ExO.callL [] [] rfl rfl (a_bl7_awake) rfl rfl (d_bl7_awake N r_51 hr_51) (b_bl7_awake _ _ _ _) rfl ?_
        refine rn 2 [2] (mkS 123 [(2, .bool r_51)]) ⟨[], []⟩ ?_
        refine ExO.nil ?_
        refine Ex.ret ?_
        obtain rfl := sJ h
        exact rt (.bool r_51)
       ·refine regH 15 [(4, .eq (.bool true)), (11, .eq (.bool false))] [2] [AV.bool ((r_7.1 == 1) == all_17) = AV.bool true, AV.bool ((r_7.1 == 2) == (!some_16)) = AV.bool false] (mkS 123 [(2, .bool false)]) (⟨[], []⟩) (by kernel_rfl) ⟨congrArg AV.bool hc_49, congrArg AV.bool hc_50, trivial⟩ rfl ?_
        refine Ex.ret ?_
        obtain rfl := sJ h
        exact rt (.bool false)
      ·refine regH 15 [(4, .eq (.bool false))] [2] [AV.bool ((r_7.1 == 1) == all_17) = AV.bool false] (mkS 123 [(2, .bool false)]) (⟨[], []⟩) (by kernel_rfl) ⟨congrArg AV.bool hc_49, trivial⟩ rfl ?_
       refine Ex.ret ?_
       obtain rfl := sJ h
       exact rt (.bool false)
end Go.Proofs.YtkchfjblcfbajaaDoor
end
