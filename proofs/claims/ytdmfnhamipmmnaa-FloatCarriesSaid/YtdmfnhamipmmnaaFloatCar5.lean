/- Part 6 of what the law needs: own work, put together. -/
import Derived.Deep.Slices
import Derived.WideShapes
import Derived.ProofKit
import Derived.Test.YtdmfnhamipmmnaaRows
import Derived.Test.YtdmfnhamipmmnaaFloatCar4
section
namespace Go.Proofs.Ytdmfnhamipmmnaa
open Go.RowKit
set_option linter.unusedVariables false
set_option linter.unusedSimpArgs false
set_option maxRecDepth 10000
set_option maxHeartbeats 4000000
attribute [local simp] ren ren1 AV.plain AV.plain1 AV.clean cleanL cleanI cleanBo cleanSt cleanII KL_bk_Drum KL_Span KL_Load KL_Float KL_br2_Truth KL_Hurdle KL_V21_i64 KL_float_truth KL_V2_float_truth KL_float_weight A_bk_Drum C_bk_Drum A_Span C_Span A_Load C_Load A_Float C_Float A_br2_Truth C_br2_Truth A_Hurdle C_Hurdle A_V21_i64 C_V21_i64 A_float_truth C_float_truth A_V2_float_truth C_V2_float_truth A_float_weight C_float_weight back back1 fadeS fadeV List.idxOf? List.findIdx? List.findIdx?.go re re1 KB_bk_Drum KB_Span KB_Load KB_Float KB_br2_Truth KB_Hurdle KB_V21_i64 KB_float_truth KB_V2_float_truth KB_float_weight
def p_bl2_awake (N : Nat) : Option Bool := some true
def v_bl2_awake (r : Bool) : AV := .bool r
theorem a_bl2_awake : ([] : List AV).mapM (ren []) = some [] := rfl
theorem b_bl2_awake (r : Bool) (n n2 m : Nat) : back n n2 m (v_bl2_awake r) = some (v_bl2_awake r) := rfl
theorem d_bl2_awake (N : Nat) (r : Bool) (h : p_bl2_awake N = some r) : Does Try.prog 7 [] [] fun v c => v = v_bl2_awake r ∧ c = [] := by
 cases h
 exact awake_m.does
theorem t_bk_OwnFloat (N : Nat) (f_1 : T_Float) (r : T_Float) (h : p_bk_OwnFloat N f_1 = some r) : TokTOk Try.prog ⟨10, [(A_Float f_1)], [i6 r.Length, i6 r.Width, i6 r.Front, i6 r.Rear, i6 r.Turn, i6 r.Kilos, i6 r.Middle, i6 r.High], r.Loads.map A_Load, [], r.Loads.length, 7⟩ := by
 refine ⟨?_, (KL_Load _), by simp, by simp [scal], by simp [scal]⟩
 unfold p_bk_OwnFloat at h
 refine DoesT.of comp10 ?_
 refine Ex.seq (rg 2 [1, 2] (mkS 9 [(1, .ptr 0 0), (2, .ptr 1 0)]) ⟨[(C_Float f_1), [i6 0, i6 0, i6 0, i6 0, i6 0, i6 0, i6 0, i6 0, .nils]], []⟩ ?_)
 refine Ex.seq ?_
 obtain ⟨l_2, hl_2, h⟩ := bE h
 refine regH 6 [(3, .apps (f_1.Loads.map A_Load) (l_2.map A_Load) l_2.length)] [1, 2] [LApps 0 (([] : List T_Load).map A_Load) (f_1.Loads.map A_Load) (f_1.Loads.map A_Load) 7 (l_2.map A_Load) l_2.length] (mkS 9 [(1, .ptr 0 0), (2, .ptr 1 0)]) (⟨[[i6 f_1.Length, i6 f_1.Width, i6 f_1.Front, i6 f_1.Rear, i6 f_1.Turn, i6 f_1.Kilos, i6 f_1.Middle, i6 f_1.High, .sl (l_2.map A_Load) (some 0)], [i6 0, i6 0, i6 0, i6 0, i6 0, i6 0, i6 0, i6 0, .nils]], [(l_2.length, 7)]⟩) (by kernel_rfl) ⟨LApps.of hl_2 (fun _ => rfl) (fun _ => rfl) (fun _ => rfl), trivial⟩ rfl ?_
 refine Ex.seq (rg 2 [2] (mkS 9 [(2, .ptr 1 0)]) ⟨[[i6 f_1.Length, i6 f_1.Width, i6 f_1.Front, i6 f_1.Rear, i6 f_1.Turn, i6 f_1.Kilos, i6 f_1.Middle, i6 f_1.High, .sl (l_2.map A_Load) (some 0)], [i6 f_1.Length, i6 f_1.Width, i6 f_1.Front, i6 f_1.Rear, i6 f_1.Turn, i6 f_1.Kilos, i6 f_1.Middle, i6 f_1.High, .sl (l_2.map A_Load) (some 0)]], [(l_2.length, 7)]⟩ ?_)
 refine Ex.ret ?_
 obtain rfl := sJ h
 exact ⟨.inr rfl, .agg [i6 f_1.Length, i6 f_1.Width, i6 f_1.Front, i6 f_1.Rear, i6 f_1.Turn, i6 f_1.Kilos, i6 f_1.Middle, i6 f_1.High, .sl (l_2.map A_Load) (some 0)], by kernel_rfl, 0, by kernel_rfl, by kernel_rfl⟩
def p_bl2_FloatCarries (N : Nat) (x_1 : T_Float) (l_2 : T_Load) (at_3 : Int) (nums_4 : (List Int)) : Option (Bool) := (bif (decide (((x_1.Loads.length : Nat) : Int) > 30)) then ((p_bl2_awake N).bind fun r_6 => some r_6) else ((p_bk_DrumOf N nums_4).bind fun r_7 => ((p_bk_FloatOf N r_7 6).bind fun r_8 => ((p_bk_OwnFloat N r_8.1).bind fun r_9 => (letJ (fun (w_10 : List T_Load) => ((lenI w_10 r_9.Loads.length).bind fun u_20 => (letJ (fun (_ : Unit) => ((p_bl2_awake N).bind fun r_104 => some r_104)) (fun k_21 => (loop1 (fun rec_25 (i_24 : Int) => (bif (decide (i_24 < 3)) then ((getI ([x_1, r_8.1, (⟨r_9.Length, r_9.Width, r_9.Front, r_9.Rear, r_9.Turn, r_9.Kilos, r_9.Middle, r_9.High, w_10⟩ : T_Float)] : List T_Float) i_24).bind fun x_29 => ((p_bk_OwnFloat N x_29).bind fun r_30 => ((p_float_Total N r_30).bind fun r_31 => ((getI ([x_1, r_8.1, (⟨r_9.Length, r_9.Width, r_9.Front, r_9.Rear, r_9.Turn, r_9.Kilos, r_9.Middle, r_9.High, w_10⟩ : T_Float)] : List T_Float) i_24).bind fun x_32 => ((p_br2_Total N x_32).bind fun r_33 => ((p_float_Axles N r_30).bind fun r_34 => ((getI ([x_1, r_8.1, (⟨r_9.Length, r_9.Width, r_9.Front, r_9.Rear, r_9.Turn, r_9.Kilos, r_9.Middle, r_9.High, w_10⟩ : T_Float)] : List T_Float) i_24).bind fun x_35 => ((p_br2_Axles N x_35).bind fun r_36 => ((p_float_Height N r_30).bind fun r_37 => ((getI ([x_1, r_8.1, (⟨r_9.Length, r_9.Width, r_9.Front, r_9.Rear, r_9.Turn, r_9.Kilos, r_9.Middle, r_9.High, w_10⟩ : T_Float)] : List T_Float) i_24).bind fun x_38 => ((p_br2_Height N x_38).bind fun r_39 => ((p_float_Stands N r_30).bind fun r_40 => ((getI ([x_1, r_8.1, (⟨r_9.Length, r_9.Width, r_9.Front, r_9.Rear, r_9.Turn, r_9.Kilos, r_9.Middle, r_9.High, w_10⟩ : T_Float)] : List T_Float) i_24).bind fun x_41 => ((p_br2_Stands N x_41).bind fun r_42 => (letJ (fun (y_43 : Bool) => (bif y_43 then some false else (rec_25 (IntKind.i64.wrap (i_24 + 1))))) (fun k_44 => ((p_float_Check N r_30).bind fun r_47 => ((getI ([x_1, r_8.1, (⟨r_9.Length, r_9.Width, r_9.Front, r_9.Rear, r_9.Turn, r_9.Kilos, r_9.Middle, r_9.High, w_10⟩ : T_Float)] : List T_Float) i_24).bind fun x_48 => ((p_br2_Check N x_48).bind fun r_49 => (bif (r_47 != r_49) then (k_44 true) else (bif (!((r_31.1.Lo == r_33.1.Lo) && ((r_31.1.Hi == r_33.1.Hi) && true))) then (k_44 true) else (bif (r_31.2 != r_33.2) then (k_44 true) else (bif (!((r_34.1.Lo == r_36.1.Lo) && ((r_34.1.Hi == r_36.1.Hi) && true))) then (k_44 true) else (bif (!((r_34.2.1.Lo == r_36.2.1.Lo) && ((r_34.2.1.Hi == r_36.2.1.Hi) && true))) then (k_44 true) else (bif (r_34.2.2 != r_36.2.2) then (k_44 true) else (bif (!((r_37.1.Lo == r_39.1.Lo) && ((r_37.1.Hi == r_39.1.Hi) && true))) then (k_44 true) else (bif (r_37.2 != r_39.2) then (k_44 true) else (bif (r_40.1 != r_42.1) then (k_44 true) else (bif (r_40.2 != r_42.2) then (k_44 true) else ((getI ([x_1, r_8.1, (⟨r_9.Length, r_9.Width, r_9.Front, r_9.Rear, r_9.Turn, r_9.Kilos, r_9.Middle, r_9.High, w_10⟩ : T_Float)] : List T_Float) i_24).bind fun x_100 => ((p_bk_EqFloats N r_30 x_100).bind fun r_102 => (k_44 (!r_102))))))))))))))))))))))))))))))))) else (k_21 ()))) N 0))))) (fun k_11 => (bif (decide (((r_9.Loads.length : Nat) : Int) > 0)) then ((p_bk_Fit N at_3 ((r_9.Loads.length : Nat) : Int)).bind fun r_15 => ((idxI r_15 r_9.Loads.length).bind fun u_17 => ((setI r_9.Loads r_15 (fun (y_18 : T_Load) => l_2)).bind fun z_19 => (k_11 z_19)))) else (k_11 r_9.Loads))))))))
def v_bl2_FloatCarries (r : Bool) : AV := .bool r
attribute [local simp] v_bl2_FloatCarries
theorem d_bl2_FloatCarries (N : Nat) (x_1 : T_Float) (l_2 : T_Load) (at_3 : Int) (nums_4 : (List Int)) (r : Bool) (h : p_bl2_FloatCarries N x_1 l_2 at_3 nums_4 = some r) : Does Try.prog 3 [(A_Float x_1), (A_Load l_2), i6 at_3, .sl (nums_4.map (AV.int .i64)) none] [] fun v c => v = v_bl2_FloatCarries r ∧ c = [] := by
 unfold p_bl2_FloatCarries at h
 refine Does.ofL comp3 _ _ rfl rfl ?_
 refine Ex.seq (rg 3 [2, 3, 4, 5] (mkS 187 [(2, i6 at_3), (3, .sl (nums_4.map (AV.int .i64)) none), (4, .ptr 0 0), (5, .ptr 1 0)]) ⟨[(C_Float x_1), (C_Load l_2)], []⟩ ?_)
 refine Ex.seq (Ex.seq ?_)
 refine regH 4 [(2, .eq (i6 ((x_1.Loads.length : Nat) : Int)))] [2, 3, 4, 5, 35] [AV.int .i64 (((x_1.Loads.map A_Load).length : Nat) : Int) = AV.int .i64 ((x_1.Loads.length : Nat) : Int)] (mkS 187 [(2, i6 at_3), (3, .sl (nums_4.map (AV.int .i64)) none), (4, .ptr 0 0), (5, .ptr 1 0), (35, .bool (decide (((x_1.Loads.length : Nat) : Int) > 30)))]) (⟨[(C_Float x_1), (C_Load l_2)], []⟩) (by kernel_rfl) ⟨lenM _ _, trivial⟩ rfl ?_
 rcases condI h with ⟨hc_5, h⟩ | ⟨hc_5, h⟩
 ·refine Ex.condT _ rfl hc_5 ?_
  refine Ex.seq ?_
  obtain ⟨r_6, hr_6, h⟩ := bE h
  refine Ex.reg ?_
  refine ExO.callL [] [] rfl rfl (a_bl2_awake) rfl rfl (d_bl2_awake N r_6 hr_6) (b_bl2_awake _ _ _ _) rfl ?_
  refine rn 1 [8] (mkS 187 [(8, .bool r_6)]) ⟨[(C_Float x_1), (C_Load l_2)], []⟩ ?_
  refine ExO.nil ?_
  refine Ex.ret ?_
  obtain rfl := sJ h
  exact rt (.bool r_6)
 ·refine Ex.condF _ rfl hc_5 ?_
  refine Ex.skip ?_
  refine Ex.seq ?_
  obtain ⟨r_7, hr_7, h⟩ := bE h
  refine Ex.reg (rn 1 [2, 4, 5, 37] (mkS 187 [(2, i6 at_3), (4, .ptr 0 0), (5, .ptr 1 0), (37, .sl (nums_4.map (AV.int .i64)) none)]) ⟨[(C_Float x_1), (C_Load l_2)], []⟩ ?_)
  refine ExO.callL (v' := .ptr 2 0) [] [.sl (nums_4.map (AV.int .i64)) none] rfl rfl (a_bk_DrumOf nums_4) rfl rfl (d_bk_DrumOf N nums_4 r_7 hr_7) rfl (by simp) ?_
  obtain ⟨r_8, hr_8, h⟩ := bE h
  refine ExO.callL [2] [.ptr 2 0, i6 6] rfl rfl (by simp; try rfl) rfl (by simp) (d_bk_FloatOf N r_7 6 r_8 hr_8) (b_bk_FloatOf _ _ _ _) (by simp) ?_
  refine rn 2 [2, 4, 5, 9] (mkS 187 [(2, i6 at_3), (4, .ptr 0 0), (5, .ptr 1 0), (9, .ptr 3 0)]) ⟨[(C_Float x_1), (C_Load l_2), (C_bk_Drum r_8.2), (C_Float r_8.1)], []⟩ ?_
  refine ExO.nil ?_
  refine Ex.seq ?_
  obtain ⟨r_9, hr_9, h⟩ := bE h
  refine Ex.reg (rn 1 [2, 4, 5, 9, 40] (mkS 187 [(2, i6 at_3), (4, .ptr 0 0), (5, .ptr 1 0), (9, .ptr 3 0), (40, (A_Float r_8.1))]) ⟨[(C_Float x_1), (C_Load l_2), (C_bk_Drum r_8.2), (C_Float r_8.1)], []⟩ ?_)
  refine ExO.callMsT (t_bk_OwnFloat N r_8.1 r_9 hr_9) (show 0 < 7 by decide) (map_cells (f := A_Load) (s := 7) (fun _ => rfl) _) (flat_scal (f := A_Load) (fun _ => rfl) _) [(A_Float r_8.1)] rfl rfl rfl (by simp) ?_
  refine rn 2 [2, 4, 5, 9, 10] (mkS 187 [(2, i6 at_3), (4, .ptr 0 0), (5, .ptr 1 0), (9, .ptr 3 0), (10, .ptr 5 0)]) ⟨[(C_Float x_1), (C_Load l_2), (C_bk_Drum r_8.2), (C_Float r_8.1), (flat (r_9.Loads.map A_Load)), [i6 r_9.Length, i6 r_9.Width, i6 r_9.Front, i6 r_9.Rear, i6 r_9.Turn, i6 r_9.Kilos, i6 r_9.Middle, i6 r_9.High, .ms 4 r_9.Loads.length 7]], []⟩ ?_
  refine ExO.nil ?_
  obtain ⟨K_12, hK_13, h⟩ := letE h
  refine Ex.seqJ (fun a S => ∃ (w_10 : List T_Load), K_12 w_10 = some r ∧ a = mkS 187 [(4, .ptr 0 0), (9, .ptr 3 0), (10, .ptr 5 0)] ∧ S = ⟨[(C_Float x_1), (C_Load l_2), (C_bk_Drum r_8.2), (C_Float r_8.1), (flat (w_10.map A_Load)), [i6 r_9.Length, i6 r_9.Width, i6 r_9.Front, i6 r_9.Rear, i6 r_9.Turn, i6 r_9.Kilos, i6 r_9.Middle, i6 r_9.High, .ms 4 r_9.Loads.length 7]], []⟩) ?_ ?_
  ·refine Ex.seq (rg 4 [2, 4, 5, 9, 10, 45] (mkS 187 [(2, i6 at_3), (4, .ptr 0 0), (5, .ptr 1 0), (9, .ptr 3 0), (10, .ptr 5 0), (45, .bool (decide (((r_9.Loads.length : Nat) : Int) > 0)))]) ⟨[(C_Float x_1), (C_Load l_2), (C_bk_Drum r_8.2), (C_Float r_8.1), (flat (r_9.Loads.map A_Load)), [i6 r_9.Length, i6 r_9.Width, i6 r_9.Front, i6 r_9.Rear, i6 r_9.Turn, i6 r_9.Kilos, i6 r_9.Middle, i6 r_9.High, .ms 4 r_9.Loads.length 7]], []⟩ ?_)
   rcases condI h with ⟨hc_14, h⟩ | ⟨hc_14, h⟩
   ·refine Ex.condT _ rfl hc_14 ?_
    obtain ⟨r_15, hr_15, h⟩ := bE h
    have hT_16 : DoesA Try.prog [⟨11, [i6 at_3, i6 ((r_9.Loads.length : Nat) : Int)], [], (v_bk_Fit r_15), []⟩] ∧ ConsA [⟨11, [i6 at_3, i6 ((r_9.Loads.length : Nat) : Int)], [], (v_bk_Fit r_15), []⟩] := ⟨⟨(d_bk_Fit N at_3 ((r_9.Loads.length : Nat) : Int) r_15 hr_15), rfl, trivial⟩, ⟨trivial, trivial⟩⟩
    refine Ex.drawE (a1 := mkS 187 [(2, i6 at_3), (4, .ptr 0 0), (5, .ptr 1 0), (9, .ptr 3 0), (10, .ptr 5 0), (45, .bool (decide (((r_9.Loads.length : Nat) : Int) > 0))), (46, .ptr 5 8), (47, .ms 4 r_9.Loads.length 7), (48, i6 at_3), (49, .ptr 5 8), (50, .ms 4 r_9.Loads.length 7), (51, i6 ((r_9.Loads.length : Nat) : Int)), (52, i6 r_15), (53, (A_Load l_2))]) (tabO_ok hT_16.1) [] [] [] ?_ ?_
    ·refine drS [0, 1, 2, 3, 4, 5] 6 [] [] (mkS 187 [(2, i6 at_3), (4, .ptr 0 0), (5, .ptr 1 0), (9, .ptr 3 0), (10, .ptr 5 0), (45, .bool (decide (((r_9.Loads.length : Nat) : Int) > 0))), (46, .ptr 5 8), (47, .ms 4 r_9.Loads.length 7), (48, i6 at_3), (49, .ptr 5 8), (50, .ms 4 r_9.Loads.length 7), (51, i6 ((r_9.Loads.length : Nat) : Int))]) (by simp) (by kernel_rfl) trivial (by kernel_rfl) ?_
     refine drC hT_16.2 0 _ [i6 at_3, i6 ((r_9.Loads.length : Nat) : Int)] (v_bk_Fit r_15) rfl rfl rfl rfl rfl (fun _ => rfl) rfl (by simp; try rfl) (fun _ => b_bk_Fit _ _ _ _) ?_
     refine drS [0, 1, 2, 3, 4, 5] 1 [] [] (mkS 187 [(2, i6 at_3), (4, .ptr 0 0), (5, .ptr 1 0), (9, .ptr 3 0), (10, .ptr 5 0), (45, .bool (decide (((r_9.Loads.length : Nat) : Int) > 0))), (46, .ptr 5 8), (47, .ms 4 r_9.Loads.length 7), (48, i6 at_3), (49, .ptr 5 8), (50, .ms 4 r_9.Loads.length 7), (51, i6 ((r_9.Loads.length : Nat) : Int)), (52, i6 r_15), (53, (A_Load l_2))]) (by simp) (by kernel_rfl) trivial (by kernel_rfl) ?_
     exact DrO.nil rfl
    ·dsimp only [List.getLastD_cons, List.getLastD_nil]
     obtain ⟨u_17, hu_17, h⟩ := bE h
     obtain ⟨z_19, hz_19, h⟩ := bE h
     refine runH 2 [(0, .adm), (1, .st (flat (z_19.map A_Load)))] [4, 9, 10] [0 ≤ r_15 ∧ r_15 < ((r_9.Loads.length : Nat) : Int), 0 + Int.toNat r_15 * 7 + 7 ≤ ((flat (r_9.Loads.map A_Load))).length ∧ layAt (flat (r_9.Loads.map A_Load)) (0 + Int.toNat r_15 * 7) [i6 l_2.At, i6 l_2.Kilos.Lo, i6 l_2.Kilos.Hi, i6 l_2.Top.Lo, i6 l_2.Top.Hi, i6 l_2.Kind, i6 l_2.Watts] = (flat (z_19.map A_Load))] (mkS 187 [(4, .ptr 0 0), (9, .ptr 3 0), (10, .ptr 5 0)]) (⟨[(C_Float x_1), (C_Load l_2), (C_bk_Drum r_8.2), (C_Float r_8.1), (flat (z_19.map A_Load)), [i6 r_9.Length, i6 r_9.Width, i6 r_9.Front, i6 r_9.Rear, i6 r_9.Turn, i6 r_9.Kilos, i6 r_9.Middle, i6 r_9.High, .ms 4 r_9.Loads.length 7]], []⟩) (by kernel_rfl) ⟨idxI.of hu_17, stFl (f := A_Load) (s := 7) _ 0 7 r_15 (fun (y_18 : T_Load) => l_2) _ (fun _ => rfl) hz_19 rfl (by decide) (by omega) (fun _ => rfl), trivial⟩ ?_
     refine ExO.nil ?_
     (try simp only [reduceCtorEq, AEx.ex.injEq, Nat.reduceEqDiff, if_true, if_false])
     exact ⟨_, _, Forgets.refl _ _ _, z_19, h, rfl, rfl⟩
   ·refine Ex.condF _ rfl hc_14 ?_
    refine Ex.skip ?_
    (try simp only [reduceCtorEq, AEx.ex.injEq, Nat.reduceEqDiff, if_true, if_false])
    exact ⟨_, _, forgetK [4, 9, 10], r_9.Loads, h, rfl, rfl⟩
  ·rintro a S ⟨w_10, h, rfl, rfl⟩
   subst hK_13
   refine Ex.seq ?_
   obtain ⟨u_20, hu_20, h⟩ := bE h
   refine Ex.forget (chillX (f := A_Load) 4 5 8 r_9.Loads.length 7 w_10 [i6 r_9.Length, i6 r_9.Width, i6 r_9.Front, i6 r_9.Rear, i6 r_9.Turn, i6 r_9.Kilos, i6 r_9.Middle, i6 r_9.High, .ms 4 r_9.Loads.length 7] hu_20 rfl (fun _ => rfl) rfl (by decide) rfl) ?_
   refine Ex.castA (a2 := mkS 187 [(4, .ptr 0 0), (9, .ptr 3 0), (10, .ptr 5 0)]) (S2 := ⟨[(C_Float x_1), (C_Load l_2), (C_bk_Drum r_8.2), (C_Float r_8.1), [], [i6 r_9.Length, i6 r_9.Width, i6 r_9.Front, i6 r_9.Rear, i6 r_9.Turn, i6 r_9.Kilos, i6 r_9.Middle, i6 r_9.High, .sl (w_10.map A_Load) none]], []⟩) (by kernel_rfl) (by kernel_rfl) ?_
   refine Ex.postF ?_
   refine rg 5 [11] (mkS 187 [(11, .sl (([x_1, r_8.1, (⟨r_9.Length, r_9.Width, r_9.Front, r_9.Rear, r_9.Turn, r_9.Kilos, r_9.Middle, r_9.High, w_10⟩ : T_Float)] : List T_Float).map A_Float) (some 0))]) ⟨[(C_Float x_1), (C_Load l_2), (C_bk_Drum r_8.2), (C_Float r_8.1), [], [i6 r_9.Length, i6 r_9.Width, i6 r_9.Front, i6 r_9.Rear, i6 r_9.Turn, i6 r_9.Kilos, i6 r_9.Middle, i6 r_9.High, .sl (w_10.map A_Load) none]], [(3, 9)]⟩ ?_
   refine ⟨mkS 187 [(11, .sl (([x_1, r_8.1, (⟨r_9.Length, r_9.Width, r_9.Front, r_9.Rear, r_9.Turn, r_9.Kilos, r_9.Middle, r_9.High, w_10⟩ : T_Float)] : List T_Float).map A_Float) (some 0))], ⟨[(C_Float x_1), (C_Load l_2), (C_bk_Drum r_8.2), (C_Float r_8.1), [], [i6 r_9.Length, i6 r_9.Width, i6 r_9.Front, i6 r_9.Rear, i6 r_9.Turn, i6 r_9.Kilos, i6 r_9.Middle, i6 r_9.High, .sl (w_10.map A_Load) none]], [(3, 9)]⟩, Forgets.refl _ _ _, ?_⟩
   refine Ex.seq (Ex.seq ?_)
   refine rg 1 [11, 12] (mkS 187 [(11, .sl (([x_1, r_8.1, (⟨r_9.Length, r_9.Width, r_9.Front, r_9.Rear, r_9.Turn, r_9.Kilos, r_9.Middle, r_9.High, w_10⟩ : T_Float)] : List T_Float).map A_Float) (some 0)), (12, i6 0)]) ⟨[(C_Float x_1), (C_Load l_2), (C_bk_Drum r_8.2), (C_Float r_8.1), [], [i6 r_9.Length, i6 r_9.Width, i6 r_9.Front, i6 r_9.Rear, i6 r_9.Turn, i6 r_9.Kilos, i6 r_9.Middle, i6 r_9.High, .sl (w_10.map A_Load) none]], [(3, 9)]⟩ ?_
   obtain ⟨K_22, hK_23, h⟩ := letE h
   refine Ex.blockJ (fun a S => K_22 () = some r ∧ a = mkS 187 [] ∧ S = ⟨[], []⟩) ?_ ?_
   ·obtain ⟨B_26, hB_27, h⟩ := loop1I h
    refine Ex.loopF (fun k a S => ∃ (i_24 : Int), loop1 B_26 k i_24 = some r ∧ a = mkS 187 [(11, .sl (([x_1, r_8.1, (⟨r_9.Length, r_9.Width, r_9.Front, r_9.Rear, r_9.Turn, r_9.Kilos, r_9.Middle, r_9.High, w_10⟩ : T_Float)] : List T_Float).map A_Float) (some 0)), (12, i6 i_24)] ∧ S = ⟨[], [(3, 9)]⟩) N ⟨_, _, forgetA (m := 187) 0 [0] [(11, .sl (([x_1, r_8.1, (⟨r_9.Length, r_9.Width, r_9.Front, r_9.Rear, r_9.Turn, r_9.Kilos, r_9.Middle, r_9.High, w_10⟩ : T_Float)] : List T_Float).map A_Float) (some 0)), (12, i6 0)] [] [(3, 9)] (by simp) (by simp) ⟨(reT (KL_Float _) rfl), rfl, trivial⟩ (by simp) rfl (by decide), 0, h, rfl, rfl⟩ ?_
    rintro k a S ⟨i_24, h, rfl, rfl⟩
    cases k with
    | zero => exact (loop1Z h).elim
    | succ k =>
     replace h := loop1S h hB_27
     refine Ex.seq (Ex.seq ?_)
     refine rg 4 [11, 12, 62] (mkS 187 [(11, .sl (([x_1, r_8.1, (⟨r_9.Length, r_9.Width, r_9.Front, r_9.Rear, r_9.Turn, r_9.Kilos, r_9.Middle, r_9.High, w_10⟩ : T_Float)] : List T_Float).map A_Float) (some 0)), (12, i6 i_24), (62, .bool (decide (i_24 < 3)))]) ⟨[], [(3, 9)]⟩ ?_
     rcases condI h with ⟨hc_28, h⟩ | ⟨hc_28, h⟩
     ·refine Ex.condT _ rfl hc_28 ?_
      refine Ex.skip ?_
      refine Ex.seq ?_
      refine Ex.blockK ?_
      refine Ex.seq ?_
      obtain ⟨x_29, hx_29, h⟩ := bE h
      obtain ⟨r_30, hr_30, h⟩ := bE h
      refine Ex.reg ?_
      refine runH 4 [(2, .rop (C_Float x_29))] [11, 12, 68] [LGet (([x_1, r_8.1, (⟨r_9.Length, r_9.Width, r_9.Front, r_9.Rear, r_9.Turn, r_9.Kilos, r_9.Middle, r_9.High, w_10⟩ : T_Float)] : List T_Float).map A_Float) i_24 9 (C_Float x_29)] (mkS 187 [(11, .sl (([x_1, r_8.1, (⟨r_9.Length, r_9.Width, r_9.Front, r_9.Rear, r_9.Turn, r_9.Kilos, r_9.Middle, r_9.High, w_10⟩ : T_Float)] : List T_Float).map A_Float) (some 0)), (12, i6 i_24), (68, (A_Float x_29))]) (⟨[], [(3, 9)]⟩) (by kernel_rfl) ⟨LGet.of hx_29 rfl, trivial⟩ ?_
      refine ExO.callL [] [(A_Float x_29)] rfl rfl (a_bk_OwnFloat x_29) rfl rfl (d_bk_OwnFloat N x_29 r_30 hr_30) (b_bk_OwnFloat _ _ _ _) rfl ?_
      refine rn 2 [11, 12, 13] (mkS 187 [(11, .sl (([x_1, r_8.1, (⟨r_9.Length, r_9.Width, r_9.Front, r_9.Rear, r_9.Turn, r_9.Kilos, r_9.Middle, r_9.High, w_10⟩ : T_Float)] : List T_Float).map A_Float) (some 0)), (12, i6 i_24), (13, .ptr 0 0)]) ⟨[(C_Float r_30)], [(3, 9)]⟩ ?_
      refine ExO.nil ?_
      refine Ex.seq ?_
      obtain ⟨r_31, hr_31, h⟩ := bE h
      refine Ex.reg (rn 1 [11, 12, 13, 71] (mkS 187 [(11, .sl (([x_1, r_8.1, (⟨r_9.Length, r_9.Width, r_9.Front, r_9.Rear, r_9.Turn, r_9.Kilos, r_9.Middle, r_9.High, w_10⟩ : T_Float)] : List T_Float).map A_Float) (some 0)), (12, i6 i_24), (13, .ptr 0 0), (71, (A_Float r_30))]) ⟨[(C_Float r_30)], [(3, 9)]⟩ ?_)
      refine ExO.callL [] [(A_Float r_30)] rfl rfl (a_float_Total r_30) rfl rfl (d_float_Total N r_30 r_31 hr_31) (b_float_Total _ _ _ _) rfl ?_
      refine rn 6 [11, 12, 13, 14, 15] (mkS 187 [(11, .sl (([x_1, r_8.1, (⟨r_9.Length, r_9.Width, r_9.Front, r_9.Rear, r_9.Turn, r_9.Kilos, r_9.Middle, r_9.High, w_10⟩ : T_Float)] : List T_Float).map A_Float) (some 0)), (12, i6 i_24), (13, .ptr 0 0), (14, .ptr 1 0), (15, i6 r_31.2)]) ⟨[(C_Float r_30), (C_Span r_31.1)], [(3, 9)]⟩ ?_
      refine ExO.nil ?_
      refine Ex.seq ?_
      obtain ⟨x_32, hx_32, h⟩ := bE h
      obtain ⟨r_33, hr_33, h⟩ := bE h
      refine Ex.reg ?_
      refine runH 4 [(2, .rop (C_Float x_32))] [11, 12, 13, 14, 15, 79] [LGet (([x_1, r_8.1, (⟨r_9.Length, r_9.Width, r_9.Front, r_9.Rear, r_9.Turn, r_9.Kilos, r_9.Middle, r_9.High, w_10⟩ : T_Float)] : List T_Float).map A_Float) i_24 9 (C_Float x_32)] (mkS 187 [(11, .sl (([x_1, r_8.1, (⟨r_9.Length, r_9.Width, r_9.Front, r_9.Rear, r_9.Turn, r_9.Kilos, r_9.Middle, r_9.High, w_10⟩ : T_Float)] : List T_Float).map A_Float) (some 0)), (12, i6 i_24), (13, .ptr 0 0), (14, .ptr 1 0), (15, i6 r_31.2), (79, (A_Float x_32))]) (⟨[(C_Float r_30), (C_Span r_31.1)], [(3, 9)]⟩) (by kernel_rfl) ⟨LGet.of hx_32 rfl, trivial⟩ ?_
      refine ExO.callL [] [(A_Float x_32)] rfl rfl (a_br2_Total x_32) rfl rfl (d_br2_Total N x_32 r_33 hr_33) (b_br2_Total _ _ _ _) rfl ?_
      refine rn 6 [11, 12, 13, 14, 15, 16, 17] (mkS 187 [(11, .sl (([x_1, r_8.1, (⟨r_9.Length, r_9.Width, r_9.Front, r_9.Rear, r_9.Turn, r_9.Kilos, r_9.Middle, r_9.High, w_10⟩ : T_Float)] : List T_Float).map A_Float) (some 0)), (12, i6 i_24), (13, .ptr 0 0), (14, .ptr 1 0), (15, i6 r_31.2), (16, .ptr 2 0), (17, i6 r_33.2)]) ⟨[(C_Float r_30), (C_Span r_31.1), (C_Span r_33.1)], [(3, 9)]⟩ ?_
      refine ExO.nil ?_
      refine Ex.seq ?_
      obtain ⟨r_34, hr_34, h⟩ := bE h
      refine Ex.reg (rn 1 [11, 12, 13, 14, 15, 16, 17, 84] (mkS 187 [(11, .sl (([x_1, r_8.1, (⟨r_9.Length, r_9.Width, r_9.Front, r_9.Rear, r_9.Turn, r_9.Kilos, r_9.Middle, r_9.High, w_10⟩ : T_Float)] : List T_Float).map A_Float) (some 0)), (12, i6 i_24), (13, .ptr 0 0), (14, .ptr 1 0), (15, i6 r_31.2), (16, .ptr 2 0), (17, i6 r_33.2), (84, (A_Float r_30))]) ⟨[(C_Float r_30), (C_Span r_31.1), (C_Span r_33.1)], [(3, 9)]⟩ ?_)
      refine ExO.callL [] [(A_Float r_30)] rfl rfl (a_float_Axles r_30) rfl rfl (d_float_Axles N r_30 r_34 hr_34) (b_float_Axles _ _ _ _) rfl ?_
      refine rn 9 [11, 12, 13, 14, 15, 16, 17, 18, 19, 20] (mkS 187 [(11, .sl (([x_1, r_8.1, (⟨r_9.Length, r_9.Width, r_9.Front, r_9.Rear, r_9.Turn, r_9.Kilos, r_9.Middle, r_9.High, w_10⟩ : T_Float)] : List T_Float).map A_Float) (some 0)), (12, i6 i_24), (13, .ptr 0 0), (14, .ptr 1 0), (15, i6 r_31.2), (16, .ptr 2 0), (17, i6 r_33.2), (18, .ptr 3 0), (19, .ptr 4 0), (20, i6 r_34.2.2)]) ⟨[(C_Float r_30), (C_Span r_31.1), (C_Span r_33.1), (C_Span r_34.1), (C_Span r_34.2.1)], [(3, 9)]⟩ ?_
      refine ExO.nil ?_
      refine Ex.seq ?_
      obtain ⟨x_35, hx_35, h⟩ := bE h
      obtain ⟨r_36, hr_36, h⟩ := bE h
      refine Ex.reg ?_
      refine runH 4 [(2, .rop (C_Float x_35))] [11, 12, 13, 14, 15, 16, 17, 18, 19, 20, 93] [LGet (([x_1, r_8.1, (⟨r_9.Length, r_9.Width, r_9.Front, r_9.Rear, r_9.Turn, r_9.Kilos, r_9.Middle, r_9.High, w_10⟩ : T_Float)] : List T_Float).map A_Float) i_24 9 (C_Float x_35)] (mkS 187 [(11, .sl (([x_1, r_8.1, (⟨r_9.Length, r_9.Width, r_9.Front, r_9.Rear, r_9.Turn, r_9.Kilos, r_9.Middle, r_9.High, w_10⟩ : T_Float)] : List T_Float).map A_Float) (some 0)), (12, i6 i_24), (13, .ptr 0 0), (14, .ptr 1 0), (15, i6 r_31.2), (16, .ptr 2 0), (17, i6 r_33.2), (18, .ptr 3 0), (19, .ptr 4 0), (20, i6 r_34.2.2), (93, (A_Float x_35))]) (⟨[(C_Float r_30), (C_Span r_31.1), (C_Span r_33.1), (C_Span r_34.1), (C_Span r_34.2.1)], [(3, 9)]⟩) (by kernel_rfl) ⟨LGet.of hx_35 rfl, trivial⟩ ?_
      refine ExO.callL [] [(A_Float x_35)] rfl rfl (a_br2_Axles x_35) rfl rfl (d_br2_Axles N x_35 r_36 hr_36) (b_br2_Axles _ _ _ _) rfl ?_
      refine rn 9 [11, 12, 13, 14, 15, 16, 17, 18, 19, 20, 21, 22, 23] (mkS 187 [(11, .sl (([x_1, r_8.1, (⟨r_9.Length, r_9.Width, r_9.Front, r_9.Rear, r_9.Turn, r_9.Kilos, r_9.Middle, r_9.High, w_10⟩ : T_Float)] : List T_Float).map A_Float) (some 0)), (12, i6 i_24), (13, .ptr 0 0), (14, .ptr 1 0), (15, i6 r_31.2), (16, .ptr 2 0), (17, i6 r_33.2), (18, .ptr 3 0), (19, .ptr 4 0), (20, i6 r_34.2.2), (21, .ptr 5 0), (22, .ptr 6 0), (23, i6 r_36.2.2)]) ⟨[(C_Float r_30), (C_Span r_31.1), (C_Span r_33.1), (C_Span r_34.1), (C_Span r_34.2.1), (C_Span r_36.1), (C_Span r_36.2.1)], [(3, 9)]⟩ ?_
      refine ExO.nil ?_
      refine Ex.seq ?_
      obtain ⟨r_37, hr_37, h⟩ := bE h
      refine Ex.reg (rn 1 [11, 12, 13, 14, 15, 16, 17, 18, 19, 20, 21, 22, 23, 99] (mkS 187 [(11, .sl (([x_1, r_8.1, (⟨r_9.Length, r_9.Width, r_9.Front, r_9.Rear, r_9.Turn, r_9.Kilos, r_9.Middle, r_9.High, w_10⟩ : T_Float)] : List T_Float).map A_Float) (some 0)), (12, i6 i_24), (13, .ptr 0 0), (14, .ptr 1 0), (15, i6 r_31.2), (16, .ptr 2 0), (17, i6 r_33.2), (18, .ptr 3 0), (19, .ptr 4 0), (20, i6 r_34.2.2), (21, .ptr 5 0), (22, .ptr 6 0), (23, i6 r_36.2.2), (99, (A_Float r_30))]) ⟨[(C_Float r_30), (C_Span r_31.1), (C_Span r_33.1), (C_Span r_34.1), (C_Span r_34.2.1), (C_Span r_36.1), (C_Span r_36.2.1)], [(3, 9)]⟩ ?_)
      refine ExO.callL [] [(A_Float r_30)] rfl rfl (a_float_Height r_30) rfl rfl (d_float_Height N r_30 r_37 hr_37) (b_float_Height _ _ _ _) rfl ?_
      refine rn 6 [11, 12, 13, 14, 15, 16, 17, 18, 19, 20, 21, 22, 23, 24, 25] (mkS 187 [(11, .sl (([x_1, r_8.1, (⟨r_9.Length, r_9.Width, r_9.Front, r_9.Rear, r_9.Turn, r_9.Kilos, r_9.Middle, r_9.High, w_10⟩ : T_Float)] : List T_Float).map A_Float) (some 0)), (12, i6 i_24), (13, .ptr 0 0), (14, .ptr 1 0), (15, i6 r_31.2), (16, .ptr 2 0), (17, i6 r_33.2), (18, .ptr 3 0), (19, .ptr 4 0), (20, i6 r_34.2.2), (21, .ptr 5 0), (22, .ptr 6 0), (23, i6 r_36.2.2), (24, .ptr 7 0), (25, i6 r_37.2)]) ⟨[(C_Float r_30), (C_Span r_31.1), (C_Span r_33.1), (C_Span r_34.1), (C_Span r_34.2.1), (C_Span r_36.1), (C_Span r_36.2.1), (C_Span r_37.1)], [(3, 9)]⟩ ?_
      refine ExO.nil ?_
      refine Ex.seq ?_
      obtain ⟨x_38, hx_38, h⟩ := bE h
      obtain ⟨r_39, hr_39, h⟩ := bE h
      refine Ex.reg ?_
      refine runH 4 [(2, .rop (C_Float x_38))] [11, 12, 13, 14, 15, 16, 17, 18, 19, 20, 21, 22, 23, 24, 25, 107] [LGet (([x_1, r_8.1, (⟨r_9.Length, r_9.Width, r_9.Front, r_9.Rear, r_9.Turn, r_9.Kilos, r_9.Middle, r_9.High, w_10⟩ : T_Float)] : List T_Float).map A_Float) i_24 9 (C_Float x_38)] (mkS 187 [(11, .sl (([x_1, r_8.1, (⟨r_9.Length, r_9.Width, r_9.Front, r_9.Rear, r_9.Turn, r_9.Kilos, r_9.Middle, r_9.High, w_10⟩ : T_Float)] : List T_Float).map A_Float) (some 0)), (12, i6 i_24), (13, .ptr 0 0), (14, .ptr 1 0), (15, i6 r_31.2), (16, .ptr 2 0), (17, i6 r_33.2), (18, .ptr 3 0), (19, .ptr 4 0), (20, i6 r_34.2.2), (21, .ptr 5 0), (22, .ptr 6 0), (23, i6 r_36.2.2), (24, .ptr 7 0), (25, i6 r_37.2), (107, (A_Float x_38))]) (⟨[(C_Float r_30), (C_Span r_31.1), (C_Span r_33.1), (C_Span r_34.1), (C_Span r_34.2.1), (C_Span r_36.1), (C_Span r_36.2.1), (C_Span r_37.1)], [(3, 9)]⟩) (by kernel_rfl) ⟨LGet.of hx_38 rfl, trivial⟩ ?_
      refine ExO.callL [] [(A_Float x_38)] rfl rfl (a_br2_Height x_38) rfl rfl (d_br2_Height N x_38 r_39 hr_39) (b_br2_Height _ _ _ _) rfl ?_
      refine rn 6 [11, 12, 13, 14, 15, 16, 17, 18, 19, 20, 21, 22, 23, 24, 25, 26, 27] (mkS 187 [(11, .sl (([x_1, r_8.1, (⟨r_9.Length, r_9.Width, r_9.Front, r_9.Rear, r_9.Turn, r_9.Kilos, r_9.Middle, r_9.High, w_10⟩ : T_Float)] : List T_Float).map A_Float) (some 0)), (12, i6 i_24), (13, .ptr 0 0), (14, .ptr 1 0), (15, i6 r_31.2), (16, .ptr 2 0), (17, i6 r_33.2), (18, .ptr 3 0), (19, .ptr 4 0), (20, i6 r_34.2.2), (21, .ptr 5 0), (22, .ptr 6 0), (23, i6 r_36.2.2), (24, .ptr 7 0), (25, i6 r_37.2), (26, .ptr 8 0), (27, i6 r_39.2)]) ⟨[(C_Float r_30), (C_Span r_31.1), (C_Span r_33.1), (C_Span r_34.1), (C_Span r_34.2.1), (C_Span r_36.1), (C_Span r_36.2.1), (C_Span r_37.1), (C_Span r_39.1)], [(3, 9)]⟩ ?_
      refine ExO.nil ?_
      refine Ex.seq ?_
      obtain ⟨r_40, hr_40, h⟩ := bE h
      refine Ex.reg (rn 1 [11, 12, 13, 14, 15, 16, 17, 18, 19, 20, 21, 22, 23, 24, 25, 26, 27, 112] (mkS 187 [(11, .sl (([x_1, r_8.1, (⟨r_9.Length, r_9.Width, r_9.Front, r_9.Rear, r_9.Turn, r_9.Kilos, r_9.Middle, r_9.High, w_10⟩ : T_Float)] : List T_Float).map A_Float) (some 0)), (12, i6 i_24), (13, .ptr 0 0), (14, .ptr 1 0), (15, i6 r_31.2), (16, .ptr 2 0), (17, i6 r_33.2), (18, .ptr 3 0), (19, .ptr 4 0), (20, i6 r_34.2.2), (21, .ptr 5 0), (22, .ptr 6 0), (23, i6 r_36.2.2), (24, .ptr 7 0), (25, i6 r_37.2), (26, .ptr 8 0), (27, i6 r_39.2), (112, (A_Float r_30))]) ⟨[(C_Float r_30), (C_Span r_31.1), (C_Span r_33.1), (C_Span r_34.1), (C_Span r_34.2.1), (C_Span r_36.1), (C_Span r_36.2.1), (C_Span r_37.1), (C_Span r_39.1)], [(3, 9)]⟩ ?_)
      refine ExO.callL [] [(A_Float r_30)] rfl rfl (a_float_Stands r_30) rfl rfl (d_float_Stands N r_30 r_40 hr_40) (b_float_Stands _ _ _ _) rfl ?_
      refine rn 5 [11, 12, 13, 14, 15, 16, 17, 18, 19, 20, 21, 22, 23, 24, 25, 26, 27, 28, 29] (mkS 187 [(11, .sl (([x_1, r_8.1, (⟨r_9.Length, r_9.Width, r_9.Front, r_9.Rear, r_9.Turn, r_9.Kilos, r_9.Middle, r_9.High, w_10⟩ : T_Float)] : List T_Float).map A_Float) (some 0)), (12, i6 i_24), (13, .ptr 0 0), (14, .ptr 1 0), (15, i6 r_31.2), (16, .ptr 2 0), (17, i6 r_33.2), (18, .ptr 3 0), (19, .ptr 4 0), (20, i6 r_34.2.2), (21, .ptr 5 0), (22, .ptr 6 0), (23, i6 r_36.2.2), (24, .ptr 7 0), (25, i6 r_37.2), (26, .ptr 8 0), (27, i6 r_39.2), (28, i6 r_40.1), (29, i6 r_40.2)]) ⟨[(C_Float r_30), (C_Span r_31.1), (C_Span r_33.1), (C_Span r_34.1), (C_Span r_34.2.1), (C_Span r_36.1), (C_Span r_36.2.1), (C_Span r_37.1), (C_Span r_39.1)], [(3, 9)]⟩ ?_
      refine ExO.nil ?_
      refine Ex.seq ?_
      obtain ⟨x_41, hx_41, h⟩ := bE h
      obtain ⟨r_42, hr_42, h⟩ := bE h
      refine Ex.reg ?_
      refine runH 4 [(2, .rop (C_Float x_41))] [11, 12, 13, 14, 15, 16, 17, 18, 19, 20, 21, 22, 23, 24, 25, 26, 27, 28, 29, 120] [LGet (([x_1, r_8.1, (⟨r_9.Length, r_9.Width, r_9.Front, r_9.Rear, r_9.Turn, r_9.Kilos, r_9.Middle, r_9.High, w_10⟩ : T_Float)] : List T_Float).map A_Float) i_24 9 (C_Float x_41)] (mkS 187 [(11, .sl (([x_1, r_8.1, (⟨r_9.Length, r_9.Width, r_9.Front, r_9.Rear, r_9.Turn, r_9.Kilos, r_9.Middle, r_9.High, w_10⟩ : T_Float)] : List T_Float).map A_Float) (some 0)), (12, i6 i_24), (13, .ptr 0 0), (14, .ptr 1 0), (15, i6 r_31.2), (16, .ptr 2 0), (17, i6 r_33.2), (18, .ptr 3 0), (19, .ptr 4 0), (20, i6 r_34.2.2), (21, .ptr 5 0), (22, .ptr 6 0), (23, i6 r_36.2.2), (24, .ptr 7 0), (25, i6 r_37.2), (26, .ptr 8 0), (27, i6 r_39.2), (28, i6 r_40.1), (29, i6 r_40.2), (120, (A_Float x_41))]) (⟨[(C_Float r_30), (C_Span r_31.1), (C_Span r_33.1), (C_Span r_34.1), (C_Span r_34.2.1), (C_Span r_36.1), (C_Span r_36.2.1), (C_Span r_37.1), (C_Span r_39.1)], [(3, 9)]⟩) (by kernel_rfl) ⟨LGet.of hx_41 rfl, trivial⟩ ?_
      refine ExO.callL [] [(A_Float x_41)] rfl rfl (a_br2_Stands x_41) rfl rfl (d_br2_Stands N x_41 r_42 hr_42) (b_br2_Stands _ _ _ _) rfl ?_
      refine rn 5 [11, 12, 13, 14, 15, 16, 17, 18, 19, 20, 21, 22, 23, 24, 25, 26, 27, 28, 29, 30, 31] (mkS 187 [(11, .sl (([x_1, r_8.1, (⟨r_9.Length, r_9.Width, r_9.Front, r_9.Rear, r_9.Turn, r_9.Kilos, r_9.Middle, r_9.High, w_10⟩ : T_Float)] : List T_Float).map A_Float) (some 0)), (12, i6 i_24), (13, .ptr 0 0), (14, .ptr 1 0), (15, i6 r_31.2), (16, .ptr 2 0), (17, i6 r_33.2), (18, .ptr 3 0), (19, .ptr 4 0), (20, i6 r_34.2.2), (21, .ptr 5 0), (22, .ptr 6 0), (23, i6 r_36.2.2), (24, .ptr 7 0), (25, i6 r_37.2), (26, .ptr 8 0), (27, i6 r_39.2), (28, i6 r_40.1), (29, i6 r_40.2), (30, i6 r_42.1), (31, i6 r_42.2)]) ⟨[(C_Float r_30), (C_Span r_31.1), (C_Span r_33.1), (C_Span r_34.1), (C_Span r_34.2.1), (C_Span r_36.1), (C_Span r_36.2.1), (C_Span r_37.1), (C_Span r_39.1)], [(3, 9)]⟩ ?_
      refine ExO.nil ?_
      obtain ⟨K_45, hK_46, h⟩ := letE h
      refine Ex.seqJ (fun a S => ∃ (y_43 : Bool), K_45 y_43 = some r ∧ a = mkS 187 [(11, .sl (([x_1, r_8.1, (⟨r_9.Length, r_9.Width, r_9.Front, r_9.Rear, r_9.Turn, r_9.Kilos, r_9.Middle, r_9.High, w_10⟩ : T_Float)] : List T_Float).map A_Float) (some 0)), (12, i6 i_24), (185, .bool y_43)] ∧ S = ⟨[], [(3, 9)]⟩) ?_ ?_
      ·obtain ⟨r_47, hr_47, h⟩ := bE h
       obtain ⟨x_48, hx_48, h⟩ := bE h
       obtain ⟨r_49, hr_49, h⟩ := bE h
       rcases condI h with ⟨hc_50, h⟩ | ⟨hc_50, h⟩
       ·have hT_52 : DoesA Try.prog [⟨20, [(A_Float r_30)], [], (v_float_Check r_47), []⟩, ⟨21, [(A_Float x_48)], [], (v_br2_Check r_49), []⟩] ∧ ConsA [⟨20, [(A_Float r_30)], [], (v_float_Check r_47), []⟩, ⟨21, [(A_Float x_48)], [], (v_br2_Check r_49), []⟩] := ⟨⟨(d_float_Check N r_30 r_47 hr_47), rfl, (d_br2_Check N x_48 r_49 hr_49), rfl, trivial⟩, ⟨⟨ConsR.ne rfl, trivial⟩, trivial, trivial⟩⟩
        obtain ⟨X_51, hX_51, hcl_53, hcl_54⟩ : ∃ X : Clr, ClrOk Try.prog X ∧ X 20 [(A_Float r_30)] ⟨[(C_Float r_30), (C_Span r_31.1), (C_Span r_33.1), (C_Span r_34.1), (C_Span r_34.2.1), (C_Span r_36.1), (C_Span r_36.2.1), (C_Span r_37.1), (C_Span r_39.1)], [(3, 9)]⟩ = some (v_float_Check r_47, none) ∧ X 21 [(A_Float x_48)] ⟨[(C_Float r_30), (C_Span r_31.1), (C_Span r_33.1), (C_Span r_34.1), (C_Span r_34.2.1), (C_Span r_36.1), (C_Span r_36.2.1), (C_Span r_37.1), (C_Span r_39.1)], [(3, 9)]⟩ = some (v_br2_Check r_49, none) := ⟨_, tabO_ok hT_52.1, tabO_pure hT_52.2 0 _ [(A_Float r_30)] _ rfl rfl rfl rfl (by simp; try rfl) (fun _ => b_float_Check _ _ _ _), tabO_pure hT_52.2 1 _ [(A_Float x_48)] _ rfl rfl rfl rfl (by simp; try rfl) (fun _ => b_br2_Check _ _ _ _)⟩
        refine dregX hX_51 [(1, .cl (v_float_Check r_47)), (4, .rop (C_Float x_48)), (6, .cl (v_br2_Check r_49)), (8, .eq (.bool true))] [] [11, 12, 185] [X_51 20 [(A_Float r_30)] ⟨[(C_Float r_30), (C_Span r_31.1), (C_Span r_33.1), (C_Span r_34.1), (C_Span r_34.2.1), (C_Span r_36.1), (C_Span r_36.2.1), (C_Span r_37.1), (C_Span r_39.1)], [(3, 9)]⟩ = some (v_float_Check r_47, none), LGet (([x_1, r_8.1, (⟨r_9.Length, r_9.Width, r_9.Front, r_9.Rear, r_9.Turn, r_9.Kilos, r_9.Middle, r_9.High, w_10⟩ : T_Float)] : List T_Float).map A_Float) i_24 9 (C_Float x_48), X_51 21 [(A_Float x_48)] ⟨[(C_Float r_30), (C_Span r_31.1), (C_Span r_33.1), (C_Span r_34.1), (C_Span r_34.2.1), (C_Span r_36.1), (C_Span r_36.2.1), (C_Span r_37.1), (C_Span r_39.1)], [(3, 9)]⟩ = some (v_br2_Check r_49, none), AV.bool (r_47 != r_49) = AV.bool true] [] (mkS 187 [(11, .sl (([x_1, r_8.1, (⟨r_9.Length, r_9.Width, r_9.Front, r_9.Rear, r_9.Turn, r_9.Kilos, r_9.Middle, r_9.High, w_10⟩ : T_Float)] : List T_Float).map A_Float) (some 0)), (12, i6 i_24), (13, .ptr 0 0), (14, .ptr 1 0), (15, i6 r_31.2), (16, .ptr 2 0), (17, i6 r_33.2), (18, .ptr 3 0), (19, .ptr 4 0), (20, i6 r_34.2.2), (21, .ptr 5 0), (22, .ptr 6 0), (23, i6 r_36.2.2), (24, .ptr 7 0), (25, i6 r_37.2), (26, .ptr 8 0), (27, i6 r_39.2), (28, i6 r_40.1), (29, i6 r_40.2), (30, i6 r_42.1), (31, i6 r_42.2), (124, (A_Float r_30)), (125, i6 r_47), (126, .sl (([x_1, r_8.1, (⟨r_9.Length, r_9.Width, r_9.Front, r_9.Rear, r_9.Turn, r_9.Kilos, r_9.Middle, r_9.High, w_10⟩ : T_Float)] : List T_Float).map A_Float) (some 0)), (127, i6 i_24), (128, .rop (C_Float x_48)), (129, (A_Float x_48)), (130, i6 r_49), (131, .bool (r_47 != r_49)), (132, .bool true), (133, .tup []), (134, .tup []), (135, .tup []), (136, .bool true), (137, .bool true), (138, .tup []), (139, .tup []), (140, .tup []), (141, .bool true), (142, .bool true), (143, .tup []), (144, .tup []), (145, .tup []), (146, .bool true), (147, .bool true), (148, .tup []), (149, .tup []), (150, .tup []), (151, .bool true), (152, .bool true), (153, .tup []), (154, .tup []), (155, .tup []), (156, .bool true), (157, .bool true), (158, .tup []), (159, .tup []), (160, .tup []), (161, .bool true), (162, .bool true), (163, .tup []), (164, .tup []), (165, .tup []), (166, .bool true), (167, .bool true), (168, .tup []), (169, .tup []), (170, .tup []), (171, .bool true), (172, .bool true), (173, .tup []), (174, .tup []), (175, .tup []), (176, .bool true), (177, .bool true), (178, .tup []), (179, .tup []), (180, .tup []), (181, .tup []), (182, .tup [])]) (mkS 187 [(11, .sl (([x_1, r_8.1, (⟨r_9.Length, r_9.Width, r_9.Front, r_9.Rear, r_9.Turn, r_9.Kilos, r_9.Middle, r_9.High, w_10⟩ : T_Float)] : List T_Float).map A_Float) (some 0)), (12, i6 i_24), (185, .bool true)]) (by kernel_rfl) (by kernel_rfl) ⟨hcl_53, LGet.of hx_48 rfl, hcl_54, congrArg AV.bool hc_50, trivial⟩ (by kernel_rfl) trivial ?_
        (try simp only [reduceCtorEq, AEx.ex.injEq, Nat.reduceEqDiff, if_true, if_false])
        exact ⟨_, _, forgetA (m := 187) 0 [0] [(11, .sl (([x_1, r_8.1, (⟨r_9.Length, r_9.Width, r_9.Front, r_9.Rear, r_9.Turn, r_9.Kilos, r_9.Middle, r_9.High, w_10⟩ : T_Float)] : List T_Float).map A_Float) (some 0)), (12, i6 i_24), (185, .bool true)] [] [(3, 9)] (by simp) (by simp) ⟨(reT (KL_Float _) rfl), rfl, rfl, trivial⟩ (by simp) rfl (by decide), true, h, rfl, rfl⟩
       ·rcases condI h with ⟨hc_55, h⟩ | ⟨hc_55, h⟩
        ·have hT_57 : DoesA Try.prog [⟨20, [(A_Float r_30)], [], (v_float_Check r_47), []⟩, ⟨21, [(A_Float x_48)], [], (v_br2_Check r_49), []⟩] ∧ ConsA [⟨20, [(A_Float r_30)], [], (v_float_Check r_47), []⟩, ⟨21, [(A_Float x_48)], [], (v_br2_Check r_49), []⟩] := ⟨⟨(d_float_Check N r_30 r_47 hr_47), rfl, (d_br2_Check N x_48 r_49 hr_49), rfl, trivial⟩, ⟨⟨ConsR.ne rfl, trivial⟩, trivial, trivial⟩⟩
         obtain ⟨X_56, hX_56, hcl_58, hcl_59⟩ : ∃ X : Clr, ClrOk Try.prog X ∧ X 20 [(A_Float r_30)] ⟨[(C_Float r_30), (C_Span r_31.1), (C_Span r_33.1), (C_Span r_34.1), (C_Span r_34.2.1), (C_Span r_36.1), (C_Span r_36.2.1), (C_Span r_37.1), (C_Span r_39.1)], [(3, 9)]⟩ = some (v_float_Check r_47, none) ∧ X 21 [(A_Float x_48)] ⟨[(C_Float r_30), (C_Span r_31.1), (C_Span r_33.1), (C_Span r_34.1), (C_Span r_34.2.1), (C_Span r_36.1), (C_Span r_36.2.1), (C_Span r_37.1), (C_Span r_39.1)], [(3, 9)]⟩ = some (v_br2_Check r_49, none) := ⟨_, tabO_ok hT_57.1, tabO_pure hT_57.2 0 _ [(A_Float r_30)] _ rfl rfl rfl rfl (by simp; try rfl) (fun _ => b_float_Check _ _ _ _), tabO_pure hT_57.2 1 _ [(A_Float x_48)] _ rfl rfl rfl rfl (by simp; try rfl) (fun _ => b_br2_Check _ _ _ _)⟩
         refine dregX hX_56 [(1, .cl (v_float_Check r_47)), (4, .rop (C_Float x_48)), (6, .cl (v_br2_Check r_49)), (8, .eq (.bool false)), (13, .eq (.bool true))] [] [11, 12, 185] [X_56 20 [(A_Float r_30)] ⟨[(C_Float r_30), (C_Span r_31.1), (C_Span r_33.1), (C_Span r_34.1), (C_Span r_34.2.1), (C_Span r_36.1), (C_Span r_36.2.1), (C_Span r_37.1), (C_Span r_39.1)], [(3, 9)]⟩ = some (v_float_Check r_47, none), LGet (([x_1, r_8.1, (⟨r_9.Length, r_9.Width, r_9.Front, r_9.Rear, r_9.Turn, r_9.Kilos, r_9.Middle, r_9.High, w_10⟩ : T_Float)] : List T_Float).map A_Float) i_24 9 (C_Float x_48), X_56 21 [(A_Float x_48)] ⟨[(C_Float r_30), (C_Span r_31.1), (C_Span r_33.1), (C_Span r_34.1), (C_Span r_34.2.1), (C_Span r_36.1), (C_Span r_36.2.1), (C_Span r_37.1), (C_Span r_39.1)], [(3, 9)]⟩ = some (v_br2_Check r_49, none), AV.bool (r_47 != r_49) = AV.bool false, AV.bool (!((r_31.1.Lo == r_33.1.Lo) && ((r_31.1.Hi == r_33.1.Hi) && true))) = AV.bool true] [] (mkS 187 [(11, .sl (([x_1, r_8.1, (⟨r_9.Length, r_9.Width, r_9.Front, r_9.Rear, r_9.Turn, r_9.Kilos, r_9.Middle, r_9.High, w_10⟩ : T_Float)] : List T_Float).map A_Float) (some 0)), (12, i6 i_24), (13, .ptr 0 0), (14, .ptr 1 0), (15, i6 r_31.2), (16, .ptr 2 0), (17, i6 r_33.2), (18, .ptr 3 0), (19, .ptr 4 0), (20, i6 r_34.2.2), (21, .ptr 5 0), (22, .ptr 6 0), (23, i6 r_36.2.2), (24, .ptr 7 0), (25, i6 r_37.2), (26, .ptr 8 0), (27, i6 r_39.2), (28, i6 r_40.1), (29, i6 r_40.2), (30, i6 r_42.1), (31, i6 r_42.2), (124, (A_Float r_30)), (125, i6 r_47), (126, .sl (([x_1, r_8.1, (⟨r_9.Length, r_9.Width, r_9.Front, r_9.Rear, r_9.Turn, r_9.Kilos, r_9.Middle, r_9.High, w_10⟩ : T_Float)] : List T_Float).map A_Float) (some 0)), (127, i6 i_24), (128, .rop (C_Float x_48)), (129, (A_Float x_48)), (130, i6 r_49), (131, .bool (r_47 != r_49)), (132, .bool false), (133, (A_Span r_31.1)), (134, (A_Span r_33.1)), (135, .bool (!((r_31.1.Lo == r_33.1.Lo) && ((r_31.1.Hi == r_33.1.Hi) && true)))), (136, .bool (!((r_31.1.Lo == r_33.1.Lo) && ((r_31.1.Hi == r_33.1.Hi) && true)))), (137, .bool true), (138, .tup []), (139, .tup []), (140, .tup []), (141, .bool true), (142, .bool true), (143, .tup []), (144, .tup []), (145, .tup []), (146, .bool true), (147, .bool true), (148, .tup []), (149, .tup []), (150, .tup []), (151, .bool true), (152, .bool true), (153, .tup []), (154, .tup []), (155, .tup []), (156, .bool true), (157, .bool true), (158, .tup []), (159, .tup []), (160, .tup []), (161, .bool true), (162, .bool true), (163, .tup []), (164, .tup []), (165, .tup []), (166, .bool true), (167, .bool true), (168, .tup []), (169, .tup []), (170, .tup []), (171, .bool true), (172, .bool true), (173, .tup []), (174, .tup []), (175, .tup []), (176, .bool true), (177, .bool true), (178, .tup []), (179, .tup []), (180, .tup []), (181, .tup []), (182, .tup [])]) (mkS 187 [(11, .sl (([x_1, r_8.1, (⟨r_9.Length, r_9.Width, r_9.Front, r_9.Rear, r_9.Turn, r_9.Kilos, r_9.Middle, r_9.High, w_10⟩ : T_Float)] : List T_Float).map A_Float) (some 0)), (12, i6 i_24), (185, .bool true)]) (by kernel_rfl) (by kernel_rfl) ⟨hcl_58, LGet.of hx_48 rfl, hcl_59, congrArg AV.bool hc_50, congrArg AV.bool hc_55, trivial⟩ (by kernel_rfl) trivial ?_
         (try simp only [reduceCtorEq, AEx.ex.injEq, Nat.reduceEqDiff, if_true, if_false])
         exact ⟨_, _, forgetA (m := 187) 0 [0] [(11, .sl (([x_1, r_8.1, (⟨r_9.Length, r_9.Width, r_9.Front, r_9.Rear, r_9.Turn, r_9.Kilos, r_9.Middle, r_9.High, w_10⟩ : T_Float)] : List T_Float).map A_Float) (some 0)), (12, i6 i_24), (185, .bool true)] [] [(3, 9)] (by simp) (by simp) ⟨(reT (KL_Float _) rfl), rfl, rfl, trivial⟩ (by simp) rfl (by decide), true, h, rfl, rfl⟩
        ·rcases condI h with ⟨hc_60, h⟩ | ⟨hc_60, h⟩
         ·have hT_62 : DoesA Try.prog [⟨20, [(A_Float r_30)], [], (v_float_Check r_47), []⟩, ⟨21, [(A_Float x_48)], [], (v_br2_Check r_49), []⟩] ∧ ConsA [⟨20, [(A_Float r_30)], [], (v_float_Check r_47), []⟩, ⟨21, [(A_Float x_48)], [], (v_br2_Check r_49), []⟩] := ⟨⟨(d_float_Check N r_30 r_47 hr_47), rfl, (d_br2_Check N x_48 r_49 hr_49), rfl, trivial⟩, ⟨⟨ConsR.ne rfl, trivial⟩, trivial, trivial⟩⟩
          obtain ⟨X_61, hX_61, hcl_63, hcl_64⟩ : ∃ X : Clr, ClrOk Try.prog X ∧ X 20 [(A_Float r_30)] ⟨[(C_Float r_30), (C_Span r_31.1), (C_Span r_33.1), (C_Span r_34.1), (C_Span r_34.2.1), (C_Span r_36.1), (C_Span r_36.2.1), (C_Span r_37.1), (C_Span r_39.1)], [(3, 9)]⟩ = some (v_float_Check r_47, none) ∧ X 21 [(A_Float x_48)] ⟨[(C_Float r_30), (C_Span r_31.1), (C_Span r_33.1), (C_Span r_34.1), (C_Span r_34.2.1), (C_Span r_36.1), (C_Span r_36.2.1), (C_Span r_37.1), (C_Span r_39.1)], [(3, 9)]⟩ = some (v_br2_Check r_49, none) := ⟨_, tabO_ok hT_62.1, tabO_pure hT_62.2 0 _ [(A_Float r_30)] _ rfl rfl rfl rfl (by simp; try rfl) (fun _ => b_float_Check _ _ _ _), tabO_pure hT_62.2 1 _ [(A_Float x_48)] _ rfl rfl rfl rfl (by simp; try rfl) (fun _ => b_br2_Check _ _ _ _)⟩
          refine dregX hX_61 [(1, .cl (v_float_Check r_47)), (4, .rop (C_Float x_48)), (6, .cl (v_br2_Check r_49)), (8, .eq (.bool false)), (13, .eq (.bool false)), (18, .eq (.bool true))] [] [11, 12, 185] [X_61 20 [(A_Float r_30)] ⟨[(C_Float r_30), (C_Span r_31.1), (C_Span r_33.1), (C_Span r_34.1), (C_Span r_34.2.1), (C_Span r_36.1), (C_Span r_36.2.1), (C_Span r_37.1), (C_Span r_39.1)], [(3, 9)]⟩ = some (v_float_Check r_47, none), LGet (([x_1, r_8.1, (⟨r_9.Length, r_9.Width, r_9.Front, r_9.Rear, r_9.Turn, r_9.Kilos, r_9.Middle, r_9.High, w_10⟩ : T_Float)] : List T_Float).map A_Float) i_24 9 (C_Float x_48), X_61 21 [(A_Float x_48)] ⟨[(C_Float r_30), (C_Span r_31.1), (C_Span r_33.1), (C_Span r_34.1), (C_Span r_34.2.1), (C_Span r_36.1), (C_Span r_36.2.1), (C_Span r_37.1), (C_Span r_39.1)], [(3, 9)]⟩ = some (v_br2_Check r_49, none), AV.bool (r_47 != r_49) = AV.bool false, AV.bool (!((r_31.1.Lo == r_33.1.Lo) && ((r_31.1.Hi == r_33.1.Hi) && true))) = AV.bool false, AV.bool (r_31.2 != r_33.2) = AV.bool true] [] (mkS 187 [(11, .sl (([x_1, r_8.1, (⟨r_9.Length, r_9.Width, r_9.Front, r_9.Rear, r_9.Turn, r_9.Kilos, r_9.Middle, r_9.High, w_10⟩ : T_Float)] : List T_Float).map A_Float) (some 0)), (12, i6 i_24), (13, .ptr 0 0), (14, .ptr 1 0), (15, i6 r_31.2), (16, .ptr 2 0), (17, i6 r_33.2), (18, .ptr 3 0), (19, .ptr 4 0), (20, i6 r_34.2.2), (21, .ptr 5 0), (22, .ptr 6 0), (23, i6 r_36.2.2), (24, .ptr 7 0), (25, i6 r_37.2), (26, .ptr 8 0), (27, i6 r_39.2), (28, i6 r_40.1), (29, i6 r_40.2), (30, i6 r_42.1), (31, i6 r_42.2), (124, (A_Float r_30)), (125, i6 r_47), (126, .sl (([x_1, r_8.1, (⟨r_9.Length, r_9.Width, r_9.Front, r_9.Rear, r_9.Turn, r_9.Kilos, r_9.Middle, r_9.High, w_10⟩ : T_Float)] : List T_Float).map A_Float) (some 0)), (127, i6 i_24), (128, .rop (C_Float x_48)), (129, (A_Float x_48)), (130, i6 r_49), (131, .bool (r_47 != r_49)), (132, .bool false), (133, (A_Span r_31.1)), (134, (A_Span r_33.1)), (135, .bool (!((r_31.1.Lo == r_33.1.Lo) && ((r_31.1.Hi == r_33.1.Hi) && true)))), (136, .bool (!((r_31.1.Lo == r_33.1.Lo) && ((r_31.1.Hi == r_33.1.Hi) && true)))), (137, .bool false), (138, i6 r_31.2), (139, i6 r_33.2), (140, .bool (r_31.2 != r_33.2)), (141, .bool (r_31.2 != r_33.2)), (142, .bool true), (143, .tup []), (144, .tup []), (145, .tup []), (146, .bool true), (147, .bool true), (148, .tup []), (149, .tup []), (150, .tup []), (151, .bool true), (152, .bool true), (153, .tup []), (154, .tup []), (155, .tup []), (156, .bool true), (157, .bool true), (158, .tup []), (159, .tup []), (160, .tup []), (161, .bool true), (162, .bool true), (163, .tup []), (164, .tup []), (165, .tup []), (166, .bool true), (167, .bool true), (168, .tup []), (169, .tup []), (170, .tup []), (171, .bool true), (172, .bool true), (173, .tup []), (174, .tup []), (175, .tup []), (176, .bool true), (177, .bool true), (178, .tup []), (179, .tup []), (180, .tup []), (181, .tup []), (182, .tup [])]) (mkS 187 [(11, .sl (([x_1, r_8.1, (⟨r_9.Length, r_9.Width, r_9.Front, r_9.Rear, r_9.Turn, r_9.Kilos, r_9.Middle, r_9.High, w_10⟩ : T_Float)] : List T_Float).map A_Float) (some 0)), (12, i6 i_24), (185, .bool true)]) (by kernel_rfl) (by kernel_rfl) ⟨hcl_63, LGet.of hx_48 rfl, hcl_64, congrArg AV.bool hc_50, congrArg AV.bool hc_55, congrArg AV.bool hc_60, trivial⟩ (by kernel_rfl) trivial ?_
          (try simp only [reduceCtorEq, AEx.ex.injEq, Nat.reduceEqDiff, if_true, if_false])
          exact ⟨_, _, forgetA (m := 187) 0 [0] [(11, .sl (([x_1, r_8.1, (⟨r_9.Length, r_9.Width, r_9.Front, r_9.Rear, r_9.Turn, r_9.Kilos, r_9.Middle, r_9.High, w_10⟩ : T_Float)] : List T_Float).map A_Float) (some 0)), (12, i6 i_24), (185, .bool true)] [] [(3, 9)] (by simp) (by simp) ⟨(reT (KL_Float _) rfl), rfl, rfl, trivial⟩ (by simp) rfl (by decide), true, h, rfl, rfl⟩
         ·rcases condI h with ⟨hc_65, h⟩ | ⟨hc_65, h⟩
          ·have hT_67 : DoesA Try.prog [⟨20, [(A_Float r_30)], [], (v_float_Check r_47), []⟩, ⟨21, [(A_Float x_48)], [], (v_br2_Check r_49), []⟩] ∧ ConsA [⟨20, [(A_Float r_30)], [], (v_float_Check r_47), []⟩, ⟨21, [(A_Float x_48)], [], (v_br2_Check r_49), []⟩] := ⟨⟨(d_float_Check N r_30 r_47 hr_47), rfl, (d_br2_Check N x_48 r_49 hr_49), rfl, trivial⟩, ⟨⟨ConsR.ne rfl, trivial⟩, trivial, trivial⟩⟩
           obtain ⟨X_66, hX_66, hcl_68, hcl_69⟩ : ∃ X : Clr, ClrOk Try.prog X ∧ X 20 [(A_Float r_30)] ⟨[(C_Float r_30), (C_Span r_31.1), (C_Span r_33.1), (C_Span r_34.1), (C_Span r_34.2.1), (C_Span r_36.1), (C_Span r_36.2.1), (C_Span r_37.1), (C_Span r_39.1)], [(3, 9)]⟩ = some (v_float_Check r_47, none) ∧ X 21 [(A_Float x_48)] ⟨[(C_Float r_30), (C_Span r_31.1), (C_Span r_33.1), (C_Span r_34.1), (C_Span r_34.2.1), (C_Span r_36.1), (C_Span r_36.2.1), (C_Span r_37.1), (C_Span r_39.1)], [(3, 9)]⟩ = some (v_br2_Check r_49, none) := ⟨_, tabO_ok hT_67.1, tabO_pure hT_67.2 0 _ [(A_Float r_30)] _ rfl rfl rfl rfl (by simp; try rfl) (fun _ => b_float_Check _ _ _ _), tabO_pure hT_67.2 1 _ [(A_Float x_48)] _ rfl rfl rfl rfl (by simp; try rfl) (fun _ => b_br2_Check _ _ _ _)⟩
           refine dregX hX_66 [(1, .cl (v_float_Check r_47)), (4, .rop (C_Float x_48)), (6, .cl (v_br2_Check r_49)), (8, .eq (.bool false)), (13, .eq (.bool false)), (18, .eq (.bool false)), (23, .eq (.bool true))] [] [11, 12, 185] [X_66 20 [(A_Float r_30)] ⟨[(C_Float r_30), (C_Span r_31.1), (C_Span r_33.1), (C_Span r_34.1), (C_Span r_34.2.1), (C_Span r_36.1), (C_Span r_36.2.1), (C_Span r_37.1), (C_Span r_39.1)], [(3, 9)]⟩ = some (v_float_Check r_47, none), LGet (([x_1, r_8.1, (⟨r_9.Length, r_9.Width, r_9.Front, r_9.Rear, r_9.Turn, r_9.Kilos, r_9.Middle, r_9.High, w_10⟩ : T_Float)] : List T_Float).map A_Float) i_24 9 (C_Float x_48), X_66 21 [(A_Float x_48)] ⟨[(C_Float r_30), (C_Span r_31.1), (C_Span r_33.1), (C_Span r_34.1), (C_Span r_34.2.1), (C_Span r_36.1), (C_Span r_36.2.1), (C_Span r_37.1), (C_Span r_39.1)], [(3, 9)]⟩ = some (v_br2_Check r_49, none), AV.bool (r_47 != r_49) = AV.bool false, AV.bool (!((r_31.1.Lo == r_33.1.Lo) && ((r_31.1.Hi == r_33.1.Hi) && true))) = AV.bool false, AV.bool (r_31.2 != r_33.2) = AV.bool false, AV.bool (!((r_34.1.Lo == r_36.1.Lo) && ((r_34.1.Hi == r_36.1.Hi) && true))) = AV.bool true] [] (mkS 187 [(11, .sl (([x_1, r_8.1, (⟨r_9.Length, r_9.Width, r_9.Front, r_9.Rear, r_9.Turn, r_9.Kilos, r_9.Middle, r_9.High, w_10⟩ : T_Float)] : List T_Float).map A_Float) (some 0)), (12, i6 i_24), (13, .ptr 0 0), (14, .ptr 1 0), (15, i6 r_31.2), (16, .ptr 2 0), (17, i6 r_33.2), (18, .ptr 3 0), (19, .ptr 4 0), (20, i6 r_34.2.2), (21, .ptr 5 0), (22, .ptr 6 0), (23, i6 r_36.2.2), (24, .ptr 7 0), (25, i6 r_37.2), (26, .ptr 8 0), (27, i6 r_39.2), (28, i6 r_40.1), (29, i6 r_40.2), (30, i6 r_42.1), (31, i6 r_42.2), (124, (A_Float r_30)), (125, i6 r_47), (126, .sl (([x_1, r_8.1, (⟨r_9.Length, r_9.Width, r_9.Front, r_9.Rear, r_9.Turn, r_9.Kilos, r_9.Middle, r_9.High, w_10⟩ : T_Float)] : List T_Float).map A_Float) (some 0)), (127, i6 i_24), (128, .rop (C_Float x_48)), (129, (A_Float x_48)), (130, i6 r_49), (131, .bool (r_47 != r_49)), (132, .bool false), (133, (A_Span r_31.1)), (134, (A_Span r_33.1)), (135, .bool (!((r_31.1.Lo == r_33.1.Lo) && ((r_31.1.Hi == r_33.1.Hi) && true)))), (136, .bool (!((r_31.1.Lo == r_33.1.Lo) && ((r_31.1.Hi == r_33.1.Hi) && true)))), (137, .bool false), (138, i6 r_31.2), (139, i6 r_33.2), (140, .bool (r_31.2 != r_33.2)), (141, .bool (r_31.2 != r_33.2)), (142, .bool false), (143, (A_Span r_34.1)), (144, (A_Span r_36.1)), (145, .bool (!((r_34.1.Lo == r_36.1.Lo) && ((r_34.1.Hi == r_36.1.Hi) && true)))), (146, .bool (!((r_34.1.Lo == r_36.1.Lo) && ((r_34.1.Hi == r_36.1.Hi) && true)))), (147, .bool true), (148, .tup []), (149, .tup []), (150, .tup []), (151, .bool true), (152, .bool true), (153, .tup []), (154, .tup []), (155, .tup []), (156, .bool true), (157, .bool true), (158, .tup []), (159, .tup []), (160, .tup []), (161, .bool true), (162, .bool true), (163, .tup []), (164, .tup []), (165, .tup []), (166, .bool true), (167, .bool true), (168, .tup []), (169, .tup []), (170, .tup []), (171, .bool true), (172, .bool true), (173, .tup []), (174, .tup []), (175, .tup []), (176, .bool true), (177, .bool true), (178, .tup []), (179, .tup []), (180, .tup []), (181, .tup []), (182, .tup [])]) (mkS 187 [(11, .sl (([x_1, r_8.1, (⟨r_9.Length, r_9.Width, r_9.Front, r_9.Rear, r_9.Turn, r_9.Kilos, r_9.Middle, r_9.High, w_10⟩ : T_Float)] : List T_Float).map A_Float) (some 0)), (12, i6 i_24), (185, .bool true)]) (by kernel_rfl) (by kernel_rfl) ⟨hcl_68, LGet.of hx_48 rfl, hcl_69, congrArg AV.bool hc_50, congrArg AV.bool hc_55, congrArg AV.bool hc_60, congrArg AV.bool hc_65, trivial⟩ (by kernel_rfl) trivial ?_
           (try simp only [reduceCtorEq, AEx.ex.injEq, Nat.reduceEqDiff, if_true, if_false])
           exact ⟨_, _, forgetA (m := 187) 0 [0] [(11, .sl (([x_1, r_8.1, (⟨r_9.Length, r_9.Width, r_9.Front, r_9.Rear, r_9.Turn, r_9.Kilos, r_9.Middle, r_9.High, w_10⟩ : T_Float)] : List T_Float).map A_Float) (some 0)), (12, i6 i_24), (185, .bool true)] [] [(3, 9)] (by simp) (by simp) ⟨(reT (KL_Float _) rfl), rfl, rfl, trivial⟩ (by simp) rfl (by decide), true, h, rfl, rfl⟩
          ·rcases condI h with ⟨hc_70, h⟩ | ⟨hc_70, h⟩
           ·have hT_72 : DoesA Try.prog [⟨20, [(A_Float r_30)], [], (v_float_Check r_47), []⟩, ⟨21, [(A_Float x_48)], [], (v_br2_Check r_49), []⟩] ∧ ConsA [⟨20, [(A_Float r_30)], [], (v_float_Check r_47), []⟩, ⟨21, [(A_Float x_48)], [], (v_br2_Check r_49), []⟩] := ⟨⟨(d_float_Check N r_30 r_47 hr_47), rfl, (d_br2_Check N x_48 r_49 hr_49), rfl, trivial⟩, ⟨⟨ConsR.ne rfl, trivial⟩, trivial, trivial⟩⟩
            obtain ⟨X_71, hX_71, hcl_73, hcl_74⟩ : ∃ X : Clr, ClrOk Try.prog X ∧ X 20 [(A_Float r_30)] ⟨[(C_Float r_30), (C_Span r_31.1), (C_Span r_33.1), (C_Span r_34.1), (C_Span r_34.2.1), (C_Span r_36.1), (C_Span r_36.2.1), (C_Span r_37.1), (C_Span r_39.1)], [(3, 9)]⟩ = some (v_float_Check r_47, none) ∧ X 21 [(A_Float x_48)] ⟨[(C_Float r_30), (C_Span r_31.1), (C_Span r_33.1), (C_Span r_34.1), (C_Span r_34.2.1), (C_Span r_36.1), (C_Span r_36.2.1), (C_Span r_37.1), (C_Span r_39.1)], [(3, 9)]⟩ = some (v_br2_Check r_49, none) := ⟨_, tabO_ok hT_72.1, tabO_pure hT_72.2 0 _ [(A_Float r_30)] _ rfl rfl rfl rfl (by simp; try rfl) (fun _ => b_float_Check _ _ _ _), tabO_pure hT_72.2 1 _ [(A_Float x_48)] _ rfl rfl rfl rfl (by simp; try rfl) (fun _ => b_br2_Check _ _ _ _)⟩
            refine dregX hX_71 [(1, .cl (v_float_Check r_47)), (4, .rop (C_Float x_48)), (6, .cl (v_br2_Check r_49)), (8, .eq (.bool false)), (13, .eq (.bool false)), (18, .eq (.bool false)), (23, .eq (.bool false)), (28, .eq (.bool true))] [] [11, 12, 185] [X_71 20 [(A_Float r_30)] ⟨[(C_Float r_30), (C_Span r_31.1), (C_Span r_33.1), (C_Span r_34.1), (C_Span r_34.2.1), (C_Span r_36.1), (C_Span r_36.2.1), (C_Span r_37.1), (C_Span r_39.1)], [(3, 9)]⟩ = some (v_float_Check r_47, none), LGet (([x_1, r_8.1, (⟨r_9.Length, r_9.Width, r_9.Front, r_9.Rear, r_9.Turn, r_9.Kilos, r_9.Middle, r_9.High, w_10⟩ : T_Float)] : List T_Float).map A_Float) i_24 9 (C_Float x_48), X_71 21 [(A_Float x_48)] ⟨[(C_Float r_30), (C_Span r_31.1), (C_Span r_33.1), (C_Span r_34.1), (C_Span r_34.2.1), (C_Span r_36.1), (C_Span r_36.2.1), (C_Span r_37.1), (C_Span r_39.1)], [(3, 9)]⟩ = some (v_br2_Check r_49, none), AV.bool (r_47 != r_49) = AV.bool false, AV.bool (!((r_31.1.Lo == r_33.1.Lo) && ((r_31.1.Hi == r_33.1.Hi) && true))) = AV.bool false, AV.bool (r_31.2 != r_33.2) = AV.bool false, AV.bool (!((r_34.1.Lo == r_36.1.Lo) && ((r_34.1.Hi == r_36.1.Hi) && true))) = AV.bool false, AV.bool (!((r_34.2.1.Lo == r_36.2.1.Lo) && ((r_34.2.1.Hi == r_36.2.1.Hi) && true))) = AV.bool true] [] (mkS 187 [(11, .sl (([x_1, r_8.1, (⟨r_9.Length, r_9.Width, r_9.Front, r_9.Rear, r_9.Turn, r_9.Kilos, r_9.Middle, r_9.High, w_10⟩ : T_Float)] : List T_Float).map A_Float) (some 0)), (12, i6 i_24), (13, .ptr 0 0), (14, .ptr 1 0), (15, i6 r_31.2), (16, .ptr 2 0), (17, i6 r_33.2), (18, .ptr 3 0), (19, .ptr 4 0), (20, i6 r_34.2.2), (21, .ptr 5 0), (22, .ptr 6 0), (23, i6 r_36.2.2), (24, .ptr 7 0), (25, i6 r_37.2), (26, .ptr 8 0), (27, i6 r_39.2), (28, i6 r_40.1), (29, i6 r_40.2), (30, i6 r_42.1), (31, i6 r_42.2), (124, (A_Float r_30)), (125, i6 r_47), (126, .sl (([x_1, r_8.1, (⟨r_9.Length, r_9.Width, r_9.Front, r_9.Rear, r_9.Turn, r_9.Kilos, r_9.Middle, r_9.High, w_10⟩ : T_Float)] : List T_Float).map A_Float) (some 0)), (127, i6 i_24), (128, .rop (C_Float x_48)), (129, (A_Float x_48)), (130, i6 r_49), (131, .bool (r_47 != r_49)), (132, .bool false), (133, (A_Span r_31.1)), (134, (A_Span r_33.1)), (135, .bool (!((r_31.1.Lo == r_33.1.Lo) && ((r_31.1.Hi == r_33.1.Hi) && true)))), (136, .bool (!((r_31.1.Lo == r_33.1.Lo) && ((r_31.1.Hi == r_33.1.Hi) && true)))), (137, .bool false), (138, i6 r_31.2), (139, i6 r_33.2), (140, .bool (r_31.2 != r_33.2)), (141, .bool (r_31.2 != r_33.2)), (142, .bool false), (143, (A_Span r_34.1)), (144, (A_Span r_36.1)), (145, .bool (!((r_34.1.Lo == r_36.1.Lo) && ((r_34.1.Hi == r_36.1.Hi) && true)))), (146, .bool (!((r_34.1.Lo == r_36.1.Lo) && ((r_34.1.Hi == r_36.1.Hi) && true)))), (147, .bool false), (148, (A_Span r_34.2.1)), (149, (A_Span r_36.2.1)), (150, .bool (!((r_34.2.1.Lo == r_36.2.1.Lo) && ((r_34.2.1.Hi == r_36.2.1.Hi) && true)))), (151, .bool (!((r_34.2.1.Lo == r_36.2.1.Lo) && ((r_34.2.1.Hi == r_36.2.1.Hi) && true)))), (152, .bool true), (153, .tup []), (154, .tup []), (155, .tup []), (156, .bool true), (157, .bool true), (158, .tup []), (159, .tup []), (160, .tup []), (161, .bool true), (162, .bool true), (163, .tup []), (164, .tup []), (165, .tup []), (166, .bool true), (167, .bool true), (168, .tup []), (169, .tup []), (170, .tup []), (171, .bool true), (172, .bool true), (173, .tup []), (174, .tup []), (175, .tup []), (176, .bool true), (177, .bool true), (178, .tup []), (179, .tup []), (180, .tup []), (181, .tup []), (182, .tup [])]) (mkS 187 [(11, .sl (([x_1, r_8.1, (⟨r_9.Length, r_9.Width, r_9.Front, r_9.Rear, r_9.Turn, r_9.Kilos, r_9.Middle, r_9.High, w_10⟩ : T_Float)] : List T_Float).map A_Float) (some 0)), (12, i6 i_24), (185, .bool true)]) (by kernel_rfl) (by kernel_rfl) ⟨hcl_73, LGet.of hx_48 rfl, hcl_74, congrArg AV.bool hc_50, congrArg AV.bool hc_55, congrArg AV.bool hc_60, congrArg AV.bool hc_65, congrArg AV.bool hc_70, trivial⟩ (by kernel_rfl) trivial ?_
            (try simp only [reduceCtorEq, AEx.ex.injEq, Nat.reduceEqDiff, if_true, if_false])
            exact ⟨_, _, forgetA (m := 187) 0 [0] [(11, .sl (([x_1, r_8.1, (⟨r_9.Length, r_9.Width, r_9.Front, r_9.Rear, r_9.Turn, r_9.Kilos, r_9.Middle, r_9.High, w_10⟩ : T_Float)] : List T_Float).map A_Float) (some 0)), (12, i6 i_24), (185, .bool true)] [] [(3, 9)] (by simp) (by simp) ⟨(reT (KL_Float _) rfl), rfl, rfl, trivial⟩ (by simp) rfl (by decide), true, h, rfl, rfl⟩
           ·rcases condI h with ⟨hc_75, h⟩ | ⟨hc_75, h⟩
            ·have hT_77 : DoesA Try.prog [⟨20, [(A_Float r_30)], [], (v_float_Check r_47), []⟩, ⟨21, [(A_Float x_48)], [], (v_br2_Check r_49), []⟩] ∧ ConsA [⟨20, [(A_Float r_30)], [], (v_float_Check r_47), []⟩, ⟨21, [(A_Float x_48)], [], (v_br2_Check r_49), []⟩] := ⟨⟨(d_float_Check N r_30 r_47 hr_47), rfl, (d_br2_Check N x_48 r_49 hr_49), rfl, trivial⟩, ⟨⟨ConsR.ne rfl, trivial⟩, trivial, trivial⟩⟩
             obtain ⟨X_76, hX_76, hcl_78, hcl_79⟩ : ∃ X : Clr, ClrOk Try.prog X ∧ X 20 [(A_Float r_30)] ⟨[(C_Float r_30), (C_Span r_31.1), (C_Span r_33.1), (C_Span r_34.1), (C_Span r_34.2.1), (C_Span r_36.1), (C_Span r_36.2.1), (C_Span r_37.1), (C_Span r_39.1)], [(3, 9)]⟩ = some (v_float_Check r_47, none) ∧ X 21 [(A_Float x_48)] ⟨[(C_Float r_30), (C_Span r_31.1), (C_Span r_33.1), (C_Span r_34.1), (C_Span r_34.2.1), (C_Span r_36.1), (C_Span r_36.2.1), (C_Span r_37.1), (C_Span r_39.1)], [(3, 9)]⟩ = some (v_br2_Check r_49, none) := ⟨_, tabO_ok hT_77.1, tabO_pure hT_77.2 0 _ [(A_Float r_30)] _ rfl rfl rfl rfl (by simp; try rfl) (fun _ => b_float_Check _ _ _ _), tabO_pure hT_77.2 1 _ [(A_Float x_48)] _ rfl rfl rfl rfl (by simp; try rfl) (fun _ => b_br2_Check _ _ _ _)⟩
             refine dregX hX_76 [(1, .cl (v_float_Check r_47)), (4, .rop (C_Float x_48)), (6, .cl (v_br2_Check r_49)), (8, .eq (.bool false)), (13, .eq (.bool false)), (18, .eq (.bool false)), (23, .eq (.bool false)), (28, .eq (.bool false)), (33, .eq (.bool true))] [] [11, 12, 185] [X_76 20 [(A_Float r_30)] ⟨[(C_Float r_30), (C_Span r_31.1), (C_Span r_33.1), (C_Span r_34.1), (C_Span r_34.2.1), (C_Span r_36.1), (C_Span r_36.2.1), (C_Span r_37.1), (C_Span r_39.1)], [(3, 9)]⟩ = some (v_float_Check r_47, none), LGet (([x_1, r_8.1, (⟨r_9.Length, r_9.Width, r_9.Front, r_9.Rear, r_9.Turn, r_9.Kilos, r_9.Middle, r_9.High, w_10⟩ : T_Float)] : List T_Float).map A_Float) i_24 9 (C_Float x_48), X_76 21 [(A_Float x_48)] ⟨[(C_Float r_30), (C_Span r_31.1), (C_Span r_33.1), (C_Span r_34.1), (C_Span r_34.2.1), (C_Span r_36.1), (C_Span r_36.2.1), (C_Span r_37.1), (C_Span r_39.1)], [(3, 9)]⟩ = some (v_br2_Check r_49, none), AV.bool (r_47 != r_49) = AV.bool false, AV.bool (!((r_31.1.Lo == r_33.1.Lo) && ((r_31.1.Hi == r_33.1.Hi) && true))) = AV.bool false, AV.bool (r_31.2 != r_33.2) = AV.bool false, AV.bool (!((r_34.1.Lo == r_36.1.Lo) && ((r_34.1.Hi == r_36.1.Hi) && true))) = AV.bool false, AV.bool (!((r_34.2.1.Lo == r_36.2.1.Lo) && ((r_34.2.1.Hi == r_36.2.1.Hi) && true))) = AV.bool false, AV.bool (r_34.2.2 != r_36.2.2) = AV.bool true] [] (mkS 187 [(11, .sl (([x_1, r_8.1, (⟨r_9.Length, r_9.Width, r_9.Front, r_9.Rear, r_9.Turn, r_9.Kilos, r_9.Middle, r_9.High, w_10⟩ : T_Float)] : List T_Float).map A_Float) (some 0)), (12, i6 i_24), (13, .ptr 0 0), (14, .ptr 1 0), (15, i6 r_31.2), (16, .ptr 2 0), (17, i6 r_33.2), (18, .ptr 3 0), (19, .ptr 4 0), (20, i6 r_34.2.2), (21, .ptr 5 0), (22, .ptr 6 0), (23, i6 r_36.2.2), (24, .ptr 7 0), (25, i6 r_37.2), (26, .ptr 8 0), (27, i6 r_39.2), (28, i6 r_40.1), (29, i6 r_40.2), (30, i6 r_42.1), (31, i6 r_42.2), (124, (A_Float r_30)), (125, i6 r_47), (126, .sl (([x_1, r_8.1, (⟨r_9.Length, r_9.Width, r_9.Front, r_9.Rear, r_9.Turn, r_9.Kilos, r_9.Middle, r_9.High, w_10⟩ : T_Float)] : List T_Float).map A_Float) (some 0)), (127, i6 i_24), (128, .rop (C_Float x_48)), (129, (A_Float x_48)), (130, i6 r_49), (131, .bool (r_47 != r_49)), (132, .bool false), (133, (A_Span r_31.1)), (134, (A_Span r_33.1)), (135, .bool (!((r_31.1.Lo == r_33.1.Lo) && ((r_31.1.Hi == r_33.1.Hi) && true)))), (136, .bool (!((r_31.1.Lo == r_33.1.Lo) && ((r_31.1.Hi == r_33.1.Hi) && true)))), (137, .bool false), (138, i6 r_31.2), (139, i6 r_33.2), (140, .bool (r_31.2 != r_33.2)), (141, .bool (r_31.2 != r_33.2)), (142, .bool false), (143, (A_Span r_34.1)), (144, (A_Span r_36.1)), (145, .bool (!((r_34.1.Lo == r_36.1.Lo) && ((r_34.1.Hi == r_36.1.Hi) && true)))), (146, .bool (!((r_34.1.Lo == r_36.1.Lo) && ((r_34.1.Hi == r_36.1.Hi) && true)))), (147, .bool false), (148, (A_Span r_34.2.1)), (149, (A_Span r_36.2.1)), (150, .bool (!((r_34.2.1.Lo == r_36.2.1.Lo) && ((r_34.2.1.Hi == r_36.2.1.Hi) && true)))), (151, .bool (!((r_34.2.1.Lo == r_36.2.1.Lo) && ((r_34.2.1.Hi == r_36.2.1.Hi) && true)))), (152, .bool false), (153, i6 r_34.2.2), (154, i6 r_36.2.2), (155, .bool (r_34.2.2 != r_36.2.2)), (156, .bool (r_34.2.2 != r_36.2.2)), (157, .bool true), (158, .tup []), (159, .tup []), (160, .tup []), (161, .bool true), (162, .bool true), (163, .tup []), (164, .tup []), (165, .tup []), (166, .bool true), (167, .bool true), (168, .tup []), (169, .tup []), (170, .tup []), (171, .bool true), (172, .bool true), (173, .tup []), (174, .tup []), (175, .tup []), (176, .bool true), (177, .bool true), (178, .tup []), (179, .tup []), (180, .tup []), (181, .tup []), (182, .tup [])]) (mkS 187 [(11, .sl (([x_1, r_8.1, (⟨r_9.Length, r_9.Width, r_9.Front, r_9.Rear, r_9.Turn, r_9.Kilos, r_9.Middle, r_9.High, w_10⟩ : T_Float)] : List T_Float).map A_Float) (some 0)), (12, i6 i_24), (185, .bool true)]) (by kernel_rfl) (by kernel_rfl) ⟨hcl_78, LGet.of hx_48 rfl, hcl_79, congrArg AV.bool hc_50, congrArg AV.bool hc_55, congrArg AV.bool hc_60, congrArg AV.bool hc_65, congrArg AV.bool hc_70, congrArg AV.bool hc_75, trivial⟩ (by kernel_rfl) trivial ?_
             (try simp only [reduceCtorEq, AEx.ex.injEq, Nat.reduceEqDiff, if_true, if_false])
             exact ⟨_, _, forgetA (m := 187) 0 [0] [(11, .sl (([x_1, r_8.1, (⟨r_9.Length, r_9.Width, r_9.Front, r_9.Rear, r_9.Turn, r_9.Kilos, r_9.Middle, r_9.High, w_10⟩ : T_Float)] : List T_Float).map A_Float) (some 0)), (12, i6 i_24), (185, .bool true)] [] [(3, 9)] (by simp) (by simp) ⟨(reT (KL_Float _) rfl), rfl, rfl, trivial⟩ (by simp) rfl (by decide), true, h, rfl, rfl⟩
            ·rcases condI h with ⟨hc_80, h⟩ | ⟨hc_80, h⟩
             ·have hT_82 : DoesA Try.prog [⟨20, [(A_Float r_30)], [], (v_float_Check r_47), []⟩, ⟨21, [(A_Float x_48)], [], (v_br2_Check r_49), []⟩] ∧ ConsA [⟨20, [(A_Float r_30)], [], (v_float_Check r_47), []⟩, ⟨21, [(A_Float x_48)], [], (v_br2_Check r_49), []⟩] := ⟨⟨(d_float_Check N r_30 r_47 hr_47), rfl, (d_br2_Check N x_48 r_49 hr_49), rfl, trivial⟩, ⟨⟨ConsR.ne rfl, trivial⟩, trivial, trivial⟩⟩
              obtain ⟨X_81, hX_81, hcl_83, hcl_84⟩ : ∃ X : Clr, ClrOk Try.prog X ∧ X 20 [(A_Float r_30)] ⟨[(C_Float r_30), (C_Span r_31.1), (C_Span r_33.1), (C_Span r_34.1), (C_Span r_34.2.1), (C_Span r_36.1), (C_Span r_36.2.1), (C_Span r_37.1), (C_Span r_39.1)], [(3, 9)]⟩ = some (v_float_Check r_47, none) ∧ X 21 [(A_Float x_48)] ⟨[(C_Float r_30), (C_Span r_31.1), (C_Span r_33.1), (C_Span r_34.1), (C_Span r_34.2.1), (C_Span r_36.1), (C_Span r_36.2.1), (C_Span r_37.1), (C_Span r_39.1)], [(3, 9)]⟩ = some (v_br2_Check r_49, none) := ⟨_, tabO_ok hT_82.1, tabO_pure hT_82.2 0 _ [(A_Float r_30)] _ rfl rfl rfl rfl (by simp; try rfl) (fun _ => b_float_Check _ _ _ _), tabO_pure hT_82.2 1 _ [(A_Float x_48)] _ rfl rfl rfl rfl (by simp; try rfl) (fun _ => b_br2_Check _ _ _ _)⟩
              refine dregX hX_81 [(1, .cl (v_float_Check r_47)), (4, .rop (C_Float x_48)), (6, .cl (v_br2_Check r_49)), (8, .eq (.bool false)), (13, .eq (.bool false)), (18, .eq (.bool false)), (23, .eq (.bool false)), (28, .eq (.bool false)), (33, .eq (.bool false)), (38, .eq (.bool true))] [] [11, 12, 185] [X_81 20 [(A_Float r_30)] ⟨[(C_Float r_30), (C_Span r_31.1), (C_Span r_33.1), (C_Span r_34.1), (C_Span r_34.2.1), (C_Span r_36.1), (C_Span r_36.2.1), (C_Span r_37.1), (C_Span r_39.1)], [(3, 9)]⟩ = some (v_float_Check r_47, none), LGet (([x_1, r_8.1, (⟨r_9.Length, r_9.Width, r_9.Front, r_9.Rear, r_9.Turn, r_9.Kilos, r_9.Middle, r_9.High, w_10⟩ : T_Float)] : List T_Float).map A_Float) i_24 9 (C_Float x_48), X_81 21 [(A_Float x_48)] ⟨[(C_Float r_30), (C_Span r_31.1), (C_Span r_33.1), (C_Span r_34.1), (C_Span r_34.2.1), (C_Span r_36.1), (C_Span r_36.2.1), (C_Span r_37.1), (C_Span r_39.1)], [(3, 9)]⟩ = some (v_br2_Check r_49, none), AV.bool (r_47 != r_49) = AV.bool false, AV.bool (!((r_31.1.Lo == r_33.1.Lo) && ((r_31.1.Hi == r_33.1.Hi) && true))) = AV.bool false, AV.bool (r_31.2 != r_33.2) = AV.bool false, AV.bool (!((r_34.1.Lo == r_36.1.Lo) && ((r_34.1.Hi == r_36.1.Hi) && true))) = AV.bool false, AV.bool (!((r_34.2.1.Lo == r_36.2.1.Lo) && ((r_34.2.1.Hi == r_36.2.1.Hi) && true))) = AV.bool false, AV.bool (r_34.2.2 != r_36.2.2) = AV.bool false, AV.bool (!((r_37.1.Lo == r_39.1.Lo) && ((r_37.1.Hi == r_39.1.Hi) && true))) = AV.bool true] [] (mkS 187 [(11, .sl (([x_1, r_8.1, (⟨r_9.Length, r_9.Width, r_9.Front, r_9.Rear, r_9.Turn, r_9.Kilos, r_9.Middle, r_9.High, w_10⟩ : T_Float)] : List T_Float).map A_Float) (some 0)), (12, i6 i_24), (13, .ptr 0 0), (14, .ptr 1 0), (15, i6 r_31.2), (16, .ptr 2 0), (17, i6 r_33.2), (18, .ptr 3 0), (19, .ptr 4 0), (20, i6 r_34.2.2), (21, .ptr 5 0), (22, .ptr 6 0), (23, i6 r_36.2.2), (24, .ptr 7 0), (25, i6 r_37.2), (26, .ptr 8 0), (27, i6 r_39.2), (28, i6 r_40.1), (29, i6 r_40.2), (30, i6 r_42.1), (31, i6 r_42.2), (124, (A_Float r_30)), (125, i6 r_47), (126, .sl (([x_1, r_8.1, (⟨r_9.Length, r_9.Width, r_9.Front, r_9.Rear, r_9.Turn, r_9.Kilos, r_9.Middle, r_9.High, w_10⟩ : T_Float)] : List T_Float).map A_Float) (some 0)), (127, i6 i_24), (128, .rop (C_Float x_48)), (129, (A_Float x_48)), (130, i6 r_49), (131, .bool (r_47 != r_49)), (132, .bool false), (133, (A_Span r_31.1)), (134, (A_Span r_33.1)), (135, .bool (!((r_31.1.Lo == r_33.1.Lo) && ((r_31.1.Hi == r_33.1.Hi) && true)))), (136, .bool (!((r_31.1.Lo == r_33.1.Lo) && ((r_31.1.Hi == r_33.1.Hi) && true)))), (137, .bool false), (138, i6 r_31.2), (139, i6 r_33.2), (140, .bool (r_31.2 != r_33.2)), (141, .bool (r_31.2 != r_33.2)), (142, .bool false), (143, (A_Span r_34.1)), (144, (A_Span r_36.1)), (145, .bool (!((r_34.1.Lo == r_36.1.Lo) && ((r_34.1.Hi == r_36.1.Hi) && true)))), (146, .bool (!((r_34.1.Lo == r_36.1.Lo) && ((r_34.1.Hi == r_36.1.Hi) && true)))), (147, .bool false), (148, (A_Span r_34.2.1)), (149, (A_Span r_36.2.1)), (150, .bool (!((r_34.2.1.Lo == r_36.2.1.Lo) && ((r_34.2.1.Hi == r_36.2.1.Hi) && true)))), (151, .bool (!((r_34.2.1.Lo == r_36.2.1.Lo) && ((r_34.2.1.Hi == r_36.2.1.Hi) && true)))), (152, .bool false), (153, i6 r_34.2.2), (154, i6 r_36.2.2), (155, .bool (r_34.2.2 != r_36.2.2)), (156, .bool (r_34.2.2 != r_36.2.2)), (157, .bool false), (158, (A_Span r_37.1)), (159, (A_Span r_39.1)), (160, .bool (!((r_37.1.Lo == r_39.1.Lo) && ((r_37.1.Hi == r_39.1.Hi) && true)))), (161, .bool (!((r_37.1.Lo == r_39.1.Lo) && ((r_37.1.Hi == r_39.1.Hi) && true)))), (162, .bool true), (163, .tup []), (164, .tup []), (165, .tup []), (166, .bool true), (167, .bool true), (168, .tup []), (169, .tup []), (170, .tup []), (171, .bool true), (172, .bool true), (173, .tup []), (174, .tup []), (175, .tup []), (176, .bool true), (177, .bool true), (178, .tup []), (179, .tup []), (180, .tup []), (181, .tup []), (182, .tup [])]) (mkS 187 [(11, .sl (([x_1, r_8.1, (⟨r_9.Length, r_9.Width, r_9.Front, r_9.Rear, r_9.Turn, r_9.Kilos, r_9.Middle, r_9.High, w_10⟩ : T_Float)] : List T_Float).map A_Float) (some 0)), (12, i6 i_24), (185, .bool true)]) (by kernel_rfl) (by kernel_rfl) ⟨hcl_83, LGet.of hx_48 rfl, hcl_84, congrArg AV.bool hc_50, congrArg AV.bool hc_55, congrArg AV.bool hc_60, congrArg AV.bool hc_65, congrArg AV.bool hc_70, congrArg AV.bool hc_75, congrArg AV.bool hc_80, trivial⟩ (by kernel_rfl) trivial ?_
              (try simp only [reduceCtorEq, AEx.ex.injEq, Nat.reduceEqDiff, if_true, if_false])
              exact ⟨_, _, forgetA (m := 187) 0 [0] [(11, .sl (([x_1, r_8.1, (⟨r_9.Length, r_9.Width, r_9.Front, r_9.Rear, r_9.Turn, r_9.Kilos, r_9.Middle, r_9.High, w_10⟩ : T_Float)] : List T_Float).map A_Float) (some 0)), (12, i6 i_24), (185, .bool true)] [] [(3, 9)] (by simp) (by simp) ⟨(reT (KL_Float _) rfl), rfl, rfl, trivial⟩ (by simp) rfl (by decide), true, h, rfl, rfl⟩
             ·rcases condI h with ⟨hc_85, h⟩ | ⟨hc_85, h⟩
              ·have hT_87 : DoesA Try.prog [⟨20, [(A_Float r_30)], [], (v_float_Check r_47), []⟩, ⟨21, [(A_Float x_48)], [], (v_br2_Check r_49), []⟩] ∧ ConsA [⟨20, [(A_Float r_30)], [], (v_float_Check r_47), []⟩, ⟨21, [(A_Float x_48)], [], (v_br2_Check r_49), []⟩] := ⟨⟨(d_float_Check N r_30 r_47 hr_47), rfl, (d_br2_Check N x_48 r_49 hr_49), rfl, trivial⟩, ⟨⟨ConsR.ne rfl, trivial⟩, trivial, trivial⟩⟩
               obtain ⟨X_86, hX_86, hcl_88, hcl_89⟩ : ∃ X : Clr, ClrOk Try.prog X ∧ X 20 [(A_Float r_30)] ⟨[(C_Float r_30), (C_Span r_31.1), (C_Span r_33.1), (C_Span r_34.1), (C_Span r_34.2.1), (C_Span r_36.1), (C_Span r_36.2.1), (C_Span r_37.1), (C_Span r_39.1)], [(3, 9)]⟩ = some (v_float_Check r_47, none) ∧ X 21 [(A_Float x_48)] ⟨[(C_Float r_30), (C_Span r_31.1), (C_Span r_33.1), (C_Span r_34.1), (C_Span r_34.2.1), (C_Span r_36.1), (C_Span r_36.2.1), (C_Span r_37.1), (C_Span r_39.1)], [(3, 9)]⟩ = some (v_br2_Check r_49, none) := ⟨_, tabO_ok hT_87.1, tabO_pure hT_87.2 0 _ [(A_Float r_30)] _ rfl rfl rfl rfl (by simp; try rfl) (fun _ => b_float_Check _ _ _ _), tabO_pure hT_87.2 1 _ [(A_Float x_48)] _ rfl rfl rfl rfl (by simp; try rfl) (fun _ => b_br2_Check _ _ _ _)⟩
               refine dregX hX_86 [(1, .cl (v_float_Check r_47)), (4, .rop (C_Float x_48)), (6, .cl (v_br2_Check r_49)), (8, .eq (.bool false)), (13, .eq (.bool false)), (18, .eq (.bool false)), (23, .eq (.bool false)), (28, .eq (.bool false)), (33, .eq (.bool false)), (38, .eq (.bool false)), (43, .eq (.bool true))] [] [11, 12, 185] [X_86 20 [(A_Float r_30)] ⟨[(C_Float r_30), (C_Span r_31.1), (C_Span r_33.1), (C_Span r_34.1), (C_Span r_34.2.1), (C_Span r_36.1), (C_Span r_36.2.1), (C_Span r_37.1), (C_Span r_39.1)], [(3, 9)]⟩ = some (v_float_Check r_47, none), LGet (([x_1, r_8.1, (⟨r_9.Length, r_9.Width, r_9.Front, r_9.Rear, r_9.Turn, r_9.Kilos, r_9.Middle, r_9.High, w_10⟩ : T_Float)] : List T_Float).map A_Float) i_24 9 (C_Float x_48), X_86 21 [(A_Float x_48)] ⟨[(C_Float r_30), (C_Span r_31.1), (C_Span r_33.1), (C_Span r_34.1), (C_Span r_34.2.1), (C_Span r_36.1), (C_Span r_36.2.1), (C_Span r_37.1), (C_Span r_39.1)], [(3, 9)]⟩ = some (v_br2_Check r_49, none), AV.bool (r_47 != r_49) = AV.bool false, AV.bool (!((r_31.1.Lo == r_33.1.Lo) && ((r_31.1.Hi == r_33.1.Hi) && true))) = AV.bool false, AV.bool (r_31.2 != r_33.2) = AV.bool false, AV.bool (!((r_34.1.Lo == r_36.1.Lo) && ((r_34.1.Hi == r_36.1.Hi) && true))) = AV.bool false, AV.bool (!((r_34.2.1.Lo == r_36.2.1.Lo) && ((r_34.2.1.Hi == r_36.2.1.Hi) && true))) = AV.bool false, AV.bool (r_34.2.2 != r_36.2.2) = AV.bool false, AV.bool (!((r_37.1.Lo == r_39.1.Lo) && ((r_37.1.Hi == r_39.1.Hi) && true))) = AV.bool false, AV.bool (r_37.2 != r_39.2) = AV.bool true] [] (mkS 187 [(11, .sl (([x_1, r_8.1, (⟨r_9.Length, r_9.Width, r_9.Front, r_9.Rear, r_9.Turn, r_9.Kilos, r_9.Middle, r_9.High, w_10⟩ : T_Float)] : List T_Float).map A_Float) (some 0)), (12, i6 i_24), (13, .ptr 0 0), (14, .ptr 1 0), (15, i6 r_31.2), (16, .ptr 2 0), (17, i6 r_33.2), (18, .ptr 3 0), (19, .ptr 4 0), (20, i6 r_34.2.2), (21, .ptr 5 0), (22, .ptr 6 0), (23, i6 r_36.2.2), (24, .ptr 7 0), (25, i6 r_37.2), (26, .ptr 8 0), (27, i6 r_39.2), (28, i6 r_40.1), (29, i6 r_40.2), (30, i6 r_42.1), (31, i6 r_42.2), (124, (A_Float r_30)), (125, i6 r_47), (126, .sl (([x_1, r_8.1, (⟨r_9.Length, r_9.Width, r_9.Front, r_9.Rear, r_9.Turn, r_9.Kilos, r_9.Middle, r_9.High, w_10⟩ : T_Float)] : List T_Float).map A_Float) (some 0)), (127, i6 i_24), (128, .rop (C_Float x_48)), (129, (A_Float x_48)), (130, i6 r_49), (131, .bool (r_47 != r_49)), (132, .bool false), (133, (A_Span r_31.1)), (134, (A_Span r_33.1)), (135, .bool (!((r_31.1.Lo == r_33.1.Lo) && ((r_31.1.Hi == r_33.1.Hi) && true)))), (136, .bool (!((r_31.1.Lo == r_33.1.Lo) && ((r_31.1.Hi == r_33.1.Hi) && true)))), (137, .bool false), (138, i6 r_31.2), (139, i6 r_33.2), (140, .bool (r_31.2 != r_33.2)), (141, .bool (r_31.2 != r_33.2)), (142, .bool false), (143, (A_Span r_34.1)), (144, (A_Span r_36.1)), (145, .bool (!((r_34.1.Lo == r_36.1.Lo) && ((r_34.1.Hi == r_36.1.Hi) && true)))), (146, .bool (!((r_34.1.Lo == r_36.1.Lo) && ((r_34.1.Hi == r_36.1.Hi) && true)))), (147, .bool false), (148, (A_Span r_34.2.1)), (149, (A_Span r_36.2.1)), (150, .bool (!((r_34.2.1.Lo == r_36.2.1.Lo) && ((r_34.2.1.Hi == r_36.2.1.Hi) && true)))), (151, .bool (!((r_34.2.1.Lo == r_36.2.1.Lo) && ((r_34.2.1.Hi == r_36.2.1.Hi) && true)))), (152, .bool false), (153, i6 r_34.2.2), (154, i6 r_36.2.2), (155, .bool (r_34.2.2 != r_36.2.2)), (156, .bool (r_34.2.2 != r_36.2.2)), (157, .bool false), (158, (A_Span r_37.1)), (159, (A_Span r_39.1)), (160, .bool (!((r_37.1.Lo == r_39.1.Lo) && ((r_37.1.Hi == r_39.1.Hi) && true)))), (161, .bool (!((r_37.1.Lo == r_39.1.Lo) && ((r_37.1.Hi == r_39.1.Hi) && true)))), (162, .bool false), (163, i6 r_37.2), (164, i6 r_39.2), (165, .bool (r_37.2 != r_39.2)), (166, .bool (r_37.2 != r_39.2)), (167, .bool true), (168, .tup []), (169, .tup []), (170, .tup []), (171, .bool true), (172, .bool true), (173, .tup []), (174, .tup []), (175, .tup []), (176, .bool true), (177, .bool true), (178, .tup []), (179, .tup []), (180, .tup []), (181, .tup []), (182, .tup [])]) (mkS 187 [(11, .sl (([x_1, r_8.1, (⟨r_9.Length, r_9.Width, r_9.Front, r_9.Rear, r_9.Turn, r_9.Kilos, r_9.Middle, r_9.High, w_10⟩ : T_Float)] : List T_Float).map A_Float) (some 0)), (12, i6 i_24), (185, .bool true)]) (by kernel_rfl) (by kernel_rfl) ⟨hcl_88, LGet.of hx_48 rfl, hcl_89, congrArg AV.bool hc_50, congrArg AV.bool hc_55, congrArg AV.bool hc_60, congrArg AV.bool hc_65, congrArg AV.bool hc_70, congrArg AV.bool hc_75, congrArg AV.bool hc_80, congrArg AV.bool hc_85, trivial⟩ (by kernel_rfl) trivial ?_
               (try simp only [reduceCtorEq, AEx.ex.injEq, Nat.reduceEqDiff, if_true, if_false])
               exact ⟨_, _, forgetA (m := 187) 0 [0] [(11, .sl (([x_1, r_8.1, (⟨r_9.Length, r_9.Width, r_9.Front, r_9.Rear, r_9.Turn, r_9.Kilos, r_9.Middle, r_9.High, w_10⟩ : T_Float)] : List T_Float).map A_Float) (some 0)), (12, i6 i_24), (185, .bool true)] [] [(3, 9)] (by simp) (by simp) ⟨(reT (KL_Float _) rfl), rfl, rfl, trivial⟩ (by simp) rfl (by decide), true, h, rfl, rfl⟩
              ·rcases condI h with ⟨hc_90, h⟩ | ⟨hc_90, h⟩
               ·have hT_92 : DoesA Try.prog [⟨20, [(A_Float r_30)], [], (v_float_Check r_47), []⟩, ⟨21, [(A_Float x_48)], [], (v_br2_Check r_49), []⟩] ∧ ConsA [⟨20, [(A_Float r_30)], [], (v_float_Check r_47), []⟩, ⟨21, [(A_Float x_48)], [], (v_br2_Check r_49), []⟩] := ⟨⟨(d_float_Check N r_30 r_47 hr_47), rfl, (d_br2_Check N x_48 r_49 hr_49), rfl, trivial⟩, ⟨⟨ConsR.ne rfl, trivial⟩, trivial, trivial⟩⟩
                obtain ⟨X_91, hX_91, hcl_93, hcl_94⟩ : ∃ X : Clr, ClrOk Try.prog X ∧ X 20 [(A_Float r_30)] ⟨[(C_Float r_30), (C_Span r_31.1), (C_Span r_33.1), (C_Span r_34.1), (C_Span r_34.2.1), (C_Span r_36.1), (C_Span r_36.2.1), (C_Span r_37.1), (C_Span r_39.1)], [(3, 9)]⟩ = some (v_float_Check r_47, none) ∧ X 21 [(A_Float x_48)] ⟨[(C_Float r_30), (C_Span r_31.1), (C_Span r_33.1), (C_Span r_34.1), (C_Span r_34.2.1), (C_Span r_36.1), (C_Span r_36.2.1), (C_Span r_37.1), (C_Span r_39.1)], [(3, 9)]⟩ = some (v_br2_Check r_49, none) := ⟨_, tabO_ok hT_92.1, tabO_pure hT_92.2 0 _ [(A_Float r_30)] _ rfl rfl rfl rfl (by simp; try rfl) (fun _ => b_float_Check _ _ _ _), tabO_pure hT_92.2 1 _ [(A_Float x_48)] _ rfl rfl rfl rfl (by simp; try rfl) (fun _ => b_br2_Check _ _ _ _)⟩
                refine dregX hX_91 [(1, .cl (v_float_Check r_47)), (4, .rop (C_Float x_48)), (6, .cl (v_br2_Check r_49)), (8, .eq (.bool false)), (13, .eq (.bool false)), (18, .eq (.bool false)), (23, .eq (.bool false)), (28, .eq (.bool false)), (33, .eq (.bool false)), (38, .eq (.bool false)), (43, .eq (.bool false)), (48, .eq (.bool true))] [] [11, 12, 185] [X_91 20 [(A_Float r_30)] ⟨[(C_Float r_30), (C_Span r_31.1), (C_Span r_33.1), (C_Span r_34.1), (C_Span r_34.2.1), (C_Span r_36.1), (C_Span r_36.2.1), (C_Span r_37.1), (C_Span r_39.1)], [(3, 9)]⟩ = some (v_float_Check r_47, none), LGet (([x_1, r_8.1, (⟨r_9.Length, r_9.Width, r_9.Front, r_9.Rear, r_9.Turn, r_9.Kilos, r_9.Middle, r_9.High, w_10⟩ : T_Float)] : List T_Float).map A_Float) i_24 9 (C_Float x_48), X_91 21 [(A_Float x_48)] ⟨[(C_Float r_30), (C_Span r_31.1), (C_Span r_33.1), (C_Span r_34.1), (C_Span r_34.2.1), (C_Span r_36.1), (C_Span r_36.2.1), (C_Span r_37.1), (C_Span r_39.1)], [(3, 9)]⟩ = some (v_br2_Check r_49, none), AV.bool (r_47 != r_49) = AV.bool false, AV.bool (!((r_31.1.Lo == r_33.1.Lo) && ((r_31.1.Hi == r_33.1.Hi) && true))) = AV.bool false, AV.bool (r_31.2 != r_33.2) = AV.bool false, AV.bool (!((r_34.1.Lo == r_36.1.Lo) && ((r_34.1.Hi == r_36.1.Hi) && true))) = AV.bool false, AV.bool (!((r_34.2.1.Lo == r_36.2.1.Lo) && ((r_34.2.1.Hi == r_36.2.1.Hi) && true))) = AV.bool false, AV.bool (r_34.2.2 != r_36.2.2) = AV.bool false, AV.bool (!((r_37.1.Lo == r_39.1.Lo) && ((r_37.1.Hi == r_39.1.Hi) && true))) = AV.bool false, AV.bool (r_37.2 != r_39.2) = AV.bool false, AV.bool (r_40.1 != r_42.1) = AV.bool true] [] (mkS 187 [(11, .sl (([x_1, r_8.1, (⟨r_9.Length, r_9.Width, r_9.Front, r_9.Rear, r_9.Turn, r_9.Kilos, r_9.Middle, r_9.High, w_10⟩ : T_Float)] : List T_Float).map A_Float) (some 0)), (12, i6 i_24), (13, .ptr 0 0), (14, .ptr 1 0), (15, i6 r_31.2), (16, .ptr 2 0), (17, i6 r_33.2), (18, .ptr 3 0), (19, .ptr 4 0), (20, i6 r_34.2.2), (21, .ptr 5 0), (22, .ptr 6 0), (23, i6 r_36.2.2), (24, .ptr 7 0), (25, i6 r_37.2), (26, .ptr 8 0), (27, i6 r_39.2), (28, i6 r_40.1), (29, i6 r_40.2), (30, i6 r_42.1), (31, i6 r_42.2), (124, (A_Float r_30)), (125, i6 r_47), (126, .sl (([x_1, r_8.1, (⟨r_9.Length, r_9.Width, r_9.Front, r_9.Rear, r_9.Turn, r_9.Kilos, r_9.Middle, r_9.High, w_10⟩ : T_Float)] : List T_Float).map A_Float) (some 0)), (127, i6 i_24), (128, .rop (C_Float x_48)), (129, (A_Float x_48)), (130, i6 r_49), (131, .bool (r_47 != r_49)), (132, .bool false), (133, (A_Span r_31.1)), (134, (A_Span r_33.1)), (135, .bool (!((r_31.1.Lo == r_33.1.Lo) && ((r_31.1.Hi == r_33.1.Hi) && true)))), (136, .bool (!((r_31.1.Lo == r_33.1.Lo) && ((r_31.1.Hi == r_33.1.Hi) && true)))), (137, .bool false), (138, i6 r_31.2), (139, i6 r_33.2), (140, .bool (r_31.2 != r_33.2)), (141, .bool (r_31.2 != r_33.2)), (142, .bool false), (143, (A_Span r_34.1)), (144, (A_Span r_36.1)), (145, .bool (!((r_34.1.Lo == r_36.1.Lo) && ((r_34.1.Hi == r_36.1.Hi) && true)))), (146, .bool (!((r_34.1.Lo == r_36.1.Lo) && ((r_34.1.Hi == r_36.1.Hi) && true)))), (147, .bool false), (148, (A_Span r_34.2.1)), (149, (A_Span r_36.2.1)), (150, .bool (!((r_34.2.1.Lo == r_36.2.1.Lo) && ((r_34.2.1.Hi == r_36.2.1.Hi) && true)))), (151, .bool (!((r_34.2.1.Lo == r_36.2.1.Lo) && ((r_34.2.1.Hi == r_36.2.1.Hi) && true)))), (152, .bool false), (153, i6 r_34.2.2), (154, i6 r_36.2.2), (155, .bool (r_34.2.2 != r_36.2.2)), (156, .bool (r_34.2.2 != r_36.2.2)), (157, .bool false), (158, (A_Span r_37.1)), (159, (A_Span r_39.1)), (160, .bool (!((r_37.1.Lo == r_39.1.Lo) && ((r_37.1.Hi == r_39.1.Hi) && true)))), (161, .bool (!((r_37.1.Lo == r_39.1.Lo) && ((r_37.1.Hi == r_39.1.Hi) && true)))), (162, .bool false), (163, i6 r_37.2), (164, i6 r_39.2), (165, .bool (r_37.2 != r_39.2)), (166, .bool (r_37.2 != r_39.2)), (167, .bool false), (168, i6 r_40.1), (169, i6 r_42.1), (170, .bool (r_40.1 != r_42.1)), (171, .bool (r_40.1 != r_42.1)), (172, .bool true), (173, .tup []), (174, .tup []), (175, .tup []), (176, .bool true), (177, .bool true), (178, .tup []), (179, .tup []), (180, .tup []), (181, .tup []), (182, .tup [])]) (mkS 187 [(11, .sl (([x_1, r_8.1, (⟨r_9.Length, r_9.Width, r_9.Front, r_9.Rear, r_9.Turn, r_9.Kilos, r_9.Middle, r_9.High, w_10⟩ : T_Float)] : List T_Float).map A_Float) (some 0)), (12, i6 i_24), (185, .bool true)]) (by kernel_rfl) (by kernel_rfl) ⟨hcl_93, LGet.of hx_48 rfl, hcl_94, congrArg AV.bool hc_50, congrArg AV.bool hc_55, congrArg AV.bool hc_60, congrArg AV.bool hc_65, congrArg AV.bool hc_70, congrArg AV.bool hc_75, congrArg AV.bool hc_80, congrArg AV.bool hc_85, congrArg AV.bool hc_90, trivial⟩ (by kernel_rfl) trivial ?_
                (try simp only [reduceCtorEq, AEx.ex.injEq, Nat.reduceEqDiff, if_true, if_false])
                exact ⟨_, _, forgetA (m := 187) 0 [0] [(11, .sl (([x_1, r_8.1, (⟨r_9.Length, r_9.Width, r_9.Front, r_9.Rear, r_9.Turn, r_9.Kilos, r_9.Middle, r_9.High, w_10⟩ : T_Float)] : List T_Float).map A_Float) (some 0)), (12, i6 i_24), (185, .bool true)] [] [(3, 9)] (by simp) (by simp) ⟨(reT (KL_Float _) rfl), rfl, rfl, trivial⟩ (by simp) rfl (by decide), true, h, rfl, rfl⟩
               ·rcases condI h with ⟨hc_95, h⟩ | ⟨hc_95, h⟩
                ·have hT_97 : DoesA Try.prog [⟨20, [(A_Float r_30)], [], (v_float_Check r_47), []⟩, ⟨21, [(A_Float x_48)], [], (v_br2_Check r_49), []⟩] ∧ ConsA [⟨20, [(A_Float r_30)], [], (v_float_Check r_47), []⟩, ⟨21, [(A_Float x_48)], [], (v_br2_Check r_49), []⟩] := ⟨⟨(d_float_Check N r_30 r_47 hr_47), rfl, (d_br2_Check N x_48 r_49 hr_49), rfl, trivial⟩, ⟨⟨ConsR.ne rfl, trivial⟩, trivial, trivial⟩⟩
                 obtain ⟨X_96, hX_96, hcl_98, hcl_99⟩ : ∃ X : Clr, ClrOk Try.prog X ∧ X 20 [(A_Float r_30)] ⟨[(C_Float r_30), (C_Span r_31.1), (C_Span r_33.1), (C_Span r_34.1), (C_Span r_34.2.1), (C_Span r_36.1), (C_Span r_36.2.1), (C_Span r_37.1), (C_Span r_39.1)], [(3, 9)]⟩ = some (v_float_Check r_47, none) ∧ X 21 [(A_Float x_48)] ⟨[(C_Float r_30), (C_Span r_31.1), (C_Span r_33.1), (C_Span r_34.1), (C_Span r_34.2.1), (C_Span r_36.1), (C_Span r_36.2.1), (C_Span r_37.1), (C_Span r_39.1)], [(3, 9)]⟩ = some (v_br2_Check r_49, none) := ⟨_, tabO_ok hT_97.1, tabO_pure hT_97.2 0 _ [(A_Float r_30)] _ rfl rfl rfl rfl (by simp; try rfl) (fun _ => b_float_Check _ _ _ _), tabO_pure hT_97.2 1 _ [(A_Float x_48)] _ rfl rfl rfl rfl (by simp; try rfl) (fun _ => b_br2_Check _ _ _ _)⟩
                 refine dregX hX_96 [(1, .cl (v_float_Check r_47)), (4, .rop (C_Float x_48)), (6, .cl (v_br2_Check r_49)), (8, .eq (.bool false)), (13, .eq (.bool false)), (18, .eq (.bool false)), (23, .eq (.bool false)), (28, .eq (.bool false)), (33, .eq (.bool false)), (38, .eq (.bool false)), (43, .eq (.bool false)), (48, .eq (.bool false)), (53, .eq (.bool true))] [] [11, 12, 185] [X_96 20 [(A_Float r_30)] ⟨[(C_Float r_30), (C_Span r_31.1), (C_Span r_33.1), (C_Span r_34.1), (C_Span r_34.2.1), (C_Span r_36.1), (C_Span r_36.2.1), (C_Span r_37.1), (C_Span r_39.1)], [(3, 9)]⟩ = some (v_float_Check r_47, none), LGet (([x_1, r_8.1, (⟨r_9.Length, r_9.Width, r_9.Front, r_9.Rear, r_9.Turn, r_9.Kilos, r_9.Middle, r_9.High, w_10⟩ : T_Float)] : List T_Float).map A_Float) i_24 9 (C_Float x_48), X_96 21 [(A_Float x_48)] ⟨[(C_Float r_30), (C_Span r_31.1), (C_Span r_33.1), (C_Span r_34.1), (C_Span r_34.2.1), (C_Span r_36.1), (C_Span r_36.2.1), (C_Span r_37.1), (C_Span r_39.1)], [(3, 9)]⟩ = some (v_br2_Check r_49, none), AV.bool (r_47 != r_49) = AV.bool false, AV.bool (!((r_31.1.Lo == r_33.1.Lo) && ((r_31.1.Hi == r_33.1.Hi) && true))) = AV.bool false, AV.bool (r_31.2 != r_33.2) = AV.bool false, AV.bool (!((r_34.1.Lo == r_36.1.Lo) && ((r_34.1.Hi == r_36.1.Hi) && true))) = AV.bool false, AV.bool (!((r_34.2.1.Lo == r_36.2.1.Lo) && ((r_34.2.1.Hi == r_36.2.1.Hi) && true))) = AV.bool false, AV.bool (r_34.2.2 != r_36.2.2) = AV.bool false, AV.bool (!((r_37.1.Lo == r_39.1.Lo) && ((r_37.1.Hi == r_39.1.Hi) && true))) = AV.bool false, AV.bool (r_37.2 != r_39.2) = AV.bool false, AV.bool (r_40.1 != r_42.1) = AV.bool false, AV.bool (r_40.2 != r_42.2) = AV.bool true] [] (mkS 187 [(11, .sl (([x_1, r_8.1, (⟨r_9.Length, r_9.Width, r_9.Front, r_9.Rear, r_9.Turn, r_9.Kilos, r_9.Middle, r_9.High, w_10⟩ : T_Float)] : List T_Float).map A_Float) (some 0)), (12, i6 i_24), (13, .ptr 0 0), (14, .ptr 1 0), (15, i6 r_31.2), (16, .ptr 2 0), (17, i6 r_33.2), (18, .ptr 3 0), (19, .ptr 4 0), (20, i6 r_34.2.2), (21, .ptr 5 0), (22, .ptr 6 0), (23, i6 r_36.2.2), (24, .ptr 7 0), (25, i6 r_37.2), (26, .ptr 8 0), (27, i6 r_39.2), (28, i6 r_40.1), (29, i6 r_40.2), (30, i6 r_42.1), (31, i6 r_42.2), (124, (A_Float r_30)), (125, i6 r_47), (126, .sl (([x_1, r_8.1, (⟨r_9.Length, r_9.Width, r_9.Front, r_9.Rear, r_9.Turn, r_9.Kilos, r_9.Middle, r_9.High, w_10⟩ : T_Float)] : List T_Float).map A_Float) (some 0)), (127, i6 i_24), (128, .rop (C_Float x_48)), (129, (A_Float x_48)), (130, i6 r_49), (131, .bool (r_47 != r_49)), (132, .bool false), (133, (A_Span r_31.1)), (134, (A_Span r_33.1)), (135, .bool (!((r_31.1.Lo == r_33.1.Lo) && ((r_31.1.Hi == r_33.1.Hi) && true)))), (136, .bool (!((r_31.1.Lo == r_33.1.Lo) && ((r_31.1.Hi == r_33.1.Hi) && true)))), (137, .bool false), (138, i6 r_31.2), (139, i6 r_33.2), (140, .bool (r_31.2 != r_33.2)), (141, .bool (r_31.2 != r_33.2)), (142, .bool false), (143, (A_Span r_34.1)), (144, (A_Span r_36.1)), (145, .bool (!((r_34.1.Lo == r_36.1.Lo) && ((r_34.1.Hi == r_36.1.Hi) && true)))), (146, .bool (!((r_34.1.Lo == r_36.1.Lo) && ((r_34.1.Hi == r_36.1.Hi) && true)))), (147, .bool false), (148, (A_Span r_34.2.1)), (149, (A_Span r_36.2.1)), (150, .bool (!((r_34.2.1.Lo == r_36.2.1.Lo) && ((r_34.2.1.Hi == r_36.2.1.Hi) && true)))), (151, .bool (!((r_34.2.1.Lo == r_36.2.1.Lo) && ((r_34.2.1.Hi == r_36.2.1.Hi) && true)))), (152, .bool false), (153, i6 r_34.2.2), (154, i6 r_36.2.2), (155, .bool (r_34.2.2 != r_36.2.2)), (156, .bool (r_34.2.2 != r_36.2.2)), (157, .bool false), (158, (A_Span r_37.1)), (159, (A_Span r_39.1)), (160, .bool (!((r_37.1.Lo == r_39.1.Lo) && ((r_37.1.Hi == r_39.1.Hi) && true)))), (161, .bool (!((r_37.1.Lo == r_39.1.Lo) && ((r_37.1.Hi == r_39.1.Hi) && true)))), (162, .bool false), (163, i6 r_37.2), (164, i6 r_39.2), (165, .bool (r_37.2 != r_39.2)), (166, .bool (r_37.2 != r_39.2)), (167, .bool false), (168, i6 r_40.1), (169, i6 r_42.1), (170, .bool (r_40.1 != r_42.1)), (171, .bool (r_40.1 != r_42.1)), (172, .bool false), (173, i6 r_40.2), (174, i6 r_42.2), (175, .bool (r_40.2 != r_42.2)), (176, .bool (r_40.2 != r_42.2)), (177, .bool true), (178, .tup []), (179, .tup []), (180, .tup []), (181, .tup []), (182, .tup [])]) (mkS 187 [(11, .sl (([x_1, r_8.1, (⟨r_9.Length, r_9.Width, r_9.Front, r_9.Rear, r_9.Turn, r_9.Kilos, r_9.Middle, r_9.High, w_10⟩ : T_Float)] : List T_Float).map A_Float) (some 0)), (12, i6 i_24), (185, .bool true)]) (by kernel_rfl) (by kernel_rfl) ⟨hcl_98, LGet.of hx_48 rfl, hcl_99, congrArg AV.bool hc_50, congrArg AV.bool hc_55, congrArg AV.bool hc_60, congrArg AV.bool hc_65, congrArg AV.bool hc_70, congrArg AV.bool hc_75, congrArg AV.bool hc_80, congrArg AV.bool hc_85, congrArg AV.bool hc_90, congrArg AV.bool hc_95, trivial⟩ (by kernel_rfl) trivial ?_
                 (try simp only [reduceCtorEq, AEx.ex.injEq, Nat.reduceEqDiff, if_true, if_false])
                 exact ⟨_, _, forgetA (m := 187) 0 [0] [(11, .sl (([x_1, r_8.1, (⟨r_9.Length, r_9.Width, r_9.Front, r_9.Rear, r_9.Turn, r_9.Kilos, r_9.Middle, r_9.High, w_10⟩ : T_Float)] : List T_Float).map A_Float) (some 0)), (12, i6 i_24), (185, .bool true)] [] [(3, 9)] (by simp) (by simp) ⟨(reT (KL_Float _) rfl), rfl, rfl, trivial⟩ (by simp) rfl (by decide), true, h, rfl, rfl⟩
                ·obtain ⟨x_100, hx_100, h⟩ := bE h
                 have hT_101 : DoesA Try.prog [⟨20, [(A_Float r_30)], [], (v_float_Check r_47), []⟩, ⟨21, [(A_Float x_48)], [], (v_br2_Check r_49), []⟩] ∧ ConsA [⟨20, [(A_Float r_30)], [], (v_float_Check r_47), []⟩, ⟨21, [(A_Float x_48)], [], (v_br2_Check r_49), []⟩] := ⟨⟨(d_float_Check N r_30 r_47 hr_47), rfl, (d_br2_Check N x_48 r_49 hr_49), rfl, trivial⟩, ⟨⟨ConsR.ne rfl, trivial⟩, trivial, trivial⟩⟩
                 refine Ex.drawE (a1 := mkS 187 [(11, .sl (([x_1, r_8.1, (⟨r_9.Length, r_9.Width, r_9.Front, r_9.Rear, r_9.Turn, r_9.Kilos, r_9.Middle, r_9.High, w_10⟩ : T_Float)] : List T_Float).map A_Float) (some 0)), (12, i6 i_24), (13, .ptr 0 0), (14, .ptr 1 0), (15, i6 r_31.2), (16, .ptr 2 0), (17, i6 r_33.2), (18, .ptr 3 0), (19, .ptr 4 0), (20, i6 r_34.2.2), (21, .ptr 5 0), (22, .ptr 6 0), (23, i6 r_36.2.2), (24, .ptr 7 0), (25, i6 r_37.2), (26, .ptr 8 0), (27, i6 r_39.2), (28, i6 r_40.1), (29, i6 r_40.2), (30, i6 r_42.1), (31, i6 r_42.2), (124, (A_Float r_30)), (125, i6 r_47), (126, .sl (([x_1, r_8.1, (⟨r_9.Length, r_9.Width, r_9.Front, r_9.Rear, r_9.Turn, r_9.Kilos, r_9.Middle, r_9.High, w_10⟩ : T_Float)] : List T_Float).map A_Float) (some 0)), (127, i6 i_24), (128, .rop (C_Float x_48)), (129, (A_Float x_48)), (130, i6 r_49), (131, .bool (r_47 != r_49)), (132, .bool false), (133, (A_Span r_31.1)), (134, (A_Span r_33.1)), (135, .bool (!((r_31.1.Lo == r_33.1.Lo) && ((r_31.1.Hi == r_33.1.Hi) && true)))), (136, .bool (!((r_31.1.Lo == r_33.1.Lo) && ((r_31.1.Hi == r_33.1.Hi) && true)))), (137, .bool false), (138, i6 r_31.2), (139, i6 r_33.2), (140, .bool (r_31.2 != r_33.2)), (141, .bool (r_31.2 != r_33.2)), (142, .bool false), (143, (A_Span r_34.1)), (144, (A_Span r_36.1)), (145, .bool (!((r_34.1.Lo == r_36.1.Lo) && ((r_34.1.Hi == r_36.1.Hi) && true)))), (146, .bool (!((r_34.1.Lo == r_36.1.Lo) && ((r_34.1.Hi == r_36.1.Hi) && true)))), (147, .bool false), (148, (A_Span r_34.2.1)), (149, (A_Span r_36.2.1)), (150, .bool (!((r_34.2.1.Lo == r_36.2.1.Lo) && ((r_34.2.1.Hi == r_36.2.1.Hi) && true)))), (151, .bool (!((r_34.2.1.Lo == r_36.2.1.Lo) && ((r_34.2.1.Hi == r_36.2.1.Hi) && true)))), (152, .bool false), (153, i6 r_34.2.2), (154, i6 r_36.2.2), (155, .bool (r_34.2.2 != r_36.2.2)), (156, .bool (r_34.2.2 != r_36.2.2)), (157, .bool false), (158, (A_Span r_37.1)), (159, (A_Span r_39.1)), (160, .bool (!((r_37.1.Lo == r_39.1.Lo) && ((r_37.1.Hi == r_39.1.Hi) && true)))), (161, .bool (!((r_37.1.Lo == r_39.1.Lo) && ((r_37.1.Hi == r_39.1.Hi) && true)))), (162, .bool false), (163, i6 r_37.2), (164, i6 r_39.2), (165, .bool (r_37.2 != r_39.2)), (166, .bool (r_37.2 != r_39.2)), (167, .bool false), (168, i6 r_40.1), (169, i6 r_42.1), (170, .bool (r_40.1 != r_42.1)), (171, .bool (r_40.1 != r_42.1)), (172, .bool false), (173, i6 r_40.2), (174, i6 r_42.2), (175, .bool (r_40.2 != r_42.2)), (176, .bool (r_40.2 != r_42.2)), (177, .bool false), (178, (A_Float r_30)), (179, .sl (([x_1, r_8.1, (⟨r_9.Length, r_9.Width, r_9.Front, r_9.Rear, r_9.Turn, r_9.Kilos, r_9.Middle, r_9.High, w_10⟩ : T_Float)] : List T_Float).map A_Float) (some 0)), (180, i6 i_24), (181, .rop (C_Float x_100)), (182, (A_Float x_100))]) (tabO_ok hT_101.1) [] [] [] ?_ ?_
                 ·refine drS [0, 1, 2, 3, 4, 5, 6, 7, 8] 1 [] [] (mkS 187 [(11, .sl (([x_1, r_8.1, (⟨r_9.Length, r_9.Width, r_9.Front, r_9.Rear, r_9.Turn, r_9.Kilos, r_9.Middle, r_9.High, w_10⟩ : T_Float)] : List T_Float).map A_Float) (some 0)), (12, i6 i_24), (13, .ptr 0 0), (14, .ptr 1 0), (15, i6 r_31.2), (16, .ptr 2 0), (17, i6 r_33.2), (18, .ptr 3 0), (19, .ptr 4 0), (20, i6 r_34.2.2), (21, .ptr 5 0), (22, .ptr 6 0), (23, i6 r_36.2.2), (24, .ptr 7 0), (25, i6 r_37.2), (26, .ptr 8 0), (27, i6 r_39.2), (28, i6 r_40.1), (29, i6 r_40.2), (30, i6 r_42.1), (31, i6 r_42.2), (124, (A_Float r_30))]) (by simp) (by kernel_rfl) trivial (by kernel_rfl) ?_
                  refine drC hT_101.2 0 _ [(A_Float r_30)] (v_float_Check r_47) rfl rfl rfl rfl rfl (fun _ => rfl) rfl (by simp; try rfl) (fun _ => b_float_Check _ _ _ _) ?_
                  refine drS [0, 1, 2, 3, 4, 5, 6, 7, 8] 4 [(2, .rop (C_Float x_48))] [LGet (([x_1, r_8.1, (⟨r_9.Length, r_9.Width, r_9.Front, r_9.Rear, r_9.Turn, r_9.Kilos, r_9.Middle, r_9.High, w_10⟩ : T_Float)] : List T_Float).map A_Float) i_24 9 (C_Float x_48)] (mkS 187 [(11, .sl (([x_1, r_8.1, (⟨r_9.Length, r_9.Width, r_9.Front, r_9.Rear, r_9.Turn, r_9.Kilos, r_9.Middle, r_9.High, w_10⟩ : T_Float)] : List T_Float).map A_Float) (some 0)), (12, i6 i_24), (13, .ptr 0 0), (14, .ptr 1 0), (15, i6 r_31.2), (16, .ptr 2 0), (17, i6 r_33.2), (18, .ptr 3 0), (19, .ptr 4 0), (20, i6 r_34.2.2), (21, .ptr 5 0), (22, .ptr 6 0), (23, i6 r_36.2.2), (24, .ptr 7 0), (25, i6 r_37.2), (26, .ptr 8 0), (27, i6 r_39.2), (28, i6 r_40.1), (29, i6 r_40.2), (30, i6 r_42.1), (31, i6 r_42.2), (124, (A_Float r_30)), (125, i6 r_47), (126, .sl (([x_1, r_8.1, (⟨r_9.Length, r_9.Width, r_9.Front, r_9.Rear, r_9.Turn, r_9.Kilos, r_9.Middle, r_9.High, w_10⟩ : T_Float)] : List T_Float).map A_Float) (some 0)), (127, i6 i_24), (128, .rop (C_Float x_48)), (129, (A_Float x_48))]) (by simp) (by kernel_rfl) ⟨LGet.of hx_48 rfl, trivial⟩ (by kernel_rfl) ?_
                  refine drC hT_101.2 1 _ [(A_Float x_48)] (v_br2_Check r_49) rfl rfl rfl rfl rfl (fun _ => rfl) rfl (by simp; try rfl) (fun _ => b_br2_Check _ _ _ _) ?_
                  refine drS [0, 1, 2, 3, 4, 5, 6, 7, 8] 52 [(1, .eq (.bool false)), (6, .eq (.bool false)), (11, .eq (.bool false)), (16, .eq (.bool false)), (21, .eq (.bool false)), (26, .eq (.bool false)), (31, .eq (.bool false)), (36, .eq (.bool false)), (41, .eq (.bool false)), (46, .eq (.bool false)), (50, .rop (C_Float x_100))] [AV.bool (r_47 != r_49) = AV.bool false, AV.bool (!((r_31.1.Lo == r_33.1.Lo) && ((r_31.1.Hi == r_33.1.Hi) && true))) = AV.bool false, AV.bool (r_31.2 != r_33.2) = AV.bool false, AV.bool (!((r_34.1.Lo == r_36.1.Lo) && ((r_34.1.Hi == r_36.1.Hi) && true))) = AV.bool false, AV.bool (!((r_34.2.1.Lo == r_36.2.1.Lo) && ((r_34.2.1.Hi == r_36.2.1.Hi) && true))) = AV.bool false, AV.bool (r_34.2.2 != r_36.2.2) = AV.bool false, AV.bool (!((r_37.1.Lo == r_39.1.Lo) && ((r_37.1.Hi == r_39.1.Hi) && true))) = AV.bool false, AV.bool (r_37.2 != r_39.2) = AV.bool false, AV.bool (r_40.1 != r_42.1) = AV.bool false, AV.bool (r_40.2 != r_42.2) = AV.bool false, LGet (([x_1, r_8.1, (⟨r_9.Length, r_9.Width, r_9.Front, r_9.Rear, r_9.Turn, r_9.Kilos, r_9.Middle, r_9.High, w_10⟩ : T_Float)] : List T_Float).map A_Float) i_24 9 (C_Float x_100)] (mkS 187 [(11, .sl (([x_1, r_8.1, (⟨r_9.Length, r_9.Width, r_9.Front, r_9.Rear, r_9.Turn, r_9.Kilos, r_9.Middle, r_9.High, w_10⟩ : T_Float)] : List T_Float).map A_Float) (some 0)), (12, i6 i_24), (13, .ptr 0 0), (14, .ptr 1 0), (15, i6 r_31.2), (16, .ptr 2 0), (17, i6 r_33.2), (18, .ptr 3 0), (19, .ptr 4 0), (20, i6 r_34.2.2), (21, .ptr 5 0), (22, .ptr 6 0), (23, i6 r_36.2.2), (24, .ptr 7 0), (25, i6 r_37.2), (26, .ptr 8 0), (27, i6 r_39.2), (28, i6 r_40.1), (29, i6 r_40.2), (30, i6 r_42.1), (31, i6 r_42.2), (124, (A_Float r_30)), (125, i6 r_47), (126, .sl (([x_1, r_8.1, (⟨r_9.Length, r_9.Width, r_9.Front, r_9.Rear, r_9.Turn, r_9.Kilos, r_9.Middle, r_9.High, w_10⟩ : T_Float)] : List T_Float).map A_Float) (some 0)), (127, i6 i_24), (128, .rop (C_Float x_48)), (129, (A_Float x_48)), (130, i6 r_49), (131, .bool (r_47 != r_49)), (132, .bool false), (133, (A_Span r_31.1)), (134, (A_Span r_33.1)), (135, .bool (!((r_31.1.Lo == r_33.1.Lo) && ((r_31.1.Hi == r_33.1.Hi) && true)))), (136, .bool (!((r_31.1.Lo == r_33.1.Lo) && ((r_31.1.Hi == r_33.1.Hi) && true)))), (137, .bool false), (138, i6 r_31.2), (139, i6 r_33.2), (140, .bool (r_31.2 != r_33.2)), (141, .bool (r_31.2 != r_33.2)), (142, .bool false), (143, (A_Span r_34.1)), (144, (A_Span r_36.1)), (145, .bool (!((r_34.1.Lo == r_36.1.Lo) && ((r_34.1.Hi == r_36.1.Hi) && true)))), (146, .bool (!((r_34.1.Lo == r_36.1.Lo) && ((r_34.1.Hi == r_36.1.Hi) && true)))), (147, .bool false), (148, (A_Span r_34.2.1)), (149, (A_Span r_36.2.1)), (150, .bool (!((r_34.2.1.Lo == r_36.2.1.Lo) && ((r_34.2.1.Hi == r_36.2.1.Hi) && true)))), (151, .bool (!((r_34.2.1.Lo == r_36.2.1.Lo) && ((r_34.2.1.Hi == r_36.2.1.Hi) && true)))), (152, .bool false), (153, i6 r_34.2.2), (154, i6 r_36.2.2), (155, .bool (r_34.2.2 != r_36.2.2)), (156, .bool (r_34.2.2 != r_36.2.2)), (157, .bool false), (158, (A_Span r_37.1)), (159, (A_Span r_39.1)), (160, .bool (!((r_37.1.Lo == r_39.1.Lo) && ((r_37.1.Hi == r_39.1.Hi) && true)))), (161, .bool (!((r_37.1.Lo == r_39.1.Lo) && ((r_37.1.Hi == r_39.1.Hi) && true)))), (162, .bool false), (163, i6 r_37.2), (164, i6 r_39.2), (165, .bool (r_37.2 != r_39.2)), (166, .bool (r_37.2 != r_39.2)), (167, .bool false), (168, i6 r_40.1), (169, i6 r_42.1), (170, .bool (r_40.1 != r_42.1)), (171, .bool (r_40.1 != r_42.1)), (172, .bool false), (173, i6 r_40.2), (174, i6 r_42.2), (175, .bool (r_40.2 != r_42.2)), (176, .bool (r_40.2 != r_42.2)), (177, .bool false), (178, (A_Float r_30)), (179, .sl (([x_1, r_8.1, (⟨r_9.Length, r_9.Width, r_9.Front, r_9.Rear, r_9.Turn, r_9.Kilos, r_9.Middle, r_9.High, w_10⟩ : T_Float)] : List T_Float).map A_Float) (some 0)), (180, i6 i_24), (181, .rop (C_Float x_100)), (182, (A_Float x_100))]) (by simp) (by kernel_rfl) ⟨congrArg AV.bool hc_50, congrArg AV.bool hc_55, congrArg AV.bool hc_60, congrArg AV.bool hc_65, congrArg AV.bool hc_70, congrArg AV.bool hc_75, congrArg AV.bool hc_80, congrArg AV.bool hc_85, congrArg AV.bool hc_90, congrArg AV.bool hc_95, LGet.of hx_100 rfl, trivial⟩ (by kernel_rfl) ?_
                  exact DrO.nil rfl
                 ·dsimp only [List.getLastD_cons, List.getLastD_nil]
                  obtain ⟨r_102, hr_102, h⟩ := bE h
                  refine ExO.callL [] [(A_Float r_30), (A_Float x_100)] rfl rfl (a_bk_EqFloats r_30 x_100) rfl rfl (d_bk_EqFloats N r_30 x_100 r_102 hr_102) (b_bk_EqFloats _ _ _ _) rfl ?_
                  refine rn 2 [11, 12, 185] (mkS 187 [(11, .sl (([x_1, r_8.1, (⟨r_9.Length, r_9.Width, r_9.Front, r_9.Rear, r_9.Turn, r_9.Kilos, r_9.Middle, r_9.High, w_10⟩ : T_Float)] : List T_Float).map A_Float) (some 0)), (12, i6 i_24), (185, .bool (!r_102))]) ⟨[(C_Float r_30), (C_Span r_31.1), (C_Span r_33.1), (C_Span r_34.1), (C_Span r_34.2.1), (C_Span r_36.1), (C_Span r_36.2.1), (C_Span r_37.1), (C_Span r_39.1)], [(3, 9)]⟩ ?_
                  refine ExO.nil ?_
                  (try simp only [reduceCtorEq, AEx.ex.injEq, Nat.reduceEqDiff, if_true, if_false])
                  exact ⟨_, _, forgetA (m := 187) 0 [0] [(11, .sl (([x_1, r_8.1, (⟨r_9.Length, r_9.Width, r_9.Front, r_9.Rear, r_9.Turn, r_9.Kilos, r_9.Middle, r_9.High, w_10⟩ : T_Float)] : List T_Float).map A_Float) (some 0)), (12, i6 i_24), (185, .bool (!r_102))] [] [(3, 9)] (by simp) (by simp) ⟨(reT (KL_Float _) rfl), rfl, rfl, trivial⟩ (by simp) rfl (by decide), (!r_102), h, rfl, rfl⟩
      ·rintro a S ⟨y_43, h, rfl, rfl⟩
       subst hK_46
       rcases condI h with ⟨hc_103, h⟩ | ⟨hc_103, h⟩
       ·refine Ex.condT _ rfl hc_103 ?_
        refine Ex.seq (rg 1 [8] (mkS 187 [(8, .bool false)]) ⟨[], [(3, 9)]⟩ ?_)
        refine Ex.ret ?_
        obtain rfl := sJ h
        exact rt (.bool false)
       ·refine Ex.condF _ rfl hc_103 ?_
        refine Ex.skip ?_
        refine rg 3 [11, 12] (mkS 187 [(11, .sl (([x_1, r_8.1, (⟨r_9.Length, r_9.Width, r_9.Front, r_9.Rear, r_9.Turn, r_9.Kilos, r_9.Middle, r_9.High, w_10⟩ : T_Float)] : List T_Float).map A_Float) (some 0)), (12, i6 (IntKind.i64.wrap (i_24 + 1)))]) ⟨[], [(3, 9)]⟩ ?_
        dsimp only
        exact ⟨_, _, Forgets.refl _ _ _, k, Nat.lt_succ_self k, (IntKind.i64.wrap (i_24 + 1)), h, rfl, rfl⟩
     ·refine Ex.condF _ rfl hc_28 ?_
      refine Ex.exit ?_
      (try simp only [reduceCtorEq, AEx.ex.injEq, Nat.reduceEqDiff, if_true, if_false])
      exact ⟨_, _, forgetA (m := 187) 0 [] [] [] [] (by simp) (by simp) trivial (by simp) rfl (by decide), h, rfl, rfl⟩
   ·rintro a S ⟨h, rfl, rfl⟩
    subst hK_23
    refine Ex.seq ?_
    obtain ⟨r_104, hr_104, h⟩ := bE h
    refine Ex.reg ?_
    refine ExO.callL [] [] rfl rfl (a_bl2_awake) rfl rfl (d_bl2_awake N r_104 hr_104) (b_bl2_awake _ _ _ _) rfl ?_
    refine rn 1 [8] (mkS 187 [(8, .bool r_104)]) ⟨[], []⟩ ?_
    refine ExO.nil ?_
    refine Ex.ret ?_
    obtain rfl := sJ h
    exact rt (.bool r_104)
end Go.Proofs.Ytdmfnhamipmmnaa
end
section
namespace Go.Proofs.Ytdmfnhamipmmnaa
open Go.RowKit
set_option linter.unusedVariables false
set_option linter.unusedSimpArgs false
set_option maxRecDepth 10000
set_option maxHeartbeats 4000000

theorem carries_law (N : Nat) (x : T_Float) (l : T_Load) (q : Int) (zs : List Int) (hN : zs.length + 200000 ≤ N) (hz : zs.length < 9223372036854775808) : p_bl2_FloatCarries N x l q zs = some true := by
 unfold p_bl2_FloatCarries
 by_cases hx : ((x.Loads.length : Nat) : Int) > 30
 ·rw [show decide (((x.Loads.length : Nat) : Int) > 30) = true from decide_eq_true hx, cond_true]
  rfl
 rw [show decide (((x.Loads.length : Nat) : Int) > 30) = false from decide_eq_false hx, cond_false]
 obtain ⟨d2, e⟩ := drumOf_p N zs (by omega) (by omega)
 rw [e, Option.bind_some]; clear e
 obtain ⟨f, d3, e, hf⟩ := floatOf_p N d2 6 (by omega) (by omega) (by omega)
 rw [e, Option.bind_some]; clear e
 dsimp only
 have hn := hf.n
 rw [ownFloat_t N f (by omega), Option.bind_some, letJ_eq]
 have key : ∀ y : T_Float, y.Loads.length ≤ 30 → ∃ a b c d e, p_float_Total N y = some a ∧ p_br2_Total N y = some a ∧ p_float_Axles N y = some b ∧ p_br2_Axles N y = some b ∧ p_float_Height N y = some c ∧ p_br2_Height N y = some c ∧ p_float_Stands N y = some d ∧ p_br2_Stands N y = some d ∧ p_float_Check N y = some e ∧ p_br2_Check N y = some e ∧ p_bk_OwnFloat N y = some y ∧ p_bk_EqFloats N y y = some true := by
  intro y hy
  obtain ⟨a, b, c, d, e, h1, h2, h3, h4, h5, h6, h7, h8, h9, h10⟩ := fall_p N (by omega) y
  exact ⟨a, b, c, d, e, h1, h2, h3, h4, h5, h6, h7, h8, h9, h10, ownFloat_t N y (by omega), eqFloats_t N y (by omega) (by omega)⟩
 have main : ∀ K : List T_Load → Option Bool, (∀ w : List T_Load, w.length = f.Loads.length → K w = some true) → (bif (decide (((f.Loads.length : Nat) : Int) > 0)) then ((p_bk_Fit N q ((f.Loads.length : Nat) : Int)).bind fun r_15 => ((idxI r_15 f.Loads.length).bind fun u_17 => ((setI f.Loads r_15 (fun (y_18 : T_Load) => l)).bind fun z_19 => (K z_19)))) else (K f.Loads)) = some true := by
  intro K hK
  by_cases h0 : ((f.Loads.length : Nat) : Int) > 0
  ·rw [show decide (((f.Loads.length : Nat) : Int) > 0) = true from decide_eq_true h0, cond_true]
   obtain ⟨r, er, r0, r1⟩ := fit_p N q ((f.Loads.length : Nat) : Int) h0 (by omega)
   have hlt : r.toNat < f.Loads.length := by omega
   rw [er, Option.bind_some, show idxI r f.Loads.length = some () from if_pos ⟨r0, r1⟩, Option.bind_some, show setI f.Loads r (fun _ => l) = some (f.Loads.set r.toNat l) by simp [setI, List.getElem?_eq_getElem hlt], Option.bind_some]
   exact hK _ (by simp)
  ·rw [show decide (((f.Loads.length : Nat) : Int) > 0) = false from decide_eq_false h0, cond_false]
   exact hK _ rfl
 refine main _ fun w hw => ?_
 rw [show lenI w f.Loads.length = some () from if_pos hw, Option.bind_some, letJ_eq]
 generalize hs : (⟨f.Length, f.Width, f.Front, f.Rear, f.Turn, f.Kilos, f.Middle, f.High, w⟩ : T_Float) = s
 have hsl : s.Loads.length ≤ 30 := by rw [← hs]; show w.length ≤ 30; omega
 refine st1 3 _ (some true) ?_ ?_ N 0 (by omega) (by omega)
 ·intro rec
  rfl
 ·intro rec i hi
  obtain ⟨y, hy, g1⟩ : ∃ y, y.Loads.length ≤ 30 ∧ getI ([x, f, s] : List T_Float) (i : Int) = some y := by
   match i, hi with
   | 0, _ => exact ⟨x, by omega, rfl⟩
   | 1, _ => exact ⟨f, by omega, rfl⟩
   | 2, _ => exact ⟨s, hsl, rfl⟩
  obtain ⟨a, b, c, d, e, h1, h2, h3, h4, h5, h6, h7, h8, h9, h10, h11, h12⟩ := key y hy
  rw [show decide ((i : Int) < 3) = true from decide_eq_true (by omega), cond_true]
  simp only [g1, Option.bind_some, h1, h2, h3, h4, h5, h6, h7, h8, h9, h10, h11, h12, letJ_eq, bne_self_eq_false, beq_self_eq_true, Bool.and_self, cond_false, Bool.not_true, nadd1 i (by omega)]
theorem carries_m (x : T_Float) (l : T_Load) (q : Int) (zs : List Int) (h : zs.length < 9223372036854775808) : Does Try.prog 3 [A_Float x, A_Load l, .int .i64 q, .sl (zs.map (AV.int .i64)) none] [] fun v _ => v = .bool true :=
 (d_bl2_FloatCarries _ x l q zs true (carries_law _ x l q zs (Nat.le_refl _) h)).mono fun v c h => h.1
end Go.Proofs.Ytdmfnhamipmmnaa
end
section
namespace Go.Proofs.Ytdmfnhamipmmnaa
open Go.RowKit Go.ChangeShapes Go.WideShapes Go.Deep
set_option linter.unusedVariables false
set_option linter.unusedSimpArgs false

section
variable {H : Type} {enc : TypeId × Value → H} {W : World} {base : Nat} {spare : Nat → Bool} {held : Bool}

theorem ex_of_len {α : Type} {xs : List α} {n i : Nat} (h : xs.length = n) (hi : i < n) : ∃ x, xs[i]? = some x := ⟨xs[i]'(by omega), List.getElem?_eq_getElem (by omega)⟩
theorem int_at {n : Nat} {off : Nat} {cs : List Value} {x : Option (DataW H × List MemPlace)} (hx : x ≠ none) (h : DataW.trod enc Try.prog W base spare held n 3 ((cs.drop off).take (Try.prog.cellsOf 3)) = x) : ∃ z : Int, (cs.drop off).take 1 = [.int .i64 z] := by
 have k : Try.prog.cellsOf 3 = 1 := by kernel_rfl
 rw [k] at h
 cases x with
 | none => exact absurd rfl hx
 | some y =>
  obtain ⟨lo, hl, _⟩ := DataW.trod_int Try.underlying3 h
  exact ⟨lo, hl⟩

set_option maxRecDepth 100000 in
theorem span_at {n : Nat} {a b : Value} {x : DataW H × List MemPlace} (h : DataW.trod enc Try.prog W base spare held n 26 [a, b] = some x) : ∃ lo hi : Int, a = .int .i64 lo ∧ b = .int .i64 hi := by
 obtain ⟨xs, m, _, _, _, hlen, hf⟩ := DataW.trod_struct Try.underlying26 h
 obtain ⟨x0, e0⟩ := ex_of_len hlen (i := 0) (by decide)
 obtain ⟨x1, e1⟩ := ex_of_len hlen (i := 1) (by decide)
 obtain ⟨lo, hl⟩ := int_at (cs := [a, b]) (off := 0) (by rw [e0]; simp) (hf 0 _ rfl)
 obtain ⟨hi, hh⟩ := int_at (cs := [a, b]) (off := 1) (by rw [e1]; simp) (hf 1 _ rfl)
 simp at hl hh
 exact ⟨lo, hi, hl, hh⟩

def lints (l : T_Load) : List Int := [l.At, l.Kilos.Lo, l.Kilos.Hi, l.Top.Lo, l.Top.Hi, l.Kind, l.Watts]

set_option maxRecDepth 100000 in
theorem load_at {n : Nat} {cs : List Value} {x : DataW H × List MemPlace} (h : DataW.trod enc Try.prog W base spare held n 28 cs = some x) : ∃ l : T_Load, cs = (lints l).map (Value.int .i64) := by
 obtain ⟨xs, m, _, _, hcl, hlen, hf⟩ := DataW.trod_struct Try.underlying28 h
 have kp : Try.prog.cellsOf 26 = 2 := by kernel_rfl
 have kw : Try.prog.cellsOf 28 = 7 := by kernel_rfl
 rw [kw] at hcl
 match cs, hcl with
 | [c0, c1, c2, c3, c4, c5, c6], _ =>
  obtain ⟨x0, e0⟩ := ex_of_len hlen (i := 0) (by decide)
  obtain ⟨x1, e1⟩ := ex_of_len hlen (i := 1) (by decide)
  obtain ⟨x2, e2⟩ := ex_of_len hlen (i := 2) (by decide)
  obtain ⟨x3, e3⟩ := ex_of_len hlen (i := 3) (by decide)
  obtain ⟨x4, e4⟩ := ex_of_len hlen (i := 4) (by decide)
  obtain ⟨z0, h0⟩ := int_at (cs := [c0, c1, c2, c3, c4, c5, c6]) (off := 0) (by rw [e0]; simp) (hf 0 _ rfl)
  have h1 : DataW.trod enc Try.prog W base spare held m 26 ((([c0, c1, c2, c3, c4, c5, c6] : List Value).drop 1).take (Try.prog.cellsOf 26)) = xs[1]? := by have := hf 1 _ rfl; exact this
  have h2 : DataW.trod enc Try.prog W base spare held m 26 ((([c0, c1, c2, c3, c4, c5, c6] : List Value).drop 3).take (Try.prog.cellsOf 26)) = xs[2]? := by have := hf 2 _ rfl; exact this
  obtain ⟨z3, h3⟩ := int_at (cs := [c0, c1, c2, c3, c4, c5, c6]) (off := 5) (by rw [e3]; simp) (hf 3 _ rfl)
  obtain ⟨z4, h4⟩ := int_at (cs := [c0, c1, c2, c3, c4, c5, c6]) (off := 6) (by rw [e4]; simp) (hf 4 _ rfl)
  rw [e1, kp] at h1
  rw [e2, kp] at h2
  obtain ⟨a1, b1, g1, g2⟩ := span_at h1
  obtain ⟨a2, b2, g3, g4⟩ := span_at h2
  simp at h0 h3 h4
  subst h0 h3 h4 g1 g2 g3 g4
  exact ⟨⟨z0, ⟨a1, b1⟩, ⟨a2, b2⟩, z3, z4⟩, rfl⟩

theorem loads_cells (l : T_Load) : (A_Load l).cells = (lints l).map (AV.int .i64) := rfl

set_option maxRecDepth 100000 in
theorem loads_vr {a : Option Addr} {len cap : Nat} {x : DataW H × List MemPlace} {fuel : Nat} (hsp : ∀ b, spare b = true) (h : DataW.trod enc Try.prog W base spare held fuel 22 [.slice a len cap] = some x) :
  ∃ ls : List T_Load, ls.length ≤ maxLen ∧ VR (Gh.all W) (.sl (ls.map A_Load) none) (.slice a len cap) := by
 have kw : Try.prog.cellsOf 28 = 7 := by kernel_rfl
 rcases open_slice Try.underlying22 h with ⟨hcs, _⟩ | ⟨ad, l, c, m, n, D, Pl, hcs, hb, hl, hm, hmm, hx, hi⟩
 ·simp at hcs
  obtain ⟨rfl, rfl, rfl⟩ := hcs
  exact ⟨[], by simp, .sl0 _ _⟩
 ·simp at hcs
  obtain ⟨rfl, rfl, rfl⟩ := hcs
  have hw : ∀ i, ∃ g : T_Load, i < len → ∀ j z, (lints g)[j]? = some z → W.cell? (ad.add (i * 7 + j)) = some (.int .i64 z) := by
   intro i
   by_cases hil : i < len
   ·obtain ⟨cs, hcells, ht⟩ := hi i (by rw [hmm]; split <;> omega)
    obtain ⟨g, rfl⟩ := load_at ht
    rw [kw] at hcells
    obtain ⟨_, hcl, hat⟩ := World.cells?_some hcells
    refine ⟨g, fun _ j z hz => ?_⟩
    have hj : j < 7 := (List.getElem?_eq_some_iff.1 hz).1
    rw [← Go.Deep.add_add, hat j hj, List.getElem?_map, hz]
    rfl
   ·exact ⟨default, fun h => absurd h hil⟩
  obtain ⟨f, hf⟩ := Classical.axiomOfChoice hw
  refine ⟨(List.range len).map f, by simp; omega, ?_⟩
  by_cases h0 : len = 0
  ·subst h0
   exact .sl0 _ _
  ·have hx : ∃ b o, ad = ⟨b, o, none⟩ := by
    have h1 := hf 0 (by omega) 0 _ rfl
    obtain ⟨b, o, sp⟩ := ad
    cases sp with
    | none => exact ⟨b, o, rfl⟩
    | some s =>
     exfalso
     unfold World.cell? at h1
     simp only [Addr.add] at h1
     split at h1 <;> simp_all
   obtain ⟨b, o, rfl⟩ := hx
   have hcl : ∀ i, i < len → ∀ j z, (lints (f i))[j]? = some z → W.cell? ⟨b, o + (i * 7 + j), none⟩ = some (.int .i64 z) := fun i hi j z hz => by
    have h1 := hf i hi j z hz
    have ej : ((⟨b, o, none⟩ : Addr).add (i * 7 + j)) = ⟨b, o + (i * 7 + j), none⟩ := by unfold Addr.add; split <;> simp_all
    rw [ej] at h1
    exact h1
   have hel : ∀ (i : Nat) y, (((List.range len).map f).map A_Load)[i]? = some y → i < len ∧ y = A_Load (f i) := fun i y hy => by
    rw [List.map_map, List.getElem?_map, Option.map_eq_some_iff] at hy
    obtain ⟨z, hz1, rfl⟩ := hy
    have hi : i < (List.range len).length := (List.getElem?_eq_some_iff.1 hz1).1
    rw [List.length_range] at hi
    rw [List.getElem?_range hi] at hz1
    cases hz1
    exact ⟨hi, rfl⟩
   have hcz : ∀ (i j : Nat) x, (A_Load (f i)).cells[j]? = some x → j < 7 ∧ ∃ z, (lints (f i))[j]? = some z ∧ x = .int .i64 z := fun i j x hx => by
    rw [loads_cells, List.getElem?_map, Option.map_eq_some_iff] at hx
    obtain ⟨z, hz, rfl⟩ := hx
    exact ⟨(List.getElem?_eq_some_iff.1 hz).1, z, hz, rfl⟩
   have hus : ∀ (i j : Nat) z, j < 7 → (lints (f i))[j]? = some z → (lints (f ((i * 7 + j) / 7))).getD ((i * 7 + j) % 7) 0 = z := fun i j z hj hz => by
    rw [show (i * 7 + j) / 7 = i by omega, show (i * 7 + j) % 7 = j by omega, List.getD_eq_getElem?_getD, hz]
    rfl
   have hlm : (((List.range len).map f).map A_Load).length = len := by simp
   have key := VR.sl (G := Gh.all W) (((List.range len).map f).map A_Load) 7 b o cap (fun k => .int .i64 ((lints (f (k / 7))).getD (k % 7) 0)) (by rw [hlm]; exact hl) (fun i y hy => by rw [(hel i y hy).2]; rfl)
    (fun i y j x hy hx => by
      obtain ⟨hi, rfl⟩ := hel i y hy
      obtain ⟨hj, z, hz, rfl⟩ := hcz i j x hx
      show W.cell? _ = _
      rw [hcl i hi j z hz, hus i j z hj hz])
    (fun i y j x hy hx => by
      obtain ⟨hi, rfl⟩ := hel i y hy
      obtain ⟨hj, z, hz, rfl⟩ := hcz i j x hx
      rw [hus i j z hj hz]
      exact .int _ _)
   rw [hlm] at key
   exact key

set_option maxRecDepth 100000 in
theorem float_vr {r0 : Reach} {b0 : Nat} {v : Value} {d : DataW H} {p : List MemPlace} (hv : Value.okWide Try.prog W r0 b0 24 v) (h : DataW.Trod enc Try.prog W base (fun _ => true) held 24 v d p) :
  ∃ x : T_Float, x.Loads.length ≤ maxLen ∧ VR (Gh.all W) (A_Float x) v := by
 obtain ⟨us, rfl, hsz⟩ := okWide_struct Try.underlying24 hv
 obtain ⟨fuel, hf⟩ := h
 have kw : Try.prog.cellsOf 24 = 9 := by kernel_rfl
 have ks : Try.prog.cellsOf 22 = 1 := by kernel_rfl
 rw [kw] at hsz
 obtain ⟨us⟩ := us
 match us, hsz with
 | [c0, c1, c2, c3, c4, c5, c6, c7, c8], _ =>
  obtain ⟨xs, m, _, _, _, hlen, hf⟩ := DataW.trod_struct Try.underlying24 hf
  obtain ⟨x0, e0⟩ := ex_of_len hlen (i := 0) (by decide)
  obtain ⟨x1, e1⟩ := ex_of_len hlen (i := 1) (by decide)
  obtain ⟨x2, e2⟩ := ex_of_len hlen (i := 2) (by decide)
  obtain ⟨x3, e3⟩ := ex_of_len hlen (i := 3) (by decide)
  obtain ⟨x4, e4⟩ := ex_of_len hlen (i := 4) (by decide)
  obtain ⟨x5, e5⟩ := ex_of_len hlen (i := 5) (by decide)
  obtain ⟨x6, e6⟩ := ex_of_len hlen (i := 6) (by decide)
  obtain ⟨x7, e7⟩ := ex_of_len hlen (i := 7) (by decide)
  obtain ⟨x8, e8⟩ := ex_of_len hlen (i := 8) (by decide)
  obtain ⟨z0, h0⟩ := int_at (cs := [c0, c1, c2, c3, c4, c5, c6, c7, c8]) (off := 0) (by rw [e0]; simp) (hf 0 _ rfl)
  obtain ⟨z1, h1⟩ := int_at (cs := [c0, c1, c2, c3, c4, c5, c6, c7, c8]) (off := 1) (by rw [e1]; simp) (hf 1 _ rfl)
  obtain ⟨z2, h2⟩ := int_at (cs := [c0, c1, c2, c3, c4, c5, c6, c7, c8]) (off := 2) (by rw [e2]; simp) (hf 2 _ rfl)
  obtain ⟨z3, h3⟩ := int_at (cs := [c0, c1, c2, c3, c4, c5, c6, c7, c8]) (off := 3) (by rw [e3]; simp) (hf 3 _ rfl)
  obtain ⟨z4, h4⟩ := int_at (cs := [c0, c1, c2, c3, c4, c5, c6, c7, c8]) (off := 4) (by rw [e4]; simp) (hf 4 _ rfl)
  obtain ⟨z5, h5⟩ := int_at (cs := [c0, c1, c2, c3, c4, c5, c6, c7, c8]) (off := 5) (by rw [e5]; simp) (hf 5 _ rfl)
  obtain ⟨z6, h6⟩ := int_at (cs := [c0, c1, c2, c3, c4, c5, c6, c7, c8]) (off := 6) (by rw [e6]; simp) (hf 6 _ rfl)
  obtain ⟨z7, h7⟩ := int_at (cs := [c0, c1, c2, c3, c4, c5, c6, c7, c8]) (off := 7) (by rw [e7]; simp) (hf 7 _ rfl)
  have h8 : DataW.trod enc Try.prog W base (fun _ => true) held m 22 ((([c0, c1, c2, c3, c4, c5, c6, c7, c8] : List Value).drop 8).take (Try.prog.cellsOf 22)) = xs[8]? := by have := hf 8 _ rfl; exact this
  rw [e8, ks] at h8
  replace h8 : DataW.trod enc Try.prog W base (fun _ => true) held m 22 [c8] = some x8 := h8
  simp at h0 h1 h2 h3 h4 h5 h6 h7
  subst h0 h1 h2 h3 h4 h5 h6 h7
  have hsl : ∃ a len cap, c8 = .slice a len cap := by
   rcases open_slice Try.underlying22 h8 with ⟨hcs, _⟩ | ⟨ad, l, c, m, n, D, Pl, hcs, _⟩
   ·simp at hcs; exact ⟨_, _, _, hcs⟩
   ·simp at hcs; exact ⟨_, _, _, hcs⟩
  obtain ⟨a, len, cap, rfl⟩ := hsl
  obtain ⟨ls, hl, hvr⟩ := loads_vr (fun _ => rfl) h8
  refine ⟨⟨z0, z1, z2, z3, z4, z5, z6, z7, ls⟩, hl, .agg _ _ rfl ?_⟩
  intro i x u hx hu
  match i with
  | 0 => simp [C_Float] at hx hu; subst hx; subst hu; exact .int _ _
  | 1 => simp [C_Float] at hx hu; subst hx; subst hu; exact .int _ _
  | 2 => simp [C_Float] at hx hu; subst hx; subst hu; exact .int _ _
  | 3 => simp [C_Float] at hx hu; subst hx; subst hu; exact .int _ _
  | 4 => simp [C_Float] at hx hu; subst hx; subst hu; exact .int _ _
  | 5 => simp [C_Float] at hx hu; subst hx; subst hu; exact .int _ _
  | 6 => simp [C_Float] at hx hu; subst hx; subst hu; exact .int _ _
  | 7 => simp [C_Float] at hx hu; subst hx; subst hu; exact .int _ _
  | 8 => simp [C_Float] at hx hu; subst hx; subst hu; exact hvr
  | i + 9 => simp [C_Float] at hx
end
end Go.Proofs.Ytdmfnhamipmmnaa
end
section
namespace Go.Proofs.Ytdmfnhamipmmnaa
open Go.RowKit Go.ChangeShapes Go.WideShapes Go.Deep
set_option linter.unusedVariables false
set_option linter.unusedSimpArgs false

section
variable {H : Type} {enc : TypeId × Value → H} {W : World} {base : Nat} {spare : Nat → Bool} {held : Bool}
set_option maxRecDepth 100000 in
theorem load_vr {r0 : Reach} {b0 : Nat} {v : Value} {d : DataW H} {p : List MemPlace} (hv : Value.okWide Try.prog W r0 b0 28 v) (h : DataW.Trod enc Try.prog W base (fun _ => true) held 28 v d p) :
  ∃ x : T_Load, VR (Gh.all W) (A_Load x) v := by
 obtain ⟨us, rfl, hsz⟩ := okWide_struct Try.underlying28 hv
 obtain ⟨fuel, hf⟩ := h
 obtain ⟨us⟩ := us
 have hf' : DataW.trod enc Try.prog W base (fun _ => true) held fuel 28 us = some (d, p) := hf
 obtain ⟨l, rfl⟩ := load_at hf'
 refine ⟨l, .agg _ _ rfl ?_⟩
 intro i x u hx hu
 have hx : ((lints l).map (AV.int .i64))[i]? = some x := hx
 have hu : ((lints l).map (Value.int .i64))[i]? = some u := by simpa using hu
 rw [List.getElem?_map, Option.map_eq_some_iff] at hx hu
 obtain ⟨z, hz, rfl⟩ := hx
 obtain ⟨z', hz', rfl⟩ := hu
 rw [hz] at hz'
 cases hz'
 exact .int _ _
end
end Go.Proofs.Ytdmfnhamipmmnaa
end
section
namespace Go.Proofs.Ytdmfnhamipmmnaa
open Go.RowKit Go.ChangeShapes Go.WideShapes Go.ChangeAt
set_option linter.unusedVariables false
set_option linter.unusedSimpArgs false

def nums (zs : List Int) : AV := .sl (zs.map fun z => .int .i64 z) none
theorem prog_own : ownKnob Try.prog.godebug = none := by kernel_rfl
theorem prog_laid : laidOutB Try.prog = true := by kernel_rfl

namespace floatCarries
set_option maxRecDepth 100000 in
theorem lifted (hM : ∀ (x0 : T_Float), x0.Loads.length ≤ maxLen → ∀ (x1 : T_Load), ∀ (x2 : Int), (Lit.int .i64 x2).wf = true → ∀ (x3 : List Int), (∀ z ∈ x3, (Lit.int .i64 z).wf = true) → x3.length ≤ maxLen → Does Try.prog 3 [A_Float x0, A_Load x1, .int .i64 x2, nums x3] [] fun v _ => v = .bool true) (os : Os) (started : os.Started) (H : Type) (enc : TypeId × Value → H) :
  ReturnsInHanded {} Try.checked os 3 .any (Rows.floatCarriesSpec.pre6 enc Try.prog Try.f3 Rows.floatCarriesRow.domain false) (Rows.floatCarriesSpec.post enc Try.prog Try.f3 false true false false) := by
 refine returnsInHanded_of_change (C := Try.checked) prog_own started (by kernel_rfl) Try.func3
  (ChangeSpec.witness6 (enc := enc) (C := Try.checked) false ⟨#[], #[.agg #[.int .i64 0, .int .i64 0, .int .i64 0, .int .i64 0, .int .i64 0, .int .i64 0, .int .i64 0, .int .i64 0, .slice none 0 0], .agg #[.int .i64 0, .int .i64 0, .int .i64 0, .int .i64 0, .int .i64 0, .int .i64 0, .int .i64 0], .int .i64 0, .slice none 0 0], []⟩ 8 (by kernel_rfl) (by kernel_rfl) (by kernel_rfl) (by kernel_rfl)) ?_
 intro W base args ds gs before hval0 hW hcnd _
 have hval : ∀ (j : Nat) t v, Try.f3.params[j]? = some t → args[j]? = some v → Value.okWide Try.prog W .any base t v := hval0
 have hW' := hW
 obtain ⟨p, q, hA0, hV, rfl, hfz, hnd⟩ := hW
 have hA : DataW.TrodAll enc Try.prog W 0 (fun _ => true) true Try.f3.params.toList args.toList ds p := hA0
 rw [Try.params3] at hA hval
 obtain ⟨v0, vs0, d0, ds0, p0, q0, hargs, rfl, rfl, h0, r0⟩ := trodAll_cons hA
 obtain ⟨v1, vs1, d1, ds1, p1, q1, rfl, rfl, rfl, h1, r1⟩ := trodAll_cons r0
 obtain ⟨v2, vs2, d2, ds2, p2, q2, rfl, rfl, rfl, h2, r2⟩ := trodAll_cons r1
 obtain ⟨v3, vs3, d3, ds3, p3, q3, rfl, rfl, rfl, h3, r3⟩ := trodAll_cons r2
 obtain ⟨rfl, rfl, rfl⟩ := trodAll_nil r3
 obtain rfl : args = #[v0, v1, v2, v3] := by cases args; simp_all
 obtain ⟨rfl, rfl⟩ := trodVars_none hV
 have k0 := h0
 have lt0 : ∀ x ∈ p0, x.block < W.heap.size := by obtain ⟨m, hm⟩ := k0; exact DataW.trod_lt m _ _ _ hm
 obtain ⟨zs0, hlen0, hvr0⟩ := float_vr (hval 0 24 v0 rfl rfl) h0
 have k1 := h1
 have lt1 : ∀ x ∈ p1, x.block < W.heap.size := by obtain ⟨m, hm⟩ := k1; exact DataW.trod_lt m _ _ _ hm
 obtain ⟨zs1, hvr1⟩ := load_vr (hval 1 28 v1 rfl rfl) h1
 obtain ⟨a2, rfl, rfl, rfl, w2⟩ := open_int Try.underlying3 (hval 2 3 v2 rfl rfl) h2
 have k3 := h3
 have lt3 : ∀ x ∈ p3, x.block < W.heap.size := by obtain ⟨m, hm⟩ := k3; exact DataW.trod_lt m _ _ _ hm
 obtain ⟨a3, len3, cap3, rfl⟩ := okWide_slice Try.underlying29 (hval 3 29 v3 rfl rfl)
 obtain ⟨zs3, hwf3, hlen3, hvr3⟩ := ints_vr Try.underlying29 Try.underlying3 (by kernel_rfl) h3
 clear hA0 hval0
 refine ((hM zs0 hlen0 zs1 a2 w2 zs3 hwf3 hlen3).law (us := #[v0, v1, .int .i64 a2, .slice a3 len3 cap3]) ⟨rfl, fun i x u hx hu => ?_⟩).mono fun e W' ⟨he, bel⟩ => ?_
 ·match i with
  | 0 => simp at hx hu; subst hx; subst hu; exact hvr0
  | 1 => simp at hx hu; subst hx; subst hu; exact hvr1
  | 2 => simp at hx hu; subst hx; subst hu; exact .int _ _
  | 3 => simp at hx hu; subst hx; subst hu; exact hvr3
  | i + 4 => simp at hx
 subst he
 exact ⟨_, rfl, _, _, _, [], _, [], hW', trodAll_mk1 (shut_bool Try.underlying4 _), (trodAll_cons_mk (Below.trod prog_laid (by kernel_rfl) (of_decide_eq_true (by kernel_rfl)) k0 bel lt0) (trodAll_cons_mk (Below.trod prog_laid (by kernel_rfl) (of_decide_eq_true (by kernel_rfl)) k1 bel lt1) (trodAll_cons_mk (shut_int Try.underlying3 w2) (trodAll_cons_mk (Below.trod prog_laid (by kernel_rfl) (of_decide_eq_true (by kernel_rfl)) k3 bel lt3) trodAll_mk0)))), rfl, bel.frame _, fun h => by cases h⟩

theorem frame (hM : ∀ (x0 : T_Float), x0.Loads.length ≤ maxLen → ∀ (x1 : T_Load), ∀ (x2 : Int), (Lit.int .i64 x2).wf = true → ∀ (x3 : List Int), (∀ z ∈ x3, (Lit.int .i64 z).wf = true) → x3.length ≤ maxLen → Does Try.prog 3 [A_Float x0, A_Load x1, .int .i64 x2, nums x3] [] fun v _ => v = .bool true) : Rows.FloatCarriesSaid :=
 OpenClaim.holds_of_wide 3 Try.f3 rfl rfl rfl rfl rfl rfl rfl ⟨rfl, rfl, rfl, rfl, rfl⟩ rfl rfl rfl rfl rfl (by kernel_rfl) Try.func3 (by kernel_rfl)
  (of_decide_eq_true (by kernel_rfl)) (by unfold Func.isWrapper; first | (rw [if_pos (by decide +kernel)]; kernel_rfl) | (rw [if_neg (by decide +kernel)]; exact ⟨rfl, rfl⟩))
  (fun os started H enc _ => lifted hM os started H enc)
end floatCarries
end Go.Proofs.Ytdmfnhamipmmnaa
end
