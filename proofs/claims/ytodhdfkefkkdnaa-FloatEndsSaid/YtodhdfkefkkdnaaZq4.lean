/- Part 5 of what the law needs: own work, put together. -/
import Derived.Test.YtodhdfkefkkdnaaZq3
set_option linter.unusedVariables false
set_option linter.unusedSimpArgs false
set_option maxRecDepth 10000
set_option maxHeartbeats 4000000
section
namespace Go.Proofs.Ytodhdfkefkkdnaa
open Go.RowKit
attribute [local simp] ren ren1 AV.plain AV.plain1 AV.clean cleanL cleanI cleanBo cleanSt cleanII KL_bk_Drum KL_Span KL_Load KL_Float KL_br2_Truth KL_Hurdle A_bk_Drum C_bk_Drum A_Span C_Span A_Load C_Load A_Float C_Float A_br2_Truth C_br2_Truth A_Hurdle C_Hurdle back back1 List.idxOf? List.findIdx? List.findIdx?.go
def p_br2_Turns (N : Nat) (f_1 : T_Float) (h_2 : T_Hurdle) (radius_3 : Int) : Option (Bool) := ((some (IntKind.i64.wrap (2 * (if (IntKind.i64.wrap (f_1.Length - f_1.Rear)) > f_1.Rear then (IntKind.i64.wrap (f_1.Length - f_1.Rear)) else f_1.Rear)))).bind fun n_4 => (bif (decide (radius_3 ≥ f_1.Turn)) then (bif (decide ((IntKind.i64.wrap ((IntKind.i64.wrap (2 * radius_3)) - f_1.Width)) ≥ (IntKind.i64.wrap (2 * h_2.A)))) then ((some (IntKind.i64.wrap ((IntKind.i64.wrap ((IntKind.i64.wrap (2 * radius_3)) + f_1.Width)) * (IntKind.i64.wrap ((IntKind.i64.wrap (2 * radius_3)) + f_1.Width))))).bind fun n_7 => some (decide ((IntKind.i64.wrap (n_7 + (IntKind.i64.wrap (n_4 * n_4)))) ≤ (IntKind.i64.wrap ((IntKind.i64.wrap (4 * h_2.B)) * h_2.B))))) else some false) else some false))
def v_br2_Turns (r : Bool) : AV := .bool r
attribute [local simp] v_br2_Turns
theorem a_br2_Turns (f_1 : T_Float) (h_2 : T_Hurdle) (radius_3 : Int) : [(A_Float f_1), (A_Hurdle h_2), i6 radius_3].mapM (ren []) = some [(A_Float f_1), (A_Hurdle h_2), i6 radius_3] := by simp
theorem b_br2_Turns (r : Bool) (n n2 m : Nat) : back n n2 m (v_br2_Turns r) = some (v_br2_Turns r) := by simp
theorem d_br2_Turns (N : Nat) (f_1 : T_Float) (h_2 : T_Hurdle) (radius_3 : Int) (r : Bool) (h : p_br2_Turns N f_1 h_2 radius_3 = some r) : Does Try.prog 34 [(A_Float f_1), (A_Hurdle h_2), i6 radius_3] [] fun v c => v = v_br2_Turns r ∧ c = [] := by
 unfold p_br2_Turns at h
 refine Does.ofL comp34 _ _ rfl rfl ?_
 refine Ex.seq (rg 3 [2, 3, 4] (mkS 54 [(2, i6 radius_3), (3, .ptr 0 0), (4, .ptr 1 0)]) ⟨[(C_Float f_1), (C_Hurdle h_2)], []⟩ ?_)
 refine Ex.seq (rg 6 [2, 3, 4, 7] (mkS 54 [(2, i6 radius_3), (3, .ptr 0 0), (4, .ptr 1 0), (7, i6 (IntKind.i64.wrap ((IntKind.i64.wrap (2 * radius_3)) + f_1.Width)))]) ⟨[(C_Float f_1), (C_Hurdle h_2)], []⟩ ?_)
 refine Ex.seq ?_
 obtain ⟨n_4, hn_4, h⟩ := bE h
 refine regH 10 [(8, .eq (i6 n_4))] [2, 3, 4, 7, 8] [AV.int .i64 (IntKind.i64.wrap (2 * (if (IntKind.i64.wrap (f_1.Length - f_1.Rear)) > f_1.Rear then (IntKind.i64.wrap (f_1.Length - f_1.Rear)) else f_1.Rear))) = AV.int .i64 n_4] (mkS 54 [(2, i6 radius_3), (3, .ptr 0 0), (4, .ptr 1 0), (7, i6 (IntKind.i64.wrap ((IntKind.i64.wrap (2 * radius_3)) + f_1.Width))), (8, i6 n_4)]) (⟨[(C_Float f_1), (C_Hurdle h_2)], []⟩) (by kernel_rfl) ⟨congrArg (AV.int .i64) (Option.some.inj hn_4), trivial⟩ rfl ?_
 refine Ex.seq ?_
 rcases condI h with ⟨hc_5, h⟩ | ⟨hc_5, h⟩
 ·rcases condI h with ⟨hc_6, h⟩ | ⟨hc_6, h⟩
  ·obtain ⟨n_7, hn_7, h⟩ := bE h
   refine regH 32 [(4, .eq (.bool true)), (15, .eq (.bool true)), (18, .eq (i6 n_7))] [6] [AV.bool (decide (radius_3 ≥ f_1.Turn)) = AV.bool true, AV.bool (decide ((IntKind.i64.wrap ((IntKind.i64.wrap (2 * radius_3)) - f_1.Width)) ≥ (IntKind.i64.wrap (2 * h_2.A)))) = AV.bool true, AV.int .i64 (IntKind.i64.wrap ((IntKind.i64.wrap ((IntKind.i64.wrap (2 * radius_3)) + f_1.Width)) * (IntKind.i64.wrap ((IntKind.i64.wrap (2 * radius_3)) + f_1.Width)))) = AV.int .i64 n_7] (mkS 54 [(6, .bool (decide ((IntKind.i64.wrap (n_7 + (IntKind.i64.wrap (n_4 * n_4)))) ≤ (IntKind.i64.wrap ((IntKind.i64.wrap (4 * h_2.B)) * h_2.B)))))]) (⟨[(C_Float f_1), (C_Hurdle h_2)], []⟩) (by kernel_rfl) ⟨congrArg AV.bool hc_5, congrArg AV.bool hc_6, congrArg (AV.int .i64) (Option.some.inj hn_7), trivial⟩ rfl ?_
   refine Ex.ret ?_
   obtain rfl := sJ h
   exact rt (.bool (decide ((IntKind.i64.wrap (n_7 + (IntKind.i64.wrap (n_4 * n_4)))) ≤ (IntKind.i64.wrap ((IntKind.i64.wrap (4 * h_2.B)) * h_2.B)))))
  ·refine regH 32 [(4, .eq (.bool true)), (15, .eq (.bool false))] [6] [AV.bool (decide (radius_3 ≥ f_1.Turn)) = AV.bool true, AV.bool (decide ((IntKind.i64.wrap ((IntKind.i64.wrap (2 * radius_3)) - f_1.Width)) ≥ (IntKind.i64.wrap (2 * h_2.A)))) = AV.bool false] (mkS 54 [(6, .bool false)]) (⟨[(C_Float f_1), (C_Hurdle h_2)], []⟩) (by kernel_rfl) ⟨congrArg AV.bool hc_5, congrArg AV.bool hc_6, trivial⟩ rfl ?_
   refine Ex.ret ?_
   obtain rfl := sJ h
   exact rt (.bool false)
 ·refine regH 32 [(4, .eq (.bool false))] [6] [AV.bool (decide (radius_3 ≥ f_1.Turn)) = AV.bool false] (mkS 54 [(6, .bool false)]) (⟨[(C_Float f_1), (C_Hurdle h_2)], []⟩) (by kernel_rfl) ⟨congrArg AV.bool hc_5, trivial⟩ rfl ?_
  refine Ex.ret ?_
  obtain rfl := sJ h
  exact rt (.bool false)
def p_br2_Goes (N : Nat) (f_1 : T_Float) (h_2 : T_Hurdle) (t_3 : T_br2_Truth) : Option (Bool) := (bif (h_2.Kind == 1) then ((p_br2_Up N (IntKind.i64.wrap ((IntKind.i64.wrap (2 * h_2.A)) + f_1.Width)) 2).bind fun r_5 => ((p_br2_Turns N f_1 h_2 (if r_5 > f_1.Turn then r_5 else f_1.Turn)).bind fun r_7 => some r_7)) else (bif (h_2.Kind == 2) then ((p_br2_Tall N f_1 t_3).bind fun r_9 => some (decide (r_9 ≤ h_2.A))) else ((p_br2_Carries N f_1 t_3).bind fun r_11 => ((p_br2_Weighs N f_1 t_3).bind fun r_12 => (bif (decide (r_12 ≤ h_2.A)) then (bif (decide (r_11.1 ≤ (IntKind.i64.wrap (h_2.B * (IntKind.i64.wrap (f_1.Rear - f_1.Front)))))) then some (decide (r_11.2 ≤ (IntKind.i64.wrap (h_2.B * (IntKind.i64.wrap (f_1.Rear - f_1.Front)))))) else some false) else some false)))))
def v_br2_Goes (r : Bool) : AV := .bool r
attribute [local simp] v_br2_Goes
theorem a_br2_Goes (f_1 : T_Float) (h_2 : T_Hurdle) (t_3 : T_br2_Truth) : [(A_Float f_1), (A_Hurdle h_2), (A_br2_Truth t_3)].mapM (ren []) = some [(A_Float f_1), (A_Hurdle h_2), (A_br2_Truth t_3)] := by simp
theorem b_br2_Goes (r : Bool) (n n2 m : Nat) : back n n2 m (v_br2_Goes r) = some (v_br2_Goes r) := by simp
theorem d_br2_Goes (N : Nat) (f_1 : T_Float) (h_2 : T_Hurdle) (t_3 : T_br2_Truth) (r : Bool) (h : p_br2_Goes N f_1 h_2 t_3 = some r) : Does Try.prog 12 [(A_Float f_1), (A_Hurdle h_2), (A_br2_Truth t_3)] [] fun v c => v = v_br2_Goes r ∧ c = [] := by
 unfold p_br2_Goes at h
 refine Does.ofL comp12 _ _ rfl rfl ?_
 refine Ex.seq (rg 4 [3, 4, 5] (mkS 68 [(3, .ptr 0 0), (4, .ptr 1 0), (5, .ptr 2 0)]) ⟨[(C_Float f_1), (C_Hurdle h_2), (C_br2_Truth t_3)], []⟩ ?_)
 refine Ex.seq (Ex.seq ?_)
 refine rg 2 [3, 4, 5, 11] (mkS 68 [(3, .ptr 0 0), (4, .ptr 1 0), (5, .ptr 2 0), (11, i6 h_2.Kind)]) ⟨[(C_Float f_1), (C_Hurdle h_2), (C_br2_Truth t_3)], []⟩ ?_
 refine Ex.blockK ?_
 refine Ex.seq (rg 2 [3, 4, 5, 11, 12] (mkS 68 [(3, .ptr 0 0), (4, .ptr 1 0), (5, .ptr 2 0), (11, i6 h_2.Kind), (12, .bool (h_2.Kind == 1))]) ⟨[(C_Float f_1), (C_Hurdle h_2), (C_br2_Truth t_3)], []⟩ ?_)
 rcases condI h with ⟨hc_4, h⟩ | ⟨hc_4, h⟩
 ·refine Ex.condT _ rfl hc_4 ?_
  refine Ex.seq ?_
  obtain ⟨r_5, hr_5, h⟩ := bE h
  have hT_6 : DoesA Try.prog [⟨21, [i6 (IntKind.i64.wrap ((IntKind.i64.wrap (2 * h_2.A)) + f_1.Width)), i6 2], [], (v_br2_Up r_5), []⟩] ∧ ConsA [⟨21, [i6 (IntKind.i64.wrap ((IntKind.i64.wrap (2 * h_2.A)) + f_1.Width)), i6 2], [], (v_br2_Up r_5), []⟩] := ⟨⟨(d_br2_Up N (IntKind.i64.wrap ((IntKind.i64.wrap (2 * h_2.A)) + f_1.Width)) 2 r_5 hr_5), rfl, trivial⟩, ⟨trivial, trivial⟩⟩
  refine Ex.drawE (a1 := mkS 68 [(3, .ptr 0 0), (4, .ptr 1 0), (5, .ptr 2 0), (11, i6 h_2.Kind), (12, .bool (h_2.Kind == 1)), (14, (A_Float f_1)), (15, (A_Hurdle h_2)), (16, .ptr 0 4), (17, i6 f_1.Turn), (18, .ptr 1 1), (19, i6 h_2.A), (20, i6 (IntKind.i64.wrap (2 * h_2.A))), (21, .ptr 0 1), (22, i6 f_1.Width), (23, i6 (IntKind.i64.wrap ((IntKind.i64.wrap (2 * h_2.A)) + f_1.Width))), (24, i6 r_5), (25, i6 (if r_5 > f_1.Turn then r_5 else f_1.Turn))]) (tabO_ok hT_6.1) [] [] [] ?_ ?_
  ·refine drS [0, 1, 2] 10 [] [] (mkS 68 [(3, .ptr 0 0), (4, .ptr 1 0), (5, .ptr 2 0), (11, i6 h_2.Kind), (12, .bool (h_2.Kind == 1)), (14, (A_Float f_1)), (15, (A_Hurdle h_2)), (16, .ptr 0 4), (17, i6 f_1.Turn), (18, .ptr 1 1), (19, i6 h_2.A), (20, i6 (IntKind.i64.wrap (2 * h_2.A))), (21, .ptr 0 1), (22, i6 f_1.Width), (23, i6 (IntKind.i64.wrap ((IntKind.i64.wrap (2 * h_2.A)) + f_1.Width)))]) (by simp) (by kernel_rfl) trivial (by kernel_rfl) ?_
   refine drC hT_6.2 0 _ [i6 (IntKind.i64.wrap ((IntKind.i64.wrap (2 * h_2.A)) + f_1.Width)), i6 2] (v_br2_Up r_5) rfl rfl rfl rfl rfl (fun _ => rfl) rfl (by simp; try rfl) (fun _ => b_br2_Up _ _ _ _) ?_
   refine drS [0, 1, 2] 1 [] [] (mkS 68 [(3, .ptr 0 0), (4, .ptr 1 0), (5, .ptr 2 0), (11, i6 h_2.Kind), (12, .bool (h_2.Kind == 1)), (14, (A_Float f_1)), (15, (A_Hurdle h_2)), (16, .ptr 0 4), (17, i6 f_1.Turn), (18, .ptr 1 1), (19, i6 h_2.A), (20, i6 (IntKind.i64.wrap (2 * h_2.A))), (21, .ptr 0 1), (22, i6 f_1.Width), (23, i6 (IntKind.i64.wrap ((IntKind.i64.wrap (2 * h_2.A)) + f_1.Width))), (24, i6 r_5), (25, i6 (if r_5 > f_1.Turn then r_5 else f_1.Turn))]) (by simp) (by kernel_rfl) trivial (by kernel_rfl) ?_
   exact DrO.nil rfl
  ·dsimp only [List.getLastD_cons, List.getLastD_nil]
   obtain ⟨r_7, hr_7, h⟩ := bE h
   refine ExO.callL [] [(A_Float f_1), (A_Hurdle h_2), i6 (if r_5 > f_1.Turn then r_5 else f_1.Turn)] rfl rfl (a_br2_Turns f_1 h_2 (if r_5 > f_1.Turn then r_5 else f_1.Turn)) rfl rfl (d_br2_Turns N f_1 h_2 (if r_5 > f_1.Turn then r_5 else f_1.Turn) r_7 hr_7) (b_br2_Turns _ _ _ _) rfl ?_
   refine rn 1 [6] (mkS 68 [(6, .bool r_7)]) ⟨[(C_Float f_1), (C_Hurdle h_2), (C_br2_Truth t_3)], []⟩ ?_
   refine ExO.nil ?_
   refine Ex.ret ?_
   obtain rfl := sJ h
   exact rt (.bool r_7)
 ·refine Ex.condF _ rfl hc_4 ?_
  refine Ex.seq (rg 2 [3, 4, 5, 27] (mkS 68 [(3, .ptr 0 0), (4, .ptr 1 0), (5, .ptr 2 0), (27, .bool (h_2.Kind == 2))]) ⟨[(C_Float f_1), (C_Hurdle h_2), (C_br2_Truth t_3)], []⟩ ?_)
  rcases condI h with ⟨hc_8, h⟩ | ⟨hc_8, h⟩
  ·refine Ex.condT _ rfl hc_8 ?_
   refine Ex.seq ?_
   obtain ⟨r_9, hr_9, h⟩ := bE h
   have hT_10 : DoesA Try.prog [⟨11, [(A_Float f_1), (A_br2_Truth t_3)], [], (v_br2_Tall r_9), []⟩] ∧ ConsA [⟨11, [(A_Float f_1), (A_br2_Truth t_3)], [], (v_br2_Tall r_9), []⟩] := ⟨⟨(d_br2_Tall N f_1 t_3 r_9 hr_9), rfl, trivial⟩, ⟨trivial, trivial⟩⟩
   refine Ex.drawE (a1 := mkS 68 [(3, .ptr 0 0), (4, .ptr 1 0), (5, .ptr 2 0), (27, .bool (h_2.Kind == 2)), (29, (A_Float f_1)), (30, (A_br2_Truth t_3)), (31, i6 r_9), (32, .ptr 1 1), (33, i6 h_2.A)]) (tabO_ok hT_10.1) [] [] [] ?_ ?_
   ·refine drS [0, 1, 2] 2 [] [] (mkS 68 [(3, .ptr 0 0), (4, .ptr 1 0), (5, .ptr 2 0), (27, .bool (h_2.Kind == 2)), (29, (A_Float f_1)), (30, (A_br2_Truth t_3))]) (by simp) (by kernel_rfl) trivial (by kernel_rfl) ?_
    refine drC hT_10.2 0 _ [(A_Float f_1), (A_br2_Truth t_3)] (v_br2_Tall r_9) rfl rfl rfl rfl rfl (fun _ => rfl) rfl (by simp; try rfl) (fun _ => b_br2_Tall _ _ _ _) ?_
    refine drS [0, 1, 2] 2 [] [] (mkS 68 [(3, .ptr 0 0), (4, .ptr 1 0), (5, .ptr 2 0), (27, .bool (h_2.Kind == 2)), (29, (A_Float f_1)), (30, (A_br2_Truth t_3)), (31, i6 r_9), (32, .ptr 1 1), (33, i6 h_2.A)]) (by simp) (by kernel_rfl) trivial (by kernel_rfl) ?_
    exact DrO.nil rfl
   ·dsimp only [List.getLastD_cons, List.getLastD_nil]
    refine rn 2 [6] (mkS 68 [(6, .bool (decide (r_9 ≤ h_2.A)))]) ⟨[(C_Float f_1), (C_Hurdle h_2), (C_br2_Truth t_3)], []⟩ ?_
    refine ExO.nil ?_
    refine Ex.ret ?_
    obtain rfl := sJ h
    exact rt (.bool (decide (r_9 ≤ h_2.A)))
  ·refine Ex.condF _ rfl hc_8 ?_
   refine Ex.skip ?_
   refine Ex.seq ?_
   obtain ⟨r_11, hr_11, h⟩ := bE h
   refine Ex.reg (rn 2 [3, 4, 5, 36, 37] (mkS 68 [(3, .ptr 0 0), (4, .ptr 1 0), (5, .ptr 2 0), (36, (A_Float f_1)), (37, (A_br2_Truth t_3))]) ⟨[(C_Float f_1), (C_Hurdle h_2), (C_br2_Truth t_3)], []⟩ ?_)
   refine ExO.callL [] [(A_Float f_1), (A_br2_Truth t_3)] rfl rfl (a_br2_Carries f_1 t_3) rfl rfl (d_br2_Carries N f_1 t_3 r_11 hr_11) (b_br2_Carries _ _ _ _) rfl ?_
   refine rn 5 [3, 4, 5, 7, 8] (mkS 68 [(3, .ptr 0 0), (4, .ptr 1 0), (5, .ptr 2 0), (7, i6 r_11.1), (8, i6 r_11.2)]) ⟨[(C_Float f_1), (C_Hurdle h_2), (C_br2_Truth t_3)], []⟩ ?_
   refine ExO.nil ?_
   refine Ex.seq (rg 6 [3, 4, 5, 7, 8, 9] (mkS 68 [(3, .ptr 0 0), (4, .ptr 1 0), (5, .ptr 2 0), (7, i6 r_11.1), (8, i6 r_11.2), (9, i6 (IntKind.i64.wrap (f_1.Rear - f_1.Front)))]) ⟨[(C_Float f_1), (C_Hurdle h_2), (C_br2_Truth t_3)], []⟩ ?_)
   refine Ex.seq ?_
   obtain ⟨r_12, hr_12, h⟩ := bE h
   rcases condI h with ⟨hc_13, h⟩ | ⟨hc_13, h⟩
   ·rcases condI h with ⟨hc_14, h⟩ | ⟨hc_14, h⟩
    ·have hT_15 : DoesA Try.prog [⟨10, [(A_Float f_1), (A_br2_Truth t_3)], [], (v_br2_Weighs r_12), []⟩] ∧ ConsA [⟨10, [(A_Float f_1), (A_br2_Truth t_3)], [], (v_br2_Weighs r_12), []⟩] := ⟨⟨(d_br2_Weighs N f_1 t_3 r_12 hr_12), rfl, trivial⟩, ⟨trivial, trivial⟩⟩
     refine Ex.drawE (a1 := mkS 68 [(3, .ptr 0 0), (4, .ptr 1 0), (5, .ptr 2 0), (7, i6 r_11.1), (8, i6 r_11.2), (9, i6 (IntKind.i64.wrap (f_1.Rear - f_1.Front))), (46, (A_Float f_1)), (47, (A_br2_Truth t_3)), (48, i6 r_12), (49, .ptr 1 1), (50, i6 h_2.A), (51, .bool (decide (r_12 ≤ h_2.A))), (52, .bool true), (53, i6 r_11.1), (54, .ptr 1 2), (55, i6 h_2.B), (56, i6 (IntKind.i64.wrap (f_1.Rear - f_1.Front))), (57, i6 (IntKind.i64.wrap (h_2.B * (IntKind.i64.wrap (f_1.Rear - f_1.Front))))), (58, .bool (decide (r_11.1 ≤ (IntKind.i64.wrap (h_2.B * (IntKind.i64.wrap (f_1.Rear - f_1.Front))))))), (59, .bool (decide (r_11.1 ≤ (IntKind.i64.wrap (h_2.B * (IntKind.i64.wrap (f_1.Rear - f_1.Front))))))), (60, .bool true), (61, i6 r_11.2), (62, .ptr 1 2), (63, i6 h_2.B), (64, i6 (IntKind.i64.wrap (f_1.Rear - f_1.Front))), (65, i6 (IntKind.i64.wrap (h_2.B * (IntKind.i64.wrap (f_1.Rear - f_1.Front)))))]) (tabO_ok hT_15.1) [] [] [] ?_ ?_
     ·refine drS [0, 1, 2] 2 [] [] (mkS 68 [(3, .ptr 0 0), (4, .ptr 1 0), (5, .ptr 2 0), (7, i6 r_11.1), (8, i6 r_11.2), (9, i6 (IntKind.i64.wrap (f_1.Rear - f_1.Front))), (46, (A_Float f_1)), (47, (A_br2_Truth t_3))]) (by simp) (by kernel_rfl) trivial (by kernel_rfl) ?_
      refine drC hT_15.2 0 _ [(A_Float f_1), (A_br2_Truth t_3)] (v_br2_Weighs r_12) rfl rfl rfl rfl rfl (fun _ => rfl) rfl (by simp; try rfl) (fun _ => b_br2_Weighs _ _ _ _) ?_
      refine drS [0, 1, 2] 17 [(3, .eq (.bool true)), (11, .eq (.bool true))] [AV.bool (decide (r_12 ≤ h_2.A)) = AV.bool true, AV.bool (decide (r_11.1 ≤ (IntKind.i64.wrap (h_2.B * (IntKind.i64.wrap (f_1.Rear - f_1.Front)))))) = AV.bool true] (mkS 68 [(3, .ptr 0 0), (4, .ptr 1 0), (5, .ptr 2 0), (7, i6 r_11.1), (8, i6 r_11.2), (9, i6 (IntKind.i64.wrap (f_1.Rear - f_1.Front))), (46, (A_Float f_1)), (47, (A_br2_Truth t_3)), (48, i6 r_12), (49, .ptr 1 1), (50, i6 h_2.A), (51, .bool (decide (r_12 ≤ h_2.A))), (52, .bool true), (53, i6 r_11.1), (54, .ptr 1 2), (55, i6 h_2.B), (56, i6 (IntKind.i64.wrap (f_1.Rear - f_1.Front))), (57, i6 (IntKind.i64.wrap (h_2.B * (IntKind.i64.wrap (f_1.Rear - f_1.Front))))), (58, .bool (decide (r_11.1 ≤ (IntKind.i64.wrap (h_2.B * (IntKind.i64.wrap (f_1.Rear - f_1.Front))))))), (59, .bool (decide (r_11.1 ≤ (IntKind.i64.wrap (h_2.B * (IntKind.i64.wrap (f_1.Rear - f_1.Front))))))), (60, .bool true), (61, i6 r_11.2), (62, .ptr 1 2), (63, i6 h_2.B), (64, i6 (IntKind.i64.wrap (f_1.Rear - f_1.Front))), (65, i6 (IntKind.i64.wrap (h_2.B * (IntKind.i64.wrap (f_1.Rear - f_1.Front)))))]) (by simp) (by kernel_rfl) ⟨congrArg AV.bool hc_13, congrArg AV.bool hc_14, trivial⟩ (by kernel_rfl) ?_
      exact DrO.nil rfl
     ·dsimp only [List.getLastD_cons, List.getLastD_nil]
      refine rn 3 [6] (mkS 68 [(6, .bool (decide (r_11.2 ≤ (IntKind.i64.wrap (h_2.B * (IntKind.i64.wrap (f_1.Rear - f_1.Front)))))))]) ⟨[(C_Float f_1), (C_Hurdle h_2), (C_br2_Truth t_3)], []⟩ ?_
      refine ExO.nil ?_
      refine Ex.ret ?_
      obtain rfl := sJ h
      exact rt (.bool (decide (r_11.2 ≤ (IntKind.i64.wrap (h_2.B * (IntKind.i64.wrap (f_1.Rear - f_1.Front)))))))
    ·have hT_17 : DoesA Try.prog [⟨10, [(A_Float f_1), (A_br2_Truth t_3)], [], (v_br2_Weighs r_12), []⟩] ∧ ConsA [⟨10, [(A_Float f_1), (A_br2_Truth t_3)], [], (v_br2_Weighs r_12), []⟩] := ⟨⟨(d_br2_Weighs N f_1 t_3 r_12 hr_12), rfl, trivial⟩, ⟨trivial, trivial⟩⟩
     obtain ⟨X_16, hX_16, hcl_18⟩ : ∃ X : Clr, ClrOk Try.prog X ∧ X 10 [(A_Float f_1), (A_br2_Truth t_3)] ⟨[(C_Float f_1), (C_Hurdle h_2), (C_br2_Truth t_3)], []⟩ = some (v_br2_Weighs r_12, none) := ⟨_, tabO_ok hT_17.1, tabO_pure hT_17.2 0 _ [(A_Float f_1), (A_br2_Truth t_3)] _ rfl rfl rfl rfl (by simp; try rfl) (fun _ => b_br2_Weighs _ _ _ _)⟩
     refine dregX hX_16 [(2, .cl (v_br2_Weighs r_12)), (6, .eq (.bool true)), (14, .eq (.bool false))] [] [6] [X_16 10 [(A_Float f_1), (A_br2_Truth t_3)] ⟨[(C_Float f_1), (C_Hurdle h_2), (C_br2_Truth t_3)], []⟩ = some (v_br2_Weighs r_12, none), AV.bool (decide (r_12 ≤ h_2.A)) = AV.bool true, AV.bool (decide (r_11.1 ≤ (IntKind.i64.wrap (h_2.B * (IntKind.i64.wrap (f_1.Rear - f_1.Front)))))) = AV.bool false] [] (mkS 68 [(3, .ptr 0 0), (4, .ptr 1 0), (5, .ptr 2 0), (7, i6 r_11.1), (8, i6 r_11.2), (9, i6 (IntKind.i64.wrap (f_1.Rear - f_1.Front))), (46, (A_Float f_1)), (47, (A_br2_Truth t_3)), (48, i6 r_12), (49, .ptr 1 1), (50, i6 h_2.A), (51, .bool (decide (r_12 ≤ h_2.A))), (52, .bool true), (53, i6 r_11.1), (54, .ptr 1 2), (55, i6 h_2.B), (56, i6 (IntKind.i64.wrap (f_1.Rear - f_1.Front))), (57, i6 (IntKind.i64.wrap (h_2.B * (IntKind.i64.wrap (f_1.Rear - f_1.Front))))), (58, .bool (decide (r_11.1 ≤ (IntKind.i64.wrap (h_2.B * (IntKind.i64.wrap (f_1.Rear - f_1.Front))))))), (59, .bool (decide (r_11.1 ≤ (IntKind.i64.wrap (h_2.B * (IntKind.i64.wrap (f_1.Rear - f_1.Front))))))), (60, .bool false), (61, .tup []), (62, .tup []), (63, .tup []), (64, .tup []), (65, .tup [])]) (mkS 68 [(6, .bool false)]) (by kernel_rfl) (by kernel_rfl) ⟨hcl_18, congrArg AV.bool hc_13, congrArg AV.bool hc_14, trivial⟩ (by kernel_rfl) trivial ?_
     refine Ex.ret ?_
     obtain rfl := sJ h
     exact rt (.bool false)
   ·have hT_20 : DoesA Try.prog [⟨10, [(A_Float f_1), (A_br2_Truth t_3)], [], (v_br2_Weighs r_12), []⟩] ∧ ConsA [⟨10, [(A_Float f_1), (A_br2_Truth t_3)], [], (v_br2_Weighs r_12), []⟩] := ⟨⟨(d_br2_Weighs N f_1 t_3 r_12 hr_12), rfl, trivial⟩, ⟨trivial, trivial⟩⟩
    obtain ⟨X_19, hX_19, hcl_21⟩ : ∃ X : Clr, ClrOk Try.prog X ∧ X 10 [(A_Float f_1), (A_br2_Truth t_3)] ⟨[(C_Float f_1), (C_Hurdle h_2), (C_br2_Truth t_3)], []⟩ = some (v_br2_Weighs r_12, none) := ⟨_, tabO_ok hT_20.1, tabO_pure hT_20.2 0 _ [(A_Float f_1), (A_br2_Truth t_3)] _ rfl rfl rfl rfl (by simp; try rfl) (fun _ => b_br2_Weighs _ _ _ _)⟩
    refine dregX hX_19 [(2, .cl (v_br2_Weighs r_12)), (6, .eq (.bool false))] [] [6] [X_19 10 [(A_Float f_1), (A_br2_Truth t_3)] ⟨[(C_Float f_1), (C_Hurdle h_2), (C_br2_Truth t_3)], []⟩ = some (v_br2_Weighs r_12, none), AV.bool (decide (r_12 ≤ h_2.A)) = AV.bool false] [] (mkS 68 [(3, .ptr 0 0), (4, .ptr 1 0), (5, .ptr 2 0), (7, i6 r_11.1), (8, i6 r_11.2), (9, i6 (IntKind.i64.wrap (f_1.Rear - f_1.Front))), (46, (A_Float f_1)), (47, (A_br2_Truth t_3)), (48, i6 r_12), (49, .ptr 1 1), (50, i6 h_2.A), (51, .bool (decide (r_12 ≤ h_2.A))), (52, .bool false), (53, .tup []), (54, .tup []), (55, .tup []), (56, .tup []), (57, .tup []), (58, .tup []), (59, .bool false), (60, .bool false), (61, .tup []), (62, .tup []), (63, .tup []), (64, .tup []), (65, .tup [])]) (mkS 68 [(6, .bool false)]) (by kernel_rfl) (by kernel_rfl) ⟨hcl_21, congrArg AV.bool hc_13, trivial⟩ (by kernel_rfl) trivial ?_
    refine Ex.ret ?_
    obtain rfl := sJ h
    exact rt (.bool false)
end Go.Proofs.Ytodhdfkefkkdnaa
end
