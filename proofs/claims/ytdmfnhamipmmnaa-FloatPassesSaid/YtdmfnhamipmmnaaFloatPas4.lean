/- Part 5 of what the law needs: own work, put together. -/
import Derived.Test.YtdmfnhamipmmnaaFloatPas3
section
namespace Go.Proofs.Ytdmfnhamipmmnaa
open Go.RowKit
set_option linter.unusedVariables false
set_option linter.unusedSimpArgs false
set_option maxRecDepth 10000
set_option maxHeartbeats 4000000
attribute [local simp] ren ren1 AV.plain AV.plain1 AV.clean cleanL cleanI cleanBo cleanSt cleanII KL_bk_Drum KL_Span KL_Load KL_Float KL_br2_Truth KL_Hurdle A_bk_Drum C_bk_Drum A_Span C_Span A_Load C_Load A_Float C_Float A_br2_Truth C_br2_Truth A_Hurdle C_Hurdle back back1 re re1 List.idxOf? List.findIdx? List.findIdx?.go KB_bk_Drum KB_Span KB_Load KB_Float KB_br2_Truth KB_Hurdle
def p_br2_checkHurdle (N : Nat) (h_1 : T_Hurdle) : Option (Int) := (bif (h_1.Kind == 1) then (letJ (fun (y_3 : Bool) => (bif y_3 then some 2 else (bif (decide (h_1.A ≥ h_1.B)) then some 9 else some 0))) (fun k_4 => ((p_br2_within N h_1.A 0 20000).bind fun r_7 => (bif (!r_7) then (k_4 true) else ((p_br2_within N h_1.B 0 20000).bind fun r_9 => (k_4 (!r_9))))))) else (bif (h_1.Kind == 2) then ((p_br2_within N h_1.A 0 2000).bind fun r_13 => (bif (!r_13) then some 2 else (bif (h_1.B != 0) then some 1 else some 0))) else (bif (h_1.Kind == 3) then (letJ (fun (y_17 : Bool) => (bif y_17 then some 2 else some 0)) (fun k_18 => ((p_br2_within N h_1.A 0 10000000).bind fun r_21 => (bif (!r_21) then (k_18 true) else ((p_br2_within N h_1.B 0 10000000).bind fun r_23 => (k_18 (!r_23))))))) else some 3)))
def v_br2_checkHurdle (r : Int) : AV := i6 r
attribute [local simp] v_br2_checkHurdle
theorem a_br2_checkHurdle (h_1 : T_Hurdle) : [(A_Hurdle h_1)].mapM (ren []) = some [(A_Hurdle h_1)] := by simp
theorem b_br2_checkHurdle (r : Int) (n n2 m : Nat) : back n n2 m (v_br2_checkHurdle r) = some (v_br2_checkHurdle r) := by simp
theorem d_br2_checkHurdle (N : Nat) (h_1 : T_Hurdle) (r : Int) (h : p_br2_checkHurdle N h_1 = some r) : Does Try.prog 85 [(A_Hurdle h_1)] [] fun v c => v = v_br2_checkHurdle r ∧ c = [] := by
 unfold p_br2_checkHurdle at h
 refine Does.ofL comp85 _ _ rfl rfl ?_
 refine Ex.seq (rg 2 [1] (mkS 43 [(1, .ptr 0 0)]) ⟨[(C_Hurdle h_1)], []⟩ ?_)
 refine Ex.seq (Ex.seq ?_)
 refine rg 2 [1, 4] (mkS 43 [(1, .ptr 0 0), (4, i6 h_1.Kind)]) ⟨[(C_Hurdle h_1)], []⟩ ?_
 refine Ex.blockK ?_
 refine Ex.seq (rg 2 [1, 4, 5] (mkS 43 [(1, .ptr 0 0), (4, i6 h_1.Kind), (5, .bool (h_1.Kind == 1))]) ⟨[(C_Hurdle h_1)], []⟩ ?_)
 rcases condI h with ⟨hc_2, h⟩ | ⟨hc_2, h⟩
 ·refine Ex.condT _ rfl hc_2 ?_
  refine Ex.seq ?_
  obtain ⟨K_5, hK_6, h⟩ := letE h
  refine Ex.seqJ (fun a S => ∃ (y_3 : Bool), K_5 y_3 = some r ∧ a = mkS 43 [(1, .ptr 0 0), (16, .bool y_3)] ∧ S = ⟨[(C_Hurdle h_1)], []⟩) ?_ ?_
  ·obtain ⟨r_7, hr_7, h⟩ := bE h
   refine Ex.reg (rn 2 [1, 8] (mkS 43 [(1, .ptr 0 0), (8, i6 h_1.A)]) ⟨[(C_Hurdle h_1)], []⟩ ?_)
   refine ExO.callL [] [i6 h_1.A, i6 0, i6 20000] rfl rfl (a_br2_within h_1.A 0 20000) rfl rfl (d_br2_within N h_1.A 0 20000 r_7 hr_7) (b_br2_within _ _ _ _) rfl ?_
   rcases condI h with ⟨hc_8, h⟩ | ⟨hc_8, h⟩
   ·refine runH 7 [(1, .eq (.bool true))] [1, 16] [AV.bool (!r_7) = AV.bool true] (mkS 43 [(1, .ptr 0 0), (16, .bool true)]) (⟨[(C_Hurdle h_1)], []⟩) (by kernel_rfl) ⟨congrArg AV.bool hc_8, trivial⟩ ?_
    refine ExO.nil ?_
    (try simp only [reduceCtorEq, AEx.ex.injEq, Nat.reduceEqDiff, if_true, if_false])
    exact ⟨_, _, Forgets.refl _ _ _, true, h, rfl, rfl⟩
   ·obtain ⟨r_9, hr_9, h⟩ := bE h
    refine runH 4 [(1, .eq (.bool false))] [1, 11, 13] [AV.bool (!r_7) = AV.bool false] (mkS 43 [(1, .ptr 0 0), (11, .bool false), (13, i6 h_1.B)]) (⟨[(C_Hurdle h_1)], []⟩) (by kernel_rfl) ⟨congrArg AV.bool hc_8, trivial⟩ ?_
    refine ExO.callL [] [i6 h_1.B, i6 0, i6 20000] rfl rfl (a_br2_within h_1.B 0 20000) rfl rfl (d_br2_within N h_1.B 0 20000 r_9 hr_9) (b_br2_within _ _ _ _) rfl ?_
    refine rn 2 [1, 16] (mkS 43 [(1, .ptr 0 0), (16, .bool (!r_9))]) ⟨[(C_Hurdle h_1)], []⟩ ?_
    refine ExO.nil ?_
    (try simp only [reduceCtorEq, AEx.ex.injEq, Nat.reduceEqDiff, if_true, if_false])
    exact ⟨_, _, Forgets.refl _ _ _, (!r_9), h, rfl, rfl⟩
  ·rintro a S ⟨y_3, h, rfl, rfl⟩
   subst hK_6
   rcases condI h with ⟨hc_10, h⟩ | ⟨hc_10, h⟩
   ·refine Ex.condT _ rfl hc_10 ?_
    refine Ex.seq (rg 1 [2] (mkS 43 [(2, i6 2)]) ⟨[(C_Hurdle h_1)], []⟩ ?_)
    refine Ex.ret ?_
    obtain rfl := sJ h
    exact rt (i6 2)
   ·refine Ex.condF _ rfl hc_10 ?_
    refine Ex.skip ?_
    refine Ex.seq (Ex.seq ?_)
    refine rg 5 [21] (mkS 43 [(21, .bool (decide (h_1.A ≥ h_1.B)))]) ⟨[(C_Hurdle h_1)], []⟩ ?_
    rcases condI h with ⟨hc_11, h⟩ | ⟨hc_11, h⟩
    ·refine Ex.condT _ rfl hc_11 ?_
     refine Ex.seq (rg 1 [2] (mkS 43 [(2, i6 9)]) ⟨[(C_Hurdle h_1)], []⟩ ?_)
     refine Ex.ret ?_
     obtain rfl := sJ h
     exact rt (i6 9)
    ·refine Ex.condF _ rfl hc_11 ?_
     refine Ex.skip ?_
     refine Ex.seq (rg 1 [2] (mkS 43 [(2, i6 0)]) ⟨[(C_Hurdle h_1)], []⟩ ?_)
     refine Ex.ret ?_
     obtain rfl := sJ h
     exact rt (i6 0)
 ·refine Ex.condF _ rfl hc_2 ?_
  refine Ex.seq (rg 2 [1, 4, 22] (mkS 43 [(1, .ptr 0 0), (4, i6 h_1.Kind), (22, .bool (h_1.Kind == 2))]) ⟨[(C_Hurdle h_1)], []⟩ ?_)
  rcases condI h with ⟨hc_12, h⟩ | ⟨hc_12, h⟩
  ·refine Ex.condT _ rfl hc_12 ?_
   refine Ex.seq (Ex.seq ?_)
   obtain ⟨r_13, hr_13, h⟩ := bE h
   refine Ex.reg (rn 2 [1, 25] (mkS 43 [(1, .ptr 0 0), (25, i6 h_1.A)]) ⟨[(C_Hurdle h_1)], []⟩ ?_)
   refine ExO.callL [] [i6 h_1.A, i6 0, i6 2000] rfl rfl (a_br2_within h_1.A 0 2000) rfl rfl (d_br2_within N h_1.A 0 2000 r_13 hr_13) (b_br2_within _ _ _ _) rfl ?_
   refine rn 1 [1, 27] (mkS 43 [(1, .ptr 0 0), (27, .bool (!r_13))]) ⟨[(C_Hurdle h_1)], []⟩ ?_
   refine ExO.nil ?_
   rcases condI h with ⟨hc_14, h⟩ | ⟨hc_14, h⟩
   ·refine Ex.condT _ rfl hc_14 ?_
    refine Ex.seq (rg 1 [2] (mkS 43 [(2, i6 2)]) ⟨[(C_Hurdle h_1)], []⟩ ?_)
    refine Ex.ret ?_
    obtain rfl := sJ h
    exact rt (i6 2)
   ·refine Ex.condF _ rfl hc_14 ?_
    refine Ex.skip ?_
    refine Ex.seq (Ex.seq ?_)
    refine rg 3 [30] (mkS 43 [(30, .bool (h_1.B != 0))]) ⟨[(C_Hurdle h_1)], []⟩ ?_
    rcases condI h with ⟨hc_15, h⟩ | ⟨hc_15, h⟩
    ·refine Ex.condT _ rfl hc_15 ?_
     refine Ex.seq (rg 1 [2] (mkS 43 [(2, i6 1)]) ⟨[(C_Hurdle h_1)], []⟩ ?_)
     refine Ex.ret ?_
     obtain rfl := sJ h
     exact rt (i6 1)
    ·refine Ex.condF _ rfl hc_15 ?_
     refine Ex.skip ?_
     refine Ex.seq (rg 1 [2] (mkS 43 [(2, i6 0)]) ⟨[(C_Hurdle h_1)], []⟩ ?_)
     refine Ex.ret ?_
     obtain rfl := sJ h
     exact rt (i6 0)
  ·refine Ex.condF _ rfl hc_12 ?_
   refine Ex.seq (rg 2 [1, 31] (mkS 43 [(1, .ptr 0 0), (31, .bool (h_1.Kind == 3))]) ⟨[(C_Hurdle h_1)], []⟩ ?_)
   rcases condI h with ⟨hc_16, h⟩ | ⟨hc_16, h⟩
   ·refine Ex.condT _ rfl hc_16 ?_
    refine Ex.seq ?_
    obtain ⟨K_19, hK_20, h⟩ := letE h
    refine Ex.seqJ (fun a S => ∃ (y_17 : Bool), K_19 y_17 = some r ∧ a = mkS 43 [(42, .bool y_17)] ∧ S = ⟨[], []⟩) ?_ ?_
    ·obtain ⟨r_21, hr_21, h⟩ := bE h
     refine Ex.reg (rn 2 [1, 34] (mkS 43 [(1, .ptr 0 0), (34, i6 h_1.A)]) ⟨[(C_Hurdle h_1)], []⟩ ?_)
     refine ExO.callL [] [i6 h_1.A, i6 0, i6 10000000] rfl rfl (a_br2_within h_1.A 0 10000000) rfl rfl (d_br2_within N h_1.A 0 10000000 r_21 hr_21) (b_br2_within _ _ _ _) rfl ?_
     rcases condI h with ⟨hc_22, h⟩ | ⟨hc_22, h⟩
     ·refine runH 7 [(1, .eq (.bool true))] [42] [AV.bool (!r_21) = AV.bool true] (mkS 43 [(42, .bool true)]) (⟨[(C_Hurdle h_1)], []⟩) (by kernel_rfl) ⟨congrArg AV.bool hc_22, trivial⟩ ?_
      refine ExO.nil ?_
      (try simp only [reduceCtorEq, AEx.ex.injEq, Nat.reduceEqDiff, if_true, if_false])
      exact ⟨_, _, forgetA (m := 43) 0 [] [(42, .bool true)] [] [] (by simp) (by simp) ⟨rfl, trivial⟩ (by simp) rfl (by decide), true, h, rfl, rfl⟩
     ·obtain ⟨r_23, hr_23, h⟩ := bE h
      refine runH 4 [(1, .eq (.bool false))] [37, 39] [AV.bool (!r_21) = AV.bool false] (mkS 43 [(37, .bool false), (39, i6 h_1.B)]) (⟨[(C_Hurdle h_1)], []⟩) (by kernel_rfl) ⟨congrArg AV.bool hc_22, trivial⟩ ?_
      refine ExO.callL [] [i6 h_1.B, i6 0, i6 10000000] rfl rfl (a_br2_within h_1.B 0 10000000) rfl rfl (d_br2_within N h_1.B 0 10000000 r_23 hr_23) (b_br2_within _ _ _ _) rfl ?_
      refine rn 2 [42] (mkS 43 [(42, .bool (!r_23))]) ⟨[(C_Hurdle h_1)], []⟩ ?_
      refine ExO.nil ?_
      (try simp only [reduceCtorEq, AEx.ex.injEq, Nat.reduceEqDiff, if_true, if_false])
      exact ⟨_, _, forgetA (m := 43) 0 [] [(42, .bool (!r_23))] [] [] (by simp) (by simp) ⟨rfl, trivial⟩ (by simp) rfl (by decide), (!r_23), h, rfl, rfl⟩
    ·rintro a S ⟨y_17, h, rfl, rfl⟩
     subst hK_20
     rcases condI h with ⟨hc_24, h⟩ | ⟨hc_24, h⟩
     ·refine Ex.condT _ rfl hc_24 ?_
      refine Ex.seq (rg 1 [2] (mkS 43 [(2, i6 2)]) ⟨[], []⟩ ?_)
      refine Ex.ret ?_
      obtain rfl := sJ h
      exact rt (i6 2)
     ·refine Ex.condF _ rfl hc_24 ?_
      refine Ex.skip ?_
      refine Ex.seq (rg 1 [2] (mkS 43 [(2, i6 0)]) ⟨[], []⟩ ?_)
      refine Ex.ret ?_
      obtain rfl := sJ h
      exact rt (i6 0)
   ·refine Ex.condF _ rfl hc_16 ?_
    refine Ex.skip ?_
    refine Ex.seq (rg 1 [2] (mkS 43 [(2, i6 3)]) ⟨[(C_Hurdle h_1)], []⟩ ?_)
    refine Ex.ret ?_
    obtain rfl := sJ h
    exact rt (i6 3)
def p_br2_CheckRoute (N : Nat) (route_1 : (List T_Hurdle)) : Option (Int) := (bif (decide (((route_1.length : Nat) : Int) > 40)) then some 5 else (letJ (fun (_ : Unit) => some 0) (fun k_3 => (loop1 (fun rec_7 (i_6 : Int) => (bif (decide (i_6 < ((route_1.length : Nat) : Int))) then ((getI route_1 i_6).bind fun x_11 => ((p_br2_checkHurdle N x_11).bind fun r_12 => (bif (r_12 != 0) then some r_12 else (rec_7 (IntKind.i64.wrap (i_6 + 1)))))) else (k_3 ()))) N 0))))
def v_br2_CheckRoute (r : Int) : AV := i6 r
attribute [local simp] v_br2_CheckRoute
theorem a_br2_CheckRoute (route_1 : (List T_Hurdle)) : [.sl (route_1.map A_Hurdle) none].mapM (ren []) = some [.sl (route_1.map A_Hurdle) none] := by simp
theorem b_br2_CheckRoute (r : Int) (n n2 m : Nat) : back n n2 m (v_br2_CheckRoute r) = some (v_br2_CheckRoute r) := by simp
theorem d_br2_CheckRoute (N : Nat) (route_1 : (List T_Hurdle)) (r : Int) (h : p_br2_CheckRoute N route_1 = some r) : Does Try.prog 33 [.sl (route_1.map A_Hurdle) none] [] fun v c => v = v_br2_CheckRoute r ∧ c = [] := by
 unfold p_br2_CheckRoute at h
 refine Does.ofL comp33 _ _ rfl rfl ?_
 refine Ex.seq (rg 1 [0] (mkS 22 [(0, .sl (route_1.map A_Hurdle) none)]) ⟨[], []⟩ ?_)
 refine Ex.seq (Ex.seq ?_)
 refine regH 3 [(1, .eq (i6 ((route_1.length : Nat) : Int)))] [0, 7] [AV.int .i64 (((route_1.map A_Hurdle).length : Nat) : Int) = AV.int .i64 ((route_1.length : Nat) : Int)] (mkS 22 [(0, .sl (route_1.map A_Hurdle) none), (7, .bool (decide (((route_1.length : Nat) : Int) > 40)))]) (⟨[], []⟩) (by kernel_rfl) ⟨lenM _ _, trivial⟩ rfl ?_
 rcases condI h with ⟨hc_2, h⟩ | ⟨hc_2, h⟩
 ·refine Ex.condT _ rfl hc_2 ?_
  refine Ex.seq (rg 1 [2] (mkS 22 [(2, i6 5)]) ⟨[], []⟩ ?_)
  refine Ex.ret ?_
  obtain rfl := sJ h
  exact rt (i6 5)
 ·refine Ex.condF _ rfl hc_2 ?_
  refine Ex.skip ?_
  refine Ex.seq (Ex.seq ?_)
  refine rg 1 [0, 3] (mkS 22 [(0, .sl (route_1.map A_Hurdle) none), (3, i6 0)]) ⟨[], []⟩ ?_
  obtain ⟨K_4, hK_5, h⟩ := letE h
  refine Ex.blockJ (fun a S => K_4 () = some r ∧ a = mkS 22 [] ∧ S = ⟨[], []⟩) ?_ ?_
  ·obtain ⟨B_8, hB_9, h⟩ := loop1I h
   refine Ex.loopF (fun k a S => ∃ (i_6 : Int), loop1 B_8 k i_6 = some r ∧ a = mkS 22 [(0, .sl (route_1.map A_Hurdle) none), (3, i6 i_6)] ∧ S = ⟨[], []⟩) N ⟨_, _, Forgets.refl _ _ _, 0, h, rfl, rfl⟩ ?_
   rintro k a S ⟨i_6, h, rfl, rfl⟩
   cases k with
   | zero => exact (loop1Z h).elim
   | succ k =>
    replace h := loop1S h hB_9
    refine Ex.seq (Ex.seq ?_)
    refine regH 4 [(2, .eq (i6 ((route_1.length : Nat) : Int)))] [0, 3, 11] [AV.int .i64 (((route_1.map A_Hurdle).length : Nat) : Int) = AV.int .i64 ((route_1.length : Nat) : Int)] (mkS 22 [(0, .sl (route_1.map A_Hurdle) none), (3, i6 i_6), (11, .bool (decide (i_6 < ((route_1.length : Nat) : Int))))]) (⟨[], []⟩) (by kernel_rfl) ⟨lenM _ _, trivial⟩ rfl ?_
    rcases condI h with ⟨hc_10, h⟩ | ⟨hc_10, h⟩
    ·refine Ex.condT _ rfl hc_10 ?_
     refine Ex.skip ?_
     refine Ex.seq ?_
     refine Ex.blockK ?_
     refine Ex.seq ?_
     obtain ⟨x_11, hx_11, h⟩ := bE h
     obtain ⟨r_12, hr_12, h⟩ := bE h
     refine Ex.reg ?_
     refine runH 4 [(2, .rop (C_Hurdle x_11))] [0, 3, 17] [LGet (route_1.map A_Hurdle) i_6 3 (C_Hurdle x_11)] (mkS 22 [(0, .sl (route_1.map A_Hurdle) none), (3, i6 i_6), (17, (A_Hurdle x_11))]) (⟨[], []⟩) (by kernel_rfl) ⟨LGet.of hx_11 rfl, trivial⟩ ?_
     refine ExO.callL [] [(A_Hurdle x_11)] rfl rfl (a_br2_checkHurdle x_11) rfl rfl (d_br2_checkHurdle N x_11 r_12 hr_12) (b_br2_checkHurdle _ _ _ _) rfl ?_
     refine rn 1 [0, 3, 4] (mkS 22 [(0, .sl (route_1.map A_Hurdle) none), (3, i6 i_6), (4, i6 r_12)]) ⟨[], []⟩ ?_
     refine ExO.nil ?_
     refine Ex.seq (rg 2 [0, 3, 4, 20] (mkS 22 [(0, .sl (route_1.map A_Hurdle) none), (3, i6 i_6), (4, i6 r_12), (20, .bool (r_12 != 0))]) ⟨[], []⟩ ?_)
     rcases condI h with ⟨hc_13, h⟩ | ⟨hc_13, h⟩
     ·refine Ex.condT _ rfl hc_13 ?_
      refine Ex.seq (rg 2 [2] (mkS 22 [(2, i6 r_12)]) ⟨[], []⟩ ?_)
      refine Ex.ret ?_
      obtain rfl := sJ h
      exact rt (i6 r_12)
     ·refine Ex.condF _ rfl hc_13 ?_
      refine Ex.skip ?_
      refine rg 3 [0, 3] (mkS 22 [(0, .sl (route_1.map A_Hurdle) none), (3, i6 (IntKind.i64.wrap (i_6 + 1)))]) ⟨[], []⟩ ?_
      dsimp only
      exact ⟨_, _, Forgets.refl _ _ _, k, Nat.lt_succ_self k, (IntKind.i64.wrap (i_6 + 1)), h, rfl, rfl⟩
    ·refine Ex.condF _ rfl hc_10 ?_
     refine Ex.exit ?_
     (try simp only [reduceCtorEq, AEx.ex.injEq, Nat.reduceEqDiff, if_true, if_false])
     exact ⟨_, _, forgetK [], h, rfl, rfl⟩
  ·rintro a S ⟨h, rfl, rfl⟩
   subst hK_5
   refine Ex.seq (rg 1 [2] (mkS 22 [(2, i6 0)]) ⟨[], []⟩ ?_)
   refine Ex.ret ?_
   obtain rfl := sJ h
   exact rt (i6 0)
def p_br2_checkBoth (N : Nat) (f_1 : T_Float) (route_2 : (List T_Hurdle)) : Option (Int) := ((p_br2_Check N f_1).bind fun r_3 => (bif (r_3 != 0) then some r_3 else ((p_br2_CheckRoute N route_2).bind fun r_5 => some r_5)))
def v_br2_checkBoth (r : Int) : AV := i6 r
attribute [local simp] v_br2_checkBoth
theorem a_br2_checkBoth (f_1 : T_Float) (route_2 : (List T_Hurdle)) : [(A_Float f_1), .sl (route_2.map A_Hurdle) none].mapM (ren []) = some [(A_Float f_1), .sl (route_2.map A_Hurdle) none] := by simp
theorem b_br2_checkBoth (r : Int) (n n2 m : Nat) : back n n2 m (v_br2_checkBoth r) = some (v_br2_checkBoth r) := by simp
theorem d_br2_checkBoth (N : Nat) (f_1 : T_Float) (route_2 : (List T_Hurdle)) (r : Int) (h : p_br2_checkBoth N f_1 route_2 = some r) : Does Try.prog 74 [(A_Float f_1), .sl (route_2.map A_Hurdle) none] [] fun v c => v = v_br2_checkBoth r ∧ c = [] := by
 unfold p_br2_checkBoth at h
 refine Does.ofL comp74 _ _ rfl rfl ?_
 refine Ex.seq (rg 2 [1, 2] (mkS 13 [(1, .sl (route_2.map A_Hurdle) none), (2, .ptr 0 0)]) ⟨[(C_Float f_1)], []⟩ ?_)
 refine Ex.seq (Ex.seq ?_)
 obtain ⟨r_3, hr_3, h⟩ := bE h
 refine Ex.reg (rn 1 [1, 6] (mkS 13 [(1, .sl (route_2.map A_Hurdle) none), (6, (A_Float f_1))]) ⟨[(C_Float f_1)], []⟩ ?_)
 refine ExO.callL [] [(A_Float f_1)] rfl rfl (a_br2_Check f_1) rfl rfl (d_br2_Check N f_1 r_3 hr_3) (b_br2_Check _ _ _ _) rfl ?_
 refine rn 1 [1, 5] (mkS 13 [(1, .sl (route_2.map A_Hurdle) none), (5, i6 r_3)]) ⟨[(C_Float f_1)], []⟩ ?_
 refine ExO.nil ?_
 refine Ex.seq (rg 2 [1, 5, 9] (mkS 13 [(1, .sl (route_2.map A_Hurdle) none), (5, i6 r_3), (9, .bool (r_3 != 0))]) ⟨[(C_Float f_1)], []⟩ ?_)
 rcases condI h with ⟨hc_4, h⟩ | ⟨hc_4, h⟩
 ·refine Ex.condT _ rfl hc_4 ?_
  refine Ex.seq (rg 2 [4] (mkS 13 [(4, i6 r_3)]) ⟨[(C_Float f_1)], []⟩ ?_)
  refine Ex.ret ?_
  obtain rfl := sJ h
  exact rt (i6 r_3)
 ·refine Ex.condF _ rfl hc_4 ?_
  refine Ex.skip ?_
  refine Ex.seq ?_
  obtain ⟨r_5, hr_5, h⟩ := bE h
  refine Ex.reg (rn 1 [11] (mkS 13 [(11, .sl (route_2.map A_Hurdle) none)]) ⟨[(C_Float f_1)], []⟩ ?_)
  refine ExO.callL [] [.sl (route_2.map A_Hurdle) none] rfl rfl (a_br2_CheckRoute route_2) rfl rfl (d_br2_CheckRoute N route_2 r_5 hr_5) (b_br2_CheckRoute _ _ _ _) rfl ?_
  refine rn 1 [4] (mkS 13 [(4, i6 r_5)]) ⟨[(C_Float f_1)], []⟩ ?_
  refine ExO.nil ?_
  refine Ex.ret ?_
  obtain rfl := sJ h
  exact rt (i6 r_5)
def p_br2_Turns (N : Nat) (f_1 : T_Float) (h_2 : T_Hurdle) (radius_3 : Int) : Option (Bool) := ((some (IntKind.i64.wrap (2 * (if (IntKind.i64.wrap (f_1.Length - f_1.Rear)) > f_1.Rear then (IntKind.i64.wrap (f_1.Length - f_1.Rear)) else f_1.Rear)))).bind fun n_4 => (bif (decide (radius_3 ≥ f_1.Turn)) then (bif (decide ((IntKind.i64.wrap ((IntKind.i64.wrap (2 * radius_3)) - f_1.Width)) ≥ (IntKind.i64.wrap (2 * h_2.A)))) then ((some (IntKind.i64.wrap ((IntKind.i64.wrap ((IntKind.i64.wrap (2 * radius_3)) + f_1.Width)) * (IntKind.i64.wrap ((IntKind.i64.wrap (2 * radius_3)) + f_1.Width))))).bind fun n_7 => some (decide ((IntKind.i64.wrap (n_7 + (IntKind.i64.wrap (n_4 * n_4)))) ≤ (IntKind.i64.wrap ((IntKind.i64.wrap (4 * h_2.B)) * h_2.B))))) else some false) else some false))
def v_br2_Turns (r : Bool) : AV := .bool r
attribute [local simp] v_br2_Turns
theorem a_br2_Turns (f_1 : T_Float) (h_2 : T_Hurdle) (radius_3 : Int) : [(A_Float f_1), (A_Hurdle h_2), i6 radius_3].mapM (ren []) = some [(A_Float f_1), (A_Hurdle h_2), i6 radius_3] := by simp
theorem b_br2_Turns (r : Bool) (n n2 m : Nat) : back n n2 m (v_br2_Turns r) = some (v_br2_Turns r) := by simp
theorem d_br2_Turns (N : Nat) (f_1 : T_Float) (h_2 : T_Hurdle) (radius_3 : Int) (r : Bool) (h : p_br2_Turns N f_1 h_2 radius_3 = some r) : Does Try.prog 88 [(A_Float f_1), (A_Hurdle h_2), i6 radius_3] [] fun v c => v = v_br2_Turns r ∧ c = [] := by
 unfold p_br2_Turns at h
 refine Does.ofL comp88 _ _ rfl rfl ?_
 refine Ex.seq (rg 3 [2, 3, 4] (mkS 54 [(2, i6 radius_3), (3, .ptr 0 0), (4, .ptr 1 0)]) ⟨[(C_Float f_1), (C_Hurdle h_2)], []⟩ ?_)
 refine Ex.seq (rg 6 [2, 3, 4, 7] (mkS 54 [(2, i6 radius_3), (3, .ptr 0 0), (4, .ptr 1 0), (7, i6 (IntKind.i64.wrap ((IntKind.i64.wrap (2 * radius_3)) + f_1.Width)))]) ⟨[(C_Float f_1), (C_Hurdle h_2)], []⟩ ?_)
 refine Ex.seq ?_
 obtain ⟨n_4, hn_4, h⟩ := bE h
 refine regH 10 [(8, .eq (i6 n_4))] [2, 3, 4, 7, 8] [AV.int .i64 (IntKind.i64.wrap (2 * (if (IntKind.i64.wrap (f_1.Length - f_1.Rear)) > f_1.Rear then (IntKind.i64.wrap (f_1.Length - f_1.Rear)) else f_1.Rear))) = AV.int .i64 n_4] (mkS 54 [(2, i6 radius_3), (3, .ptr 0 0), (4, .ptr 1 0), (7, i6 (IntKind.i64.wrap ((IntKind.i64.wrap (2 * radius_3)) + f_1.Width))), (8, i6 n_4)]) (⟨[(C_Float f_1), (C_Hurdle h_2)], []⟩) (by kernel_rfl) ⟨congrArg (AV.int .i64) (Option.some.inj hn_4), trivial⟩ rfl ?_
 refine Ex.seq ?_
 rcases condI h with ⟨hc_5, h⟩ | ⟨hc_5, h⟩
 ·rcases condI h with ⟨hc_6, h⟩ | ⟨hc_6, h⟩
  ·obtain ⟨n_7, hn_7, h⟩ := bE h
   refine regH 32 [(4, .eq (.bool true)), (15, .eq (.bool true)), (18, .eq (i6 n_7))] [6] [AV.bool (decide (radius_3 ≥ f_1.Turn)) = AV.bool true, AV.bool (decide ((IntKind.i64.wrap ((IntKind.i64.wrap (2 * radius_3)) - f_1.Width)) ≥ (IntKind.i64.wrap (2 * h_2.A)))) = AV.bool true, AV.int .i64 (IntKind.i64.wrap ((IntKind.i64.wrap ((IntKind.i64.wrap (2 * radius_3)) + f_1.Width)) * (IntKind.i64.wrap ((IntKind.i64.wrap (2 * radius_3)) + f_1.Width)))) = AV.int .i64 n_7] (mkS 54 [(6, .bool (decide ((IntKind.i64.wrap (n_7 + (IntKind.i64.wrap (n_4 * n_4)))) ≤ (IntKind.i64.wrap ((IntKind.i64.wrap (4 * h_2.B)) * h_2.B)))))]) (⟨[(C_Float f_1), (C_Hurdle h_2)], []⟩) (by kernel_rfl) ⟨congrArg AV.bool hc_5, congrArg AV.bool hc_6, congrArg (AV.int .i64) (Option.some.inj hn_7), trivial⟩ rfl ?_
   refine Ex.ret ?_
   obtain rfl := sJ h
   exact rt (.bool (decide ((IntKind.i64.wrap (n_7 + (IntKind.i64.wrap (n_4 * n_4)))) ≤ (IntKind.i64.wrap ((IntKind.i64.wrap (4 * h_2.B)) * h_2.B)))))
  ·refine regH 32 [(4, .eq (.bool true)), (15, .eq (.bool false))] [6] [AV.bool (decide (radius_3 ≥ f_1.Turn)) = AV.bool true, AV.bool (decide ((IntKind.i64.wrap ((IntKind.i64.wrap (2 * radius_3)) - f_1.Width)) ≥ (IntKind.i64.wrap (2 * h_2.A)))) = AV.bool false] (mkS 54 [(6, .bool false)]) (⟨[(C_Float f_1), (C_Hurdle h_2)], []⟩) (by kernel_rfl) ⟨congrArg AV.bool hc_5, congrArg AV.bool hc_6, trivial⟩ rfl ?_
   refine Ex.ret ?_
   obtain rfl := sJ h
   exact rt (.bool false)
 ·refine regH 32 [(4, .eq (.bool false))] [6] [AV.bool (decide (radius_3 ≥ f_1.Turn)) = AV.bool false] (mkS 54 [(6, .bool false)]) (⟨[(C_Float f_1), (C_Hurdle h_2)], []⟩) (by kernel_rfl) ⟨congrArg AV.bool hc_5, trivial⟩ rfl ?_
  refine Ex.ret ?_
  obtain rfl := sJ h
  exact rt (.bool false)
def p_br2_Goes (N : Nat) (f_1 : T_Float) (h_2 : T_Hurdle) (t_3 : T_br2_Truth) : Option (Bool) := (bif (h_2.Kind == 1) then ((p_br2_Up N (IntKind.i64.wrap ((IntKind.i64.wrap (2 * h_2.A)) + f_1.Width)) 2).bind fun r_5 => ((p_br2_Turns N f_1 h_2 (if r_5 > f_1.Turn then r_5 else f_1.Turn)).bind fun r_7 => some r_7)) else (bif (h_2.Kind == 2) then ((p_br2_Tall N f_1 t_3).bind fun r_9 => some (decide (r_9 ≤ h_2.A))) else ((p_br2_Carries N f_1 t_3).bind fun r_11 => ((p_br2_Weighs N f_1 t_3).bind fun r_12 => (bif (decide (r_12 ≤ h_2.A)) then (bif (decide (r_11.1 ≤ (IntKind.i64.wrap (h_2.B * (IntKind.i64.wrap (f_1.Rear - f_1.Front)))))) then some (decide (r_11.2 ≤ (IntKind.i64.wrap (h_2.B * (IntKind.i64.wrap (f_1.Rear - f_1.Front)))))) else some false) else some false)))))
def v_br2_Goes (r : Bool) : AV := .bool r
attribute [local simp] v_br2_Goes
theorem b_br2_Goes (r : Bool) (n n2 m : Nat) : back n n2 m (v_br2_Goes r) = some (v_br2_Goes r) := by simp
theorem d_br2_Goes (N : Nat) (f_1 : T_Float) (h_2 : T_Hurdle) (t_3 : T_br2_Truth) (r : Bool) (h : p_br2_Goes N f_1 h_2 t_3 = some r) : Does Try.prog 42 [(A_Float f_1), (A_Hurdle h_2), (A_br2_Truth t_3)] [] fun v c => v = v_br2_Goes r ∧ c = [] := by
 unfold p_br2_Goes at h
 refine Does.ofL comp42 _ _ rfl rfl ?_
 refine Ex.seq (rg 4 [3, 4, 5] (mkS 68 [(3, .ptr 0 0), (4, .ptr 1 0), (5, .ptr 2 0)]) ⟨[(C_Float f_1), (C_Hurdle h_2), (C_br2_Truth t_3)], []⟩ ?_)
 refine Ex.seq (Ex.seq ?_)
 refine rg 2 [3, 4, 5, 11] (mkS 68 [(3, .ptr 0 0), (4, .ptr 1 0), (5, .ptr 2 0), (11, i6 h_2.Kind)]) ⟨[(C_Float f_1), (C_Hurdle h_2), (C_br2_Truth t_3)], []⟩ ?_
 refine Ex.blockK ?_
 refine Ex.seq (rg 2 [3, 4, 5, 11, 12] (mkS 68 [(3, .ptr 0 0), (4, .ptr 1 0), (5, .ptr 2 0), (11, i6 h_2.Kind), (12, .bool (h_2.Kind == 1))]) ⟨[(C_Float f_1), (C_Hurdle h_2), (C_br2_Truth t_3)], []⟩ ?_)
 rcases condI h with ⟨hc_4, h⟩ | ⟨hc_4, h⟩
 ·refine Ex.condT _ rfl hc_4 ?_
  refine Ex.seq ?_
  obtain ⟨r_5, hr_5, h⟩ := bE h
  have hT_6 : DoesA Try.prog [⟨46, [i6 (IntKind.i64.wrap ((IntKind.i64.wrap (2 * h_2.A)) + f_1.Width)), i6 2], [], (v_br2_Up r_5), []⟩] ∧ ConsA [⟨46, [i6 (IntKind.i64.wrap ((IntKind.i64.wrap (2 * h_2.A)) + f_1.Width)), i6 2], [], (v_br2_Up r_5), []⟩] := ⟨⟨(d_br2_Up N (IntKind.i64.wrap ((IntKind.i64.wrap (2 * h_2.A)) + f_1.Width)) 2 r_5 hr_5), rfl, trivial⟩, ⟨trivial, trivial⟩⟩
  refine Ex.drawE (a1 := mkS 68 [(3, .ptr 0 0), (4, .ptr 1 0), (5, .ptr 2 0), (11, i6 h_2.Kind), (12, .bool (h_2.Kind == 1)), (14, (A_Float f_1)), (15, (A_Hurdle h_2)), (16, .ptr 0 4), (17, i6 f_1.Turn), (18, .ptr 1 1), (19, i6 h_2.A), (20, i6 (IntKind.i64.wrap (2 * h_2.A))), (21, .ptr 0 1), (22, i6 f_1.Width), (23, i6 (IntKind.i64.wrap ((IntKind.i64.wrap (2 * h_2.A)) + f_1.Width))), (24, i6 r_5), (25, i6 (if r_5 > f_1.Turn then r_5 else f_1.Turn))]) (tabO_ok hT_6.1) [] [] [] ?_ ?_
  ·refine drS [0, 1, 2] 10 [] [] (mkS 68 [(3, .ptr 0 0), (4, .ptr 1 0), (5, .ptr 2 0), (11, i6 h_2.Kind), (12, .bool (h_2.Kind == 1)), (14, (A_Float f_1)), (15, (A_Hurdle h_2)), (16, .ptr 0 4), (17, i6 f_1.Turn), (18, .ptr 1 1), (19, i6 h_2.A), (20, i6 (IntKind.i64.wrap (2 * h_2.A))), (21, .ptr 0 1), (22, i6 f_1.Width), (23, i6 (IntKind.i64.wrap ((IntKind.i64.wrap (2 * h_2.A)) + f_1.Width)))]) (by simp) (by kernel_rfl) trivial (by kernel_rfl) ?_
   refine drC hT_6.2 0 _ [i6 (IntKind.i64.wrap ((IntKind.i64.wrap (2 * h_2.A)) + f_1.Width)), i6 2] (v_br2_Up r_5) rfl rfl rfl rfl rfl (fun _ => rfl) rfl (by simp; try rfl) (fun _ => b_br2_Up _ _ _ _) ?_
   refine drS [0, 1, 2] 1 [] [] (mkS 68 [(3, .ptr 0 0), (4, .ptr 1 0), (5, .ptr 2 0), (11, i6 h_2.Kind), (12, .bool (h_2.Kind == 1)), (14, (A_Float f_1)), (15, (A_Hurdle h_2)), (16, .ptr 0 4), (17, i6 f_1.Turn), (18, .ptr 1 1), (19, i6 h_2.A), (20, i6 (IntKind.i64.wrap (2 * h_2.A))), (21, .ptr 0 1), (22, i6 f_1.Width), (23, i6 (IntKind.i64.wrap ((IntKind.i64.wrap (2 * h_2.A)) + f_1.Width))), (24, i6 r_5), (25, i6 (if r_5 > f_1.Turn then r_5 else f_1.Turn))]) (by simp) (by kernel_rfl) trivial (by kernel_rfl) ?_
   exact DrO.nil rfl
  ·dsimp only [List.getLastD_cons, List.getLastD_nil]
   obtain ⟨r_7, hr_7, h⟩ := bE h
   refine ExO.callL [] [(A_Float f_1), (A_Hurdle h_2), i6 (if r_5 > f_1.Turn then r_5 else f_1.Turn)] rfl rfl (a_br2_Turns f_1 h_2 (if r_5 > f_1.Turn then r_5 else f_1.Turn)) rfl rfl (d_br2_Turns N f_1 h_2 (if r_5 > f_1.Turn then r_5 else f_1.Turn) r_7 hr_7) (b_br2_Turns _ _ _ _) rfl ?_
   refine rn 1 [6] (mkS 68 [(6, .bool r_7)]) ⟨[(C_Float f_1), (C_Hurdle h_2), (C_br2_Truth t_3)], []⟩ ?_
   refine ExO.nil ?_
   refine Ex.ret ?_
   obtain rfl := sJ h
   exact rt (.bool r_7)
 ·refine Ex.condF _ rfl hc_4 ?_
  refine Ex.seq (rg 2 [3, 4, 5, 27] (mkS 68 [(3, .ptr 0 0), (4, .ptr 1 0), (5, .ptr 2 0), (27, .bool (h_2.Kind == 2))]) ⟨[(C_Float f_1), (C_Hurdle h_2), (C_br2_Truth t_3)], []⟩ ?_)
  rcases condI h with ⟨hc_8, h⟩ | ⟨hc_8, h⟩
  ·refine Ex.condT _ rfl hc_8 ?_
   refine Ex.seq ?_
   obtain ⟨r_9, hr_9, h⟩ := bE h
   have hT_10 : DoesA Try.prog [⟨41, [(A_Float f_1), (A_br2_Truth t_3)], [], (v_br2_Tall r_9), []⟩] ∧ ConsA [⟨41, [(A_Float f_1), (A_br2_Truth t_3)], [], (v_br2_Tall r_9), []⟩] := ⟨⟨(d_br2_Tall N f_1 t_3 r_9 hr_9), rfl, trivial⟩, ⟨trivial, trivial⟩⟩
   refine Ex.drawE (a1 := mkS 68 [(3, .ptr 0 0), (4, .ptr 1 0), (5, .ptr 2 0), (27, .bool (h_2.Kind == 2)), (29, (A_Float f_1)), (30, (A_br2_Truth t_3)), (31, i6 r_9), (32, .ptr 1 1), (33, i6 h_2.A)]) (tabO_ok hT_10.1) [] [] [] ?_ ?_
   ·refine drS [0, 1, 2] 2 [] [] (mkS 68 [(3, .ptr 0 0), (4, .ptr 1 0), (5, .ptr 2 0), (27, .bool (h_2.Kind == 2)), (29, (A_Float f_1)), (30, (A_br2_Truth t_3))]) (by simp) (by kernel_rfl) trivial (by kernel_rfl) ?_
    refine drC hT_10.2 0 _ [(A_Float f_1), (A_br2_Truth t_3)] (v_br2_Tall r_9) rfl rfl rfl rfl rfl (fun _ => rfl) rfl (by simp; try rfl) (fun _ => b_br2_Tall _ _ _ _) ?_
    refine drS [0, 1, 2] 2 [] [] (mkS 68 [(3, .ptr 0 0), (4, .ptr 1 0), (5, .ptr 2 0), (27, .bool (h_2.Kind == 2)), (29, (A_Float f_1)), (30, (A_br2_Truth t_3)), (31, i6 r_9), (32, .ptr 1 1), (33, i6 h_2.A)]) (by simp) (by kernel_rfl) trivial (by kernel_rfl) ?_
    exact DrO.nil rfl
   ·dsimp only [List.getLastD_cons, List.getLastD_nil]
    refine rn 2 [6] (mkS 68 [(6, .bool (decide (r_9 ≤ h_2.A)))]) ⟨[(C_Float f_1), (C_Hurdle h_2), (C_br2_Truth t_3)], []⟩ ?_
    refine ExO.nil ?_
    refine Ex.ret ?_
    obtain rfl := sJ h
    exact rt (.bool (decide (r_9 ≤ h_2.A)))
  ·refine Ex.condF _ rfl hc_8 ?_
   refine Ex.skip ?_
   refine Ex.seq ?_
   obtain ⟨r_11, hr_11, h⟩ := bE h
   refine Ex.reg (rn 2 [3, 4, 5, 36, 37] (mkS 68 [(3, .ptr 0 0), (4, .ptr 1 0), (5, .ptr 2 0), (36, (A_Float f_1)), (37, (A_br2_Truth t_3))]) ⟨[(C_Float f_1), (C_Hurdle h_2), (C_br2_Truth t_3)], []⟩ ?_)
   refine ExO.callL [] [(A_Float f_1), (A_br2_Truth t_3)] rfl rfl (a_br2_Carries f_1 t_3) rfl rfl (d_br2_Carries N f_1 t_3 r_11 hr_11) (b_br2_Carries _ _ _ _) rfl ?_
   refine rn 5 [3, 4, 5, 7, 8] (mkS 68 [(3, .ptr 0 0), (4, .ptr 1 0), (5, .ptr 2 0), (7, i6 r_11.1), (8, i6 r_11.2)]) ⟨[(C_Float f_1), (C_Hurdle h_2), (C_br2_Truth t_3)], []⟩ ?_
   refine ExO.nil ?_
   refine Ex.seq (rg 6 [3, 4, 5, 7, 8, 9] (mkS 68 [(3, .ptr 0 0), (4, .ptr 1 0), (5, .ptr 2 0), (7, i6 r_11.1), (8, i6 r_11.2), (9, i6 (IntKind.i64.wrap (f_1.Rear - f_1.Front)))]) ⟨[(C_Float f_1), (C_Hurdle h_2), (C_br2_Truth t_3)], []⟩ ?_)
   refine Ex.seq ?_
   obtain ⟨r_12, hr_12, h⟩ := bE h
   rcases condI h with ⟨hc_13, h⟩ | ⟨hc_13, h⟩
   ·rcases condI h with ⟨hc_14, h⟩ | ⟨hc_14, h⟩
    ·have hT_15 : DoesA Try.prog [⟨40, [(A_Float f_1), (A_br2_Truth t_3)], [], (v_br2_Weighs r_12), []⟩] ∧ ConsA [⟨40, [(A_Float f_1), (A_br2_Truth t_3)], [], (v_br2_Weighs r_12), []⟩] := ⟨⟨(d_br2_Weighs N f_1 t_3 r_12 hr_12), rfl, trivial⟩, ⟨trivial, trivial⟩⟩
     refine Ex.drawE (a1 := mkS 68 [(3, .ptr 0 0), (4, .ptr 1 0), (5, .ptr 2 0), (7, i6 r_11.1), (8, i6 r_11.2), (9, i6 (IntKind.i64.wrap (f_1.Rear - f_1.Front))), (46, (A_Float f_1)), (47, (A_br2_Truth t_3)), (48, i6 r_12), (49, .ptr 1 1), (50, i6 h_2.A), (51, .bool (decide (r_12 ≤ h_2.A))), (52, .bool true), (53, i6 r_11.1), (54, .ptr 1 2), (55, i6 h_2.B), (56, i6 (IntKind.i64.wrap (f_1.Rear - f_1.Front))), (57, i6 (IntKind.i64.wrap (h_2.B * (IntKind.i64.wrap (f_1.Rear - f_1.Front))))), (58, .bool (decide (r_11.1 ≤ (IntKind.i64.wrap (h_2.B * (IntKind.i64.wrap (f_1.Rear - f_1.Front))))))), (59, .bool (decide (r_11.1 ≤ (IntKind.i64.wrap (h_2.B * (IntKind.i64.wrap (f_1.Rear - f_1.Front))))))), (60, .bool true), (61, i6 r_11.2), (62, .ptr 1 2), (63, i6 h_2.B), (64, i6 (IntKind.i64.wrap (f_1.Rear - f_1.Front))), (65, i6 (IntKind.i64.wrap (h_2.B * (IntKind.i64.wrap (f_1.Rear - f_1.Front)))))]) (tabO_ok hT_15.1) [] [] [] ?_ ?_
     ·refine drS [0, 1, 2] 2 [] [] (mkS 68 [(3, .ptr 0 0), (4, .ptr 1 0), (5, .ptr 2 0), (7, i6 r_11.1), (8, i6 r_11.2), (9, i6 (IntKind.i64.wrap (f_1.Rear - f_1.Front))), (46, (A_Float f_1)), (47, (A_br2_Truth t_3))]) (by simp) (by kernel_rfl) trivial (by kernel_rfl) ?_
      refine drC hT_15.2 0 _ [(A_Float f_1), (A_br2_Truth t_3)] (v_br2_Weighs r_12) rfl rfl rfl rfl rfl (fun _ => rfl) rfl (by simp; try rfl) (fun _ => b_br2_Weighs _ _ _ _) ?_
      refine drS [0, 1, 2] 17 [(3, .eq (.bool true)), (11, .eq (.bool true))] [AV.bool (decide (r_12 ≤ h_2.A)) = AV.bool true, AV.bool (decide (r_11.1 ≤ (IntKind.i64.wrap (h_2.B * (IntKind.i64.wrap (f_1.Rear - f_1.Front)))))) = AV.bool true] (mkS 68 [(3, .ptr 0 0), (4, .ptr 1 0), (5, .ptr 2 0), (7, i6 r_11.1), (8, i6 r_11.2), (9, i6 (IntKind.i64.wrap (f_1.Rear - f_1.Front))), (46, (A_Float f_1)), (47, (A_br2_Truth t_3)), (48, i6 r_12), (49, .ptr 1 1), (50, i6 h_2.A), (51, .bool (decide (r_12 ≤ h_2.A))), (52, .bool true), (53, i6 r_11.1), (54, .ptr 1 2), (55, i6 h_2.B), (56, i6 (IntKind.i64.wrap (f_1.Rear - f_1.Front))), (57, i6 (IntKind.i64.wrap (h_2.B * (IntKind.i64.wrap (f_1.Rear - f_1.Front))))), (58, .bool (decide (r_11.1 ≤ (IntKind.i64.wrap (h_2.B * (IntKind.i64.wrap (f_1.Rear - f_1.Front))))))), (59, .bool (decide (r_11.1 ≤ (IntKind.i64.wrap (h_2.B * (IntKind.i64.wrap (f_1.Rear - f_1.Front))))))), (60, .bool true), (61, i6 r_11.2), (62, .ptr 1 2), (63, i6 h_2.B), (64, i6 (IntKind.i64.wrap (f_1.Rear - f_1.Front))), (65, i6 (IntKind.i64.wrap (h_2.B * (IntKind.i64.wrap (f_1.Rear - f_1.Front)))))]) (by simp) (by kernel_rfl) ⟨congrArg AV.bool hc_13, congrArg AV.bool hc_14, trivial⟩ (by kernel_rfl) ?_
      exact DrO.nil rfl
     ·dsimp only [List.getLastD_cons, List.getLastD_nil]
      refine rn 3 [6] (mkS 68 [(6, .bool (decide (r_11.2 ≤ (IntKind.i64.wrap (h_2.B * (IntKind.i64.wrap (f_1.Rear - f_1.Front)))))))]) ⟨[(C_Float f_1), (C_Hurdle h_2), (C_br2_Truth t_3)], []⟩ ?_
      refine ExO.nil ?_
      refine Ex.ret ?_
      obtain rfl := sJ h
      exact rt (.bool (decide (r_11.2 ≤ (IntKind.i64.wrap (h_2.B * (IntKind.i64.wrap (f_1.Rear - f_1.Front)))))))
    ·have hT_17 : DoesA Try.prog [⟨40, [(A_Float f_1), (A_br2_Truth t_3)], [], (v_br2_Weighs r_12), []⟩] ∧ ConsA [⟨40, [(A_Float f_1), (A_br2_Truth t_3)], [], (v_br2_Weighs r_12), []⟩] := ⟨⟨(d_br2_Weighs N f_1 t_3 r_12 hr_12), rfl, trivial⟩, ⟨trivial, trivial⟩⟩
     obtain ⟨X_16, hX_16, hcl_18⟩ : ∃ X : Clr, ClrOk Try.prog X ∧ X 40 [(A_Float f_1), (A_br2_Truth t_3)] ⟨[(C_Float f_1), (C_Hurdle h_2), (C_br2_Truth t_3)], []⟩ = some (v_br2_Weighs r_12, none) := ⟨_, tabO_ok hT_17.1, tabO_pure hT_17.2 0 _ [(A_Float f_1), (A_br2_Truth t_3)] _ rfl rfl rfl rfl (by simp; try rfl) (fun _ => b_br2_Weighs _ _ _ _)⟩
     refine dregX hX_16 [(2, .cl (v_br2_Weighs r_12)), (6, .eq (.bool true)), (14, .eq (.bool false))] [] [6] [X_16 40 [(A_Float f_1), (A_br2_Truth t_3)] ⟨[(C_Float f_1), (C_Hurdle h_2), (C_br2_Truth t_3)], []⟩ = some (v_br2_Weighs r_12, none), AV.bool (decide (r_12 ≤ h_2.A)) = AV.bool true, AV.bool (decide (r_11.1 ≤ (IntKind.i64.wrap (h_2.B * (IntKind.i64.wrap (f_1.Rear - f_1.Front)))))) = AV.bool false] [] (mkS 68 [(3, .ptr 0 0), (4, .ptr 1 0), (5, .ptr 2 0), (7, i6 r_11.1), (8, i6 r_11.2), (9, i6 (IntKind.i64.wrap (f_1.Rear - f_1.Front))), (46, (A_Float f_1)), (47, (A_br2_Truth t_3)), (48, i6 r_12), (49, .ptr 1 1), (50, i6 h_2.A), (51, .bool (decide (r_12 ≤ h_2.A))), (52, .bool true), (53, i6 r_11.1), (54, .ptr 1 2), (55, i6 h_2.B), (56, i6 (IntKind.i64.wrap (f_1.Rear - f_1.Front))), (57, i6 (IntKind.i64.wrap (h_2.B * (IntKind.i64.wrap (f_1.Rear - f_1.Front))))), (58, .bool (decide (r_11.1 ≤ (IntKind.i64.wrap (h_2.B * (IntKind.i64.wrap (f_1.Rear - f_1.Front))))))), (59, .bool (decide (r_11.1 ≤ (IntKind.i64.wrap (h_2.B * (IntKind.i64.wrap (f_1.Rear - f_1.Front))))))), (60, .bool false), (61, .tup []), (62, .tup []), (63, .tup []), (64, .tup []), (65, .tup [])]) (mkS 68 [(6, .bool false)]) (by kernel_rfl) (by kernel_rfl) ⟨hcl_18, congrArg AV.bool hc_13, congrArg AV.bool hc_14, trivial⟩ (by kernel_rfl) trivial ?_
     refine Ex.ret ?_
     obtain rfl := sJ h
     exact rt (.bool false)
   ·have hT_20 : DoesA Try.prog [⟨40, [(A_Float f_1), (A_br2_Truth t_3)], [], (v_br2_Weighs r_12), []⟩] ∧ ConsA [⟨40, [(A_Float f_1), (A_br2_Truth t_3)], [], (v_br2_Weighs r_12), []⟩] := ⟨⟨(d_br2_Weighs N f_1 t_3 r_12 hr_12), rfl, trivial⟩, ⟨trivial, trivial⟩⟩
    obtain ⟨X_19, hX_19, hcl_21⟩ : ∃ X : Clr, ClrOk Try.prog X ∧ X 40 [(A_Float f_1), (A_br2_Truth t_3)] ⟨[(C_Float f_1), (C_Hurdle h_2), (C_br2_Truth t_3)], []⟩ = some (v_br2_Weighs r_12, none) := ⟨_, tabO_ok hT_20.1, tabO_pure hT_20.2 0 _ [(A_Float f_1), (A_br2_Truth t_3)] _ rfl rfl rfl rfl (by simp; try rfl) (fun _ => b_br2_Weighs _ _ _ _)⟩
    refine dregX hX_19 [(2, .cl (v_br2_Weighs r_12)), (6, .eq (.bool false))] [] [6] [X_19 40 [(A_Float f_1), (A_br2_Truth t_3)] ⟨[(C_Float f_1), (C_Hurdle h_2), (C_br2_Truth t_3)], []⟩ = some (v_br2_Weighs r_12, none), AV.bool (decide (r_12 ≤ h_2.A)) = AV.bool false] [] (mkS 68 [(3, .ptr 0 0), (4, .ptr 1 0), (5, .ptr 2 0), (7, i6 r_11.1), (8, i6 r_11.2), (9, i6 (IntKind.i64.wrap (f_1.Rear - f_1.Front))), (46, (A_Float f_1)), (47, (A_br2_Truth t_3)), (48, i6 r_12), (49, .ptr 1 1), (50, i6 h_2.A), (51, .bool (decide (r_12 ≤ h_2.A))), (52, .bool false), (53, .tup []), (54, .tup []), (55, .tup []), (56, .tup []), (57, .tup []), (58, .tup []), (59, .bool false), (60, .bool false), (61, .tup []), (62, .tup []), (63, .tup []), (64, .tup []), (65, .tup [])]) (mkS 68 [(6, .bool false)]) (by kernel_rfl) (by kernel_rfl) ⟨hcl_21, congrArg AV.bool hc_13, trivial⟩ (by kernel_rfl) trivial ?_
    refine Ex.ret ?_
    obtain rfl := sJ h
    exact rt (.bool false)
def p_br2_verdict (N : Nat) (worst_1 : Bool) (best_2 : Bool) : Option (Int) := (bif worst_1 then some 1 else (bif (!best_2) then some 2 else some 3))
def v_br2_verdict (r : Int) : AV := i6 r
attribute [local simp] v_br2_verdict
theorem b_br2_verdict (r : Int) (n n2 m : Nat) : back n n2 m (v_br2_verdict r) = some (v_br2_verdict r) := by simp
theorem d_br2_verdict (N : Nat) (worst_1 : Bool) (best_2 : Bool) (r : Int) (h : p_br2_verdict N worst_1 best_2 = some r) : Does Try.prog 65 [.bool worst_1, .bool best_2] [] fun v c => v = v_br2_verdict r ∧ c = [] := by
 unfold p_br2_verdict at h
 refine Does.ofL comp65 _ _ rfl rfl ?_
 refine Ex.seq (rg 1 [0, 1] (mkS 10 [(0, .bool worst_1), (1, .bool best_2)]) ⟨[], []⟩ ?_)
 refine Ex.seq ?_
 refine Ex.blockK ?_
 refine Ex.seq (rg 2 [1, 5] (mkS 10 [(1, .bool best_2), (5, .bool worst_1)]) ⟨[], []⟩ ?_)
 rcases condI h with ⟨hc_3, h⟩ | ⟨hc_3, h⟩
 ·refine Ex.condT _ rfl hc_3 ?_
  refine Ex.seq (rg 1 [4] (mkS 10 [(4, i6 1)]) ⟨[], []⟩ ?_)
  refine Ex.ret ?_
  obtain rfl := sJ h
  exact rt (i6 1)
 ·refine Ex.condF _ rfl hc_3 ?_
  refine Ex.seq (rg 3 [7] (mkS 10 [(7, .bool (!best_2))]) ⟨[], []⟩ ?_)
  rcases condI h with ⟨hc_4, h⟩ | ⟨hc_4, h⟩
  ·refine Ex.condT _ rfl hc_4 ?_
   refine Ex.seq (rg 1 [4] (mkS 10 [(4, i6 2)]) ⟨[], []⟩ ?_)
   refine Ex.ret ?_
   obtain rfl := sJ h
   exact rt (i6 2)
  ·refine Ex.condF _ rfl hc_4 ?_
   refine Ex.skip ?_
   refine Ex.seq (rg 1 [4] (mkS 10 [(4, i6 3)]) ⟨[], []⟩ ?_)
   refine Ex.ret ?_
   obtain rfl := sJ h
   exact rt (i6 3)
theorem IJ_Load (x y : T_Load) (h : A_Load x = A_Load y) : x = y := by
 have h := AV.agg.inj h
 simp only [C_Load, List.cons.injEq, AV.int.injEq, AV.bool.injEq, AV.str.injEq, AV.sl.injEq, true_and, and_true] at h
 obtain ⟨h0, h1, h2, h3, h4, h5, h6⟩ := h
 obtain ⟨x0, ⟨x1, x2⟩, ⟨x3, x4⟩, x5, x6⟩ := x; obtain ⟨y0, ⟨y1, y2⟩, ⟨y3, y4⟩, y5, y6⟩ := y; simp_all
theorem IJ_Float (x y : T_Float) (h : A_Float x = A_Float y) : x = y := by
 have h := AV.agg.inj h
 simp only [C_Float, List.cons.injEq, AV.int.injEq, AV.bool.injEq, AV.str.injEq, AV.sl.injEq, true_and, and_true] at h
 obtain ⟨h0, h1, h2, h3, h4, h5, h6, h7, h8⟩ := h
 have h8 := mapInj IJ_Load h8
 obtain ⟨x0, x1, x2, x3, x4, x5, x6, x7, x8⟩ := x; obtain ⟨y0, y1, y2, y3, y4, y5, y6, y7, y8⟩ := y; simp_all
theorem IJ_Hurdle (x y : T_Hurdle) (h : A_Hurdle x = A_Hurdle y) : x = y := by
 have h := AV.agg.inj h
 simp only [C_Hurdle, List.cons.injEq, AV.int.injEq, AV.bool.injEq, AV.str.injEq, AV.sl.injEq, true_and, and_true] at h
 obtain ⟨h0, h1, h2⟩ := h
 obtain ⟨x0, x1, x2⟩ := x; obtain ⟨y0, y1, y2⟩ := y; simp_all
theorem IJ_br2_Truth (x y : T_br2_Truth) (h : A_br2_Truth x = A_br2_Truth y) : x = y := by
 have h := AV.agg.inj h
 simp only [C_br2_Truth, List.cons.injEq, AV.int.injEq, AV.bool.injEq, AV.str.injEq, AV.sl.injEq, true_and, and_true] at h
 obtain ⟨h0, h1⟩ := h
 have h0 := mapInj (intInj _) h0
 have h1 := mapInj (intInj _) h1
 obtain ⟨x0, x1⟩ := x; obtain ⟨y0, y1⟩ := y; simp_all
theorem k_br2_Goes (N : Nat) (f_1 : T_Float) (h_2 : T_Hurdle) (t_3 : T_br2_Truth) (f_1z : T_Float) (h_2z : T_Hurdle) (t_3z : T_br2_Truth) (r s : Bool) (hr : p_br2_Goes N f_1 h_2 t_3 = some r) (hs : p_br2_Goes N f_1z h_2z t_3z = some s) : ConsR ⟨42, [(A_Float f_1), (A_Hurdle h_2), (A_br2_Truth t_3)], [], v_br2_Goes r, []⟩ ⟨42, [(A_Float f_1z), (A_Hurdle h_2z), (A_br2_Truth t_3z)], [], v_br2_Goes s, []⟩ := by
 intro _ h1 h2
 have h1 : ([(A_Float f_1), (A_Hurdle h_2), (A_br2_Truth t_3)] : List AV) = [(A_Float f_1z), (A_Hurdle h_2z), (A_br2_Truth t_3z)] := h1
 have h2 : ([] : List (List AV)) = [] := h2
 obtain rfl : f_1 = f_1z := IJ_Float _ _ (List.cons.inj h1).1
 obtain rfl : h_2 = h_2z := IJ_Hurdle _ _ (List.cons.inj (List.cons.inj h1).2).1
 obtain rfl : t_3 = t_3z := IJ_br2_Truth _ _ (List.cons.inj (List.cons.inj (List.cons.inj h1).2).2).1
 rw [hr] at hs; cases hs; exact ⟨rfl, rfl⟩
def p_br2_passes (N : Nat) (f_1 : T_Float) (route_2 : (List T_Hurdle)) : Option ((List Int)) := (letJ (fun (out_3 : List Int) => some out_3) (fun k_4 => (loop2 (fun rec_9 (out_7 : List Int) (i_8 : Int) => (bif (decide (i_8 < ((route_2.length : Nat) : Int))) then ((getI route_2 i_8).bind fun x_13 => ((p_br2_Greatest N f_1).bind fun r_14 => ((p_br2_Goes N f_1 x_13 r_14).bind fun r_15 => ((getI route_2 i_8).bind fun x_16 => ((p_br2_Least N f_1).bind fun r_17 => ((p_br2_Goes N f_1 x_16 r_17).bind fun r_18 => ((p_br2_verdict N r_15 r_18).bind fun r_19 => ((pushI out_7 ([r_19] : List Int)).bind fun l_21 => (rec_9 l_21 (IntKind.i64.wrap (i_8 + 1))))))))))) else (k_4 out_7))) N [] 0)))
def v_br2_passes (r : (List Int)) : AV := .sl (r.map (AV.int .i64)) none
attribute [local simp] v_br2_passes
theorem a_br2_passes (f_1 : T_Float) (route_2 : (List T_Hurdle)) : [(A_Float f_1), .sl (route_2.map A_Hurdle) none].mapM (ren []) = some [(A_Float f_1), .sl (route_2.map A_Hurdle) none] := by simp
theorem b_br2_passes (r : (List Int)) (n n2 m : Nat) : back n n2 m (v_br2_passes r) = some (v_br2_passes r) := by simp
theorem d_br2_passes (N : Nat) (f_1 : T_Float) (route_2 : (List T_Hurdle)) (r : (List Int)) (h : p_br2_passes N f_1 route_2 = some r) : Does Try.prog 75 [(A_Float f_1), .sl (route_2.map A_Hurdle) none] [] fun v c => v = v_br2_passes r ∧ c = [] := by
 unfold p_br2_passes at h
 refine Does.ofL comp75 _ _ rfl rfl ?_
 refine Ex.seq (rg 2 [1, 2] (mkS 34 [(1, .sl (route_2.map A_Hurdle) none), (2, .ptr 0 0)]) ⟨[(C_Float f_1)], []⟩ ?_)
 refine Ex.seq (rg 1 [1, 2, 5] (mkS 34 [(1, .sl (route_2.map A_Hurdle) none), (2, .ptr 0 0), (5, .nils)]) ⟨[(C_Float f_1)], []⟩ ?_)
 refine Ex.seq (Ex.seq ?_)
 refine rg 1 [1, 2, 5, 6] (mkS 34 [(1, .sl (route_2.map A_Hurdle) none), (2, .ptr 0 0), (5, .nils), (6, i6 0)]) ⟨[(C_Float f_1)], []⟩ ?_
 obtain ⟨K_5, hK_6, h⟩ := letE h
 refine Ex.blockJ (fun a S => ∃ (out_3 : List Int), K_5 out_3 = some r ∧ a = mkS 34 [(5, .sl (out_3.map (AV.int .i64)) (some 0))] ∧ S = ⟨[], [(out_3.length, 1)]⟩) ?_ ?_
 ·refine Ex.forget (nilK 5 1 rfl) ?_
  refine Ex.castA (a2 := mkS 34 [(1, .sl (route_2.map A_Hurdle) none), (2, .ptr 0 0), (5, .sl (([] : List Int).map (AV.int .i64)) (some 0)), (6, i6 0)]) (S2 := ⟨[(C_Float f_1)], [(0, 1)]⟩) (by kernel_rfl) (by kernel_rfl) ?_
  obtain ⟨B_10, hB_11, h⟩ := loop2I h
  refine Ex.loopF (fun k a S => ∃ (out_7 : List Int), ∃ (i_8 : Int), loop2 B_10 k out_7 i_8 = some r ∧ a = mkS 34 [(1, .sl (route_2.map A_Hurdle) none), (2, .ptr 0 0), (5, .sl (out_7.map (AV.int .i64)) (some 0)), (6, i6 i_8)] ∧ S = ⟨[(C_Float f_1)], [(out_7.length, 1)]⟩) N ⟨_, _, Forgets.refl _ _ _, [], 0, h, rfl, rfl⟩ ?_
  rintro k a S ⟨out_7, i_8, h, rfl, rfl⟩
  cases k with
  | zero => exact (loop2Z h).elim
  | succ k =>
   replace h := loop2S h hB_11
   refine Ex.seq (Ex.seq ?_)
   refine regH 4 [(2, .eq (i6 ((route_2.length : Nat) : Int)))] [1, 2, 5, 6, 10] [AV.int .i64 (((route_2.map A_Hurdle).length : Nat) : Int) = AV.int .i64 ((route_2.length : Nat) : Int)] (mkS 34 [(1, .sl (route_2.map A_Hurdle) none), (2, .ptr 0 0), (5, .sl (out_7.map (AV.int .i64)) (some 0)), (6, i6 i_8), (10, .bool (decide (i_8 < ((route_2.length : Nat) : Int))))]) (⟨[(C_Float f_1)], [(out_7.length, 1)]⟩) (by kernel_rfl) ⟨lenM _ _, trivial⟩ rfl ?_
   rcases condI h with ⟨hc_12, h⟩ | ⟨hc_12, h⟩
   ·refine Ex.condT _ rfl hc_12 ?_
    refine Ex.skip ?_
    refine Ex.seq ?_
    refine Ex.blockK ?_
    obtain ⟨x_13, hx_13, h⟩ := bE h
    obtain ⟨r_14, hr_14, h⟩ := bE h
    obtain ⟨r_15, hr_15, h⟩ := bE h
    obtain ⟨x_16, hx_16, h⟩ := bE h
    obtain ⟨r_17, hr_17, h⟩ := bE h
    obtain ⟨r_18, hr_18, h⟩ := bE h
    obtain ⟨r_19, hr_19, h⟩ := bE h
    have hT_20 : DoesA Try.prog [⟨58, [(A_Float f_1)], [], (v_br2_Greatest r_14), []⟩, ⟨42, [(A_Float f_1), (A_Hurdle x_13), (A_br2_Truth r_14)], [], (v_br2_Goes r_15), []⟩, ⟨57, [(A_Float f_1)], [], (v_br2_Least r_17), []⟩, ⟨42, [(A_Float f_1), (A_Hurdle x_16), (A_br2_Truth r_17)], [], (v_br2_Goes r_18), []⟩, ⟨65, [.bool r_15, .bool r_18], [], (v_br2_verdict r_19), []⟩] ∧ ConsA [⟨58, [(A_Float f_1)], [], (v_br2_Greatest r_14), []⟩, ⟨42, [(A_Float f_1), (A_Hurdle x_13), (A_br2_Truth r_14)], [], (v_br2_Goes r_15), []⟩, ⟨57, [(A_Float f_1)], [], (v_br2_Least r_17), []⟩, ⟨42, [(A_Float f_1), (A_Hurdle x_16), (A_br2_Truth r_17)], [], (v_br2_Goes r_18), []⟩, ⟨65, [.bool r_15, .bool r_18], [], (v_br2_verdict r_19), []⟩] := ⟨⟨(d_br2_Greatest N f_1 r_14 hr_14), rfl, (d_br2_Goes N f_1 x_13 r_14 r_15 hr_15), rfl, (d_br2_Least N f_1 r_17 hr_17), rfl, (d_br2_Goes N f_1 x_16 r_17 r_18 hr_18), rfl, (d_br2_verdict N r_15 r_18 r_19 hr_19), rfl, trivial⟩, ⟨⟨ConsR.ne rfl, ConsR.ne rfl, ConsR.ne rfl, ConsR.ne rfl, trivial⟩, ⟨ConsR.ne rfl, k_br2_Goes N f_1 x_13 r_14 f_1 x_16 r_17 r_15 r_18 hr_15 hr_18, ConsR.ne rfl, trivial⟩, ⟨ConsR.ne rfl, ConsR.ne rfl, trivial⟩, ⟨ConsR.ne rfl, trivial⟩, trivial, trivial⟩⟩
    refine Ex.drawE (a1 := mkS 34 [(1, .sl (route_2.map A_Hurdle) none), (2, .ptr 0 0), (5, .sl (out_7.map (AV.int .i64)) (some 0)), (6, i6 i_8), (10, .bool (decide (i_8 < ((route_2.length : Nat) : Int)))), (13, .sl (out_7.map (AV.int .i64)) (some 0)), (14, (A_Float f_1)), (15, .sl (route_2.map A_Hurdle) none), (16, i6 i_8), (17, .rop (C_Hurdle x_13)), (18, (A_Hurdle x_13)), (19, (A_Float f_1)), (20, (A_br2_Truth r_14)), (21, .bool r_15), (22, (A_Float f_1)), (23, .sl (route_2.map A_Hurdle) none), (24, i6 i_8), (25, .rop (C_Hurdle x_16)), (26, (A_Hurdle x_16)), (27, (A_Float f_1)), (28, (A_br2_Truth r_17)), (29, .bool r_18), (30, i6 r_19), (31, .sl (([r_19] : List Int).map (AV.int .i64)) (some 1))]) (tabO_ok hT_20.1) [] [(1, 1)] [] ?_ ?_
    ·refine drS [0] 7 [(4, .rop (C_Hurdle x_13))] [LGet (route_2.map A_Hurdle) i_8 3 (C_Hurdle x_13)] (mkS 34 [(1, .sl (route_2.map A_Hurdle) none), (2, .ptr 0 0), (5, .sl (out_7.map (AV.int .i64)) (some 0)), (6, i6 i_8), (10, .bool (decide (i_8 < ((route_2.length : Nat) : Int)))), (13, .sl (out_7.map (AV.int .i64)) (some 0)), (14, (A_Float f_1)), (15, .sl (route_2.map A_Hurdle) none), (16, i6 i_8), (17, .rop (C_Hurdle x_13)), (18, (A_Hurdle x_13)), (19, (A_Float f_1))]) (by simp) (by kernel_rfl) ⟨LGet.of hx_13 rfl, trivial⟩ (by kernel_rfl) ?_
     refine drC hT_20.2 0 _ [(A_Float f_1)] (v_br2_Greatest r_14) rfl rfl rfl rfl rfl (fun _ => rfl) rfl (by simp; try rfl) (fun _ => b_br2_Greatest _ _ _ _) ?_
     refine drC hT_20.2 1 _ [(A_Float f_1), (A_Hurdle x_13), (A_br2_Truth r_14)] (v_br2_Goes r_15) rfl rfl rfl rfl rfl (fun _ => rfl) rfl (by simp; try rfl) (fun _ => b_br2_Goes _ _ _ _) ?_
     refine drS [0] 6 [(3, .rop (C_Hurdle x_16))] [LGet (route_2.map A_Hurdle) i_8 3 (C_Hurdle x_16)] (mkS 34 [(1, .sl (route_2.map A_Hurdle) none), (2, .ptr 0 0), (5, .sl (out_7.map (AV.int .i64)) (some 0)), (6, i6 i_8), (10, .bool (decide (i_8 < ((route_2.length : Nat) : Int)))), (13, .sl (out_7.map (AV.int .i64)) (some 0)), (14, (A_Float f_1)), (15, .sl (route_2.map A_Hurdle) none), (16, i6 i_8), (17, .rop (C_Hurdle x_13)), (18, (A_Hurdle x_13)), (19, (A_Float f_1)), (20, (A_br2_Truth r_14)), (21, .bool r_15), (22, (A_Float f_1)), (23, .sl (route_2.map A_Hurdle) none), (24, i6 i_8), (25, .rop (C_Hurdle x_16)), (26, (A_Hurdle x_16)), (27, (A_Float f_1))]) (by simp) (by kernel_rfl) ⟨LGet.of hx_16 rfl, trivial⟩ (by kernel_rfl) ?_
     refine drC hT_20.2 2 _ [(A_Float f_1)] (v_br2_Least r_17) rfl rfl rfl rfl rfl (fun _ => rfl) rfl (by simp; try rfl) (fun _ => b_br2_Least _ _ _ _) ?_
     refine drC hT_20.2 3 _ [(A_Float f_1), (A_Hurdle x_16), (A_br2_Truth r_17)] (v_br2_Goes r_18) rfl rfl rfl rfl rfl (fun _ => rfl) rfl (by simp; try rfl) (fun _ => b_br2_Goes _ _ _ _) ?_
     refine drC hT_20.2 4 _ [.bool r_15, .bool r_18] (v_br2_verdict r_19) rfl rfl rfl rfl rfl (fun _ => rfl) rfl (by simp; try rfl) (fun _ => b_br2_verdict _ _ _ _) ?_
     refine drR 1 1 (([r_19] : List Int).map (AV.int .i64)) rfl rfl (fun _ => by kernel_rfl) (by simp) rfl rfl ?_
     exact DrO.nil rfl
    ·dsimp only [List.getLastD_cons, List.getLastD_nil]
     obtain ⟨l_21, hl_21, h⟩ := bE h
     refine runH 2 [(0, .app (l_21.map (AV.int .i64)) l_21.length)] [1, 2, 5, 6] [LApp out_7.length (out_7.map (AV.int .i64)) (([r_19] : List Int).map (AV.int .i64)) 1 (l_21.map (AV.int .i64)) l_21.length] (mkS 34 [(1, .sl (route_2.map A_Hurdle) none), (2, .ptr 0 0), (5, .sl (l_21.map (AV.int .i64)) (some 0)), (6, i6 i_8)]) (⟨[(C_Float f_1)], [(l_21.length, 1), (1, 1)]⟩) (by kernel_rfl) ⟨LApp.of hl_21 (fun _ => rfl), trivial⟩ ?_
     refine ExO.nil ?_
     refine rg 3 [1, 2, 5, 6] (mkS 34 [(1, .sl (route_2.map A_Hurdle) none), (2, .ptr 0 0), (5, .sl (l_21.map (AV.int .i64)) (some 0)), (6, i6 (IntKind.i64.wrap (i_8 + 1)))]) ⟨[(C_Float f_1)], [(l_21.length, 1), (1, 1)]⟩ ?_
     dsimp only
     exact ⟨_, _, forgetA (m := 34) 1 [0] [(1, .sl (route_2.map A_Hurdle) none), (2, .ptr 0 0), (5, .sl (l_21.map (AV.int .i64)) (some 0)), (6, i6 (IntKind.i64.wrap (i_8 + 1)))] [(C_Float f_1)] [(l_21.length, 1)] (by simp) (by simp) ⟨(reN (KL_Hurdle _)), rfl, (reT (cleanI _ _) rfl), rfl, trivial⟩ (by simp) rfl (by decide), k, Nat.lt_succ_self k, l_21, (IntKind.i64.wrap (i_8 + 1)), h, rfl, rfl⟩
   ·refine Ex.condF _ rfl hc_12 ?_
    refine Ex.exit ?_
    (try simp only [reduceCtorEq, AEx.ex.injEq, Nat.reduceEqDiff, if_true, if_false])
    exact ⟨_, _, forgetA (m := 34) 0 [0] [(5, .sl (out_7.map (AV.int .i64)) (some 0))] [] [(out_7.length, 1)] (by simp) (by simp) ⟨(reT (cleanI _ _) rfl), trivial⟩ (by simp) rfl (by decide), out_7, h, rfl, rfl⟩
 ·rintro a S ⟨out_3, h, rfl, rfl⟩
  subst hK_6
  refine Ex.seq (rg 2 [4] (mkS 34 [(4, .sl (out_3.map (AV.int .i64)) (some 0))]) ⟨[], [(out_3.length, 1)]⟩ ?_)
  refine Ex.ret ?_
  obtain rfl := sJ h
  exact rt (.sl (out_3.map (AV.int .i64)) (some 0))
def p_br2_Passes (N : Nat) (f_1 : T_Float) (route_2 : (List T_Hurdle)) : Option ((List Int) × Int) := ((p_br2_checkBoth N f_1 route_2).bind fun r_3 => (bif (r_3 != 0) then some ([], r_3) else ((p_br2_passes N f_1 route_2).bind fun r_5 => some (r_5, 0))))
def v_br2_Passes (r : (List Int) × Int) : AV := .tup [.sl (r.1.map (AV.int .i64)) none, i6 r.2]
attribute [local simp] v_br2_Passes
theorem b_br2_Passes (r : (List Int) × Int) (n n2 m : Nat) : back n n2 m (v_br2_Passes r) = some (v_br2_Passes r) := by simp
theorem d_br2_Passes (N : Nat) (f_1 : T_Float) (route_2 : (List T_Hurdle)) (r : (List Int) × Int) (h : p_br2_Passes N f_1 route_2 = some r) : Does Try.prog 27 [(A_Float f_1), .sl (route_2.map A_Hurdle) none] [] fun v c => v = v_br2_Passes r ∧ c = [] := by
 unfold p_br2_Passes at h
 refine Does.ofL comp27 _ _ rfl rfl ?_
 refine Ex.seq (rg 3 [1, 2] (mkS 16 [(1, .sl (route_2.map A_Hurdle) none), (2, .ptr 0 0)]) ⟨[(C_Float f_1)], []⟩ ?_)
 refine Ex.seq (Ex.seq ?_)
 obtain ⟨r_3, hr_3, h⟩ := bE h
 refine Ex.reg (rn 2 [1, 2, 7, 8] (mkS 16 [(1, .sl (route_2.map A_Hurdle) none), (2, .ptr 0 0), (7, (A_Float f_1)), (8, .sl (route_2.map A_Hurdle) none)]) ⟨[(C_Float f_1)], []⟩ ?_)
 refine ExO.callL [] [(A_Float f_1), .sl (route_2.map A_Hurdle) none] rfl rfl (a_br2_checkBoth f_1 route_2) rfl rfl (d_br2_checkBoth N f_1 route_2 r_3 hr_3) (b_br2_checkBoth _ _ _ _) rfl ?_
 refine rn 1 [1, 2, 6] (mkS 16 [(1, .sl (route_2.map A_Hurdle) none), (2, .ptr 0 0), (6, i6 r_3)]) ⟨[(C_Float f_1)], []⟩ ?_
 refine ExO.nil ?_
 refine Ex.seq (rg 2 [1, 2, 6, 11] (mkS 16 [(1, .sl (route_2.map A_Hurdle) none), (2, .ptr 0 0), (6, i6 r_3), (11, .bool (r_3 != 0))]) ⟨[(C_Float f_1)], []⟩ ?_)
 rcases condI h with ⟨hc_4, h⟩ | ⟨hc_4, h⟩
 ·refine Ex.condT _ rfl hc_4 ?_
  refine Ex.seq (rg 3 [4, 5] (mkS 16 [(4, .nils), (5, i6 r_3)]) ⟨[(C_Float f_1)], []⟩ ?_)
  refine Ex.ret ?_
  obtain rfl := sJ h
  exact rt (.tup [.nils, i6 r_3])
 ·refine Ex.condF _ rfl hc_4 ?_
  refine Ex.skip ?_
  refine Ex.seq ?_
  obtain ⟨r_5, hr_5, h⟩ := bE h
  refine Ex.reg (rn 2 [13, 14] (mkS 16 [(13, (A_Float f_1)), (14, .sl (route_2.map A_Hurdle) none)]) ⟨[(C_Float f_1)], []⟩ ?_)
  refine ExO.callL [] [(A_Float f_1), .sl (route_2.map A_Hurdle) none] rfl rfl (a_br2_passes f_1 route_2) rfl rfl (d_br2_passes N f_1 route_2 r_5 hr_5) (b_br2_passes _ _ _ _) rfl ?_
  refine rn 2 [4, 5] (mkS 16 [(4, .sl (r_5.map (AV.int .i64)) none), (5, i6 0)]) ⟨[(C_Float f_1)], []⟩ ?_
  refine ExO.nil ?_
  refine Ex.ret ?_
  obtain rfl := sJ h
  exact rt (.tup [.sl (r_5.map (AV.int .i64)) none, i6 0])
def p_br2_stops (N : Nat) (f_1 : T_Float) (route_2 : (List T_Hurdle)) : Option (Int) := ((p_br2_passes N f_1 route_2).bind fun r_3 => (letJ (fun (_ : Unit) => some (-1)) (fun k_4 => (loop1 (fun rec_8 (i_7 : Int) => (bif (decide (i_7 < ((r_3.length : Nat) : Int))) then ((getI r_3 i_7).bind fun x_12 => (bif (x_12 != 1) then some i_7 else (rec_8 (IntKind.i64.wrap (i_7 + 1))))) else (k_4 ()))) N 0))))
def v_br2_stops (r : Int) : AV := i6 r
attribute [local simp] v_br2_stops
theorem a_br2_stops (f_1 : T_Float) (route_2 : (List T_Hurdle)) : [(A_Float f_1), .sl (route_2.map A_Hurdle) none].mapM (ren []) = some [(A_Float f_1), .sl (route_2.map A_Hurdle) none] := by simp
theorem b_br2_stops (r : Int) (n n2 m : Nat) : back n n2 m (v_br2_stops r) = some (v_br2_stops r) := by simp
theorem d_br2_stops (N : Nat) (f_1 : T_Float) (route_2 : (List T_Hurdle)) (r : Int) (h : p_br2_stops N f_1 route_2 = some r) : Does Try.prog 77 [(A_Float f_1), .sl (route_2.map A_Hurdle) none] [] fun v c => v = v_br2_stops r ∧ c = [] := by
 unfold p_br2_stops at h
 refine Does.ofL comp77 _ _ rfl rfl ?_
 refine Ex.seq (rg 2 [1, 2] (mkS 22 [(1, .sl (route_2.map A_Hurdle) none), (2, .ptr 0 0)]) ⟨[(C_Float f_1)], []⟩ ?_)
 refine Ex.seq ?_
 obtain ⟨r_3, hr_3, h⟩ := bE h
 refine Ex.reg (rn 2 [7, 8] (mkS 22 [(7, (A_Float f_1)), (8, .sl (route_2.map A_Hurdle) none)]) ⟨[(C_Float f_1)], []⟩ ?_)
 refine ExO.callL [] [(A_Float f_1), .sl (route_2.map A_Hurdle) none] rfl rfl (a_br2_passes f_1 route_2) rfl rfl (d_br2_passes N f_1 route_2 r_3 hr_3) (b_br2_passes _ _ _ _) rfl ?_
 refine rn 1 [5] (mkS 22 [(5, .sl (r_3.map (AV.int .i64)) none)]) ⟨[(C_Float f_1)], []⟩ ?_
 refine ExO.nil ?_
 refine Ex.seq (Ex.seq ?_)
 refine rg 1 [5, 6] (mkS 22 [(5, .sl (r_3.map (AV.int .i64)) none), (6, i6 0)]) ⟨[(C_Float f_1)], []⟩ ?_
 obtain ⟨K_5, hK_6, h⟩ := letE h
 refine Ex.blockJ (fun a S => K_5 () = some r ∧ a = mkS 22 [] ∧ S = ⟨[], []⟩) ?_ ?_
 ·obtain ⟨B_9, hB_10, h⟩ := loop1I h
  refine Ex.loopF (fun k a S => ∃ (i_7 : Int), loop1 B_9 k i_7 = some r ∧ a = mkS 22 [(5, .sl (r_3.map (AV.int .i64)) none), (6, i6 i_7)] ∧ S = ⟨[], []⟩) N ⟨_, _, forgetA (m := 22) 0 [] [(5, .sl (r_3.map (AV.int .i64)) none), (6, i6 0)] [] [] (by simp) (by simp) ⟨(reN (cleanI _ _)), rfl, trivial⟩ (by simp) rfl (by decide), 0, h, rfl, rfl⟩ ?_
  rintro k a S ⟨i_7, h, rfl, rfl⟩
  cases k with
  | zero => exact (loop1Z h).elim
  | succ k =>
   replace h := loop1S h hB_10
   refine Ex.seq (Ex.seq ?_)
   refine regH 4 [(2, .eq (i6 ((r_3.length : Nat) : Int)))] [5, 6, 13] [AV.int .i64 (((r_3.map (AV.int .i64)).length : Nat) : Int) = AV.int .i64 ((r_3.length : Nat) : Int)] (mkS 22 [(5, .sl (r_3.map (AV.int .i64)) none), (6, i6 i_7), (13, .bool (decide (i_7 < ((r_3.length : Nat) : Int))))]) (⟨[], []⟩) (by kernel_rfl) ⟨lenM _ _, trivial⟩ rfl ?_
   rcases condI h with ⟨hc_11, h⟩ | ⟨hc_11, h⟩
   ·refine Ex.condT _ rfl hc_11 ?_
    refine Ex.skip ?_
    refine Ex.seq ?_
    refine Ex.blockK ?_
    refine Ex.seq ?_
    obtain ⟨x_12, hx_12, h⟩ := bE h
    refine regH 5 [(2, .rop [i6 x_12])] [5, 6, 20] [LGet (r_3.map (AV.int .i64)) i_7 1 [i6 x_12]] (mkS 22 [(5, .sl (r_3.map (AV.int .i64)) none), (6, i6 i_7), (20, .bool (x_12 != 1))]) (⟨[], []⟩) (by kernel_rfl) ⟨LGet.of hx_12 rfl, trivial⟩ rfl ?_
    rcases condI h with ⟨hc_13, h⟩ | ⟨hc_13, h⟩
    ·refine Ex.condT _ rfl hc_13 ?_
     refine Ex.seq (rg 2 [4] (mkS 22 [(4, i6 i_7)]) ⟨[], []⟩ ?_)
     refine Ex.ret ?_
     obtain rfl := sJ h
     exact rt (i6 i_7)
    ·refine Ex.condF _ rfl hc_13 ?_
     refine Ex.skip ?_
     refine rg 3 [5, 6] (mkS 22 [(5, .sl (r_3.map (AV.int .i64)) none), (6, i6 (IntKind.i64.wrap (i_7 + 1)))]) ⟨[], []⟩ ?_
     dsimp only
     exact ⟨_, _, Forgets.refl _ _ _, k, Nat.lt_succ_self k, (IntKind.i64.wrap (i_7 + 1)), h, rfl, rfl⟩
   ·refine Ex.condF _ rfl hc_11 ?_
    refine Ex.exit ?_
    (try simp only [reduceCtorEq, AEx.ex.injEq, Nat.reduceEqDiff, if_true, if_false])
    exact ⟨_, _, forgetK [], h, rfl, rfl⟩
 ·rintro a S ⟨h, rfl, rfl⟩
  subst hK_6
  refine Ex.seq (rg 1 [4] (mkS 22 [(4, i6 (-1))]) ⟨[], []⟩ ?_)
  refine Ex.ret ?_
  obtain rfl := sJ h
  exact rt (i6 (-1))
def p_br2_Stops (N : Nat) (f_1 : T_Float) (route_2 : (List T_Hurdle)) : Option (Int × Int) := ((p_br2_checkBoth N f_1 route_2).bind fun r_3 => (bif (r_3 != 0) then some (0, r_3) else ((p_br2_stops N f_1 route_2).bind fun r_5 => some (r_5, 0))))
def v_br2_Stops (r : Int × Int) : AV := .tup [i6 r.1, i6 r.2]
attribute [local simp] v_br2_Stops
theorem b_br2_Stops (r : Int × Int) (n n2 m : Nat) : back n n2 m (v_br2_Stops r) = some (v_br2_Stops r) := by simp
theorem d_br2_Stops (N : Nat) (f_1 : T_Float) (route_2 : (List T_Hurdle)) (r : Int × Int) (h : p_br2_Stops N f_1 route_2 = some r) : Does Try.prog 29 [(A_Float f_1), .sl (route_2.map A_Hurdle) none] [] fun v c => v = v_br2_Stops r ∧ c = [] := by
 unfold p_br2_Stops at h
 refine Does.ofL comp29 _ _ rfl rfl ?_
 refine Ex.seq (rg 3 [1, 2] (mkS 16 [(1, .sl (route_2.map A_Hurdle) none), (2, .ptr 0 0)]) ⟨[(C_Float f_1)], []⟩ ?_)
 refine Ex.seq (Ex.seq ?_)
 obtain ⟨r_3, hr_3, h⟩ := bE h
 refine Ex.reg (rn 2 [1, 2, 7, 8] (mkS 16 [(1, .sl (route_2.map A_Hurdle) none), (2, .ptr 0 0), (7, (A_Float f_1)), (8, .sl (route_2.map A_Hurdle) none)]) ⟨[(C_Float f_1)], []⟩ ?_)
 refine ExO.callL [] [(A_Float f_1), .sl (route_2.map A_Hurdle) none] rfl rfl (a_br2_checkBoth f_1 route_2) rfl rfl (d_br2_checkBoth N f_1 route_2 r_3 hr_3) (b_br2_checkBoth _ _ _ _) rfl ?_
 refine rn 1 [1, 2, 6] (mkS 16 [(1, .sl (route_2.map A_Hurdle) none), (2, .ptr 0 0), (6, i6 r_3)]) ⟨[(C_Float f_1)], []⟩ ?_
 refine ExO.nil ?_
 refine Ex.seq (rg 2 [1, 2, 6, 11] (mkS 16 [(1, .sl (route_2.map A_Hurdle) none), (2, .ptr 0 0), (6, i6 r_3), (11, .bool (r_3 != 0))]) ⟨[(C_Float f_1)], []⟩ ?_)
 rcases condI h with ⟨hc_4, h⟩ | ⟨hc_4, h⟩
 ·refine Ex.condT _ rfl hc_4 ?_
  refine Ex.seq (rg 3 [4, 5] (mkS 16 [(4, i6 0), (5, i6 r_3)]) ⟨[(C_Float f_1)], []⟩ ?_)
  refine Ex.ret ?_
  obtain rfl := sJ h
  exact rt (.tup [i6 0, i6 r_3])
 ·refine Ex.condF _ rfl hc_4 ?_
  refine Ex.skip ?_
  refine Ex.seq ?_
  obtain ⟨r_5, hr_5, h⟩ := bE h
  refine Ex.reg (rn 2 [13, 14] (mkS 16 [(13, (A_Float f_1)), (14, .sl (route_2.map A_Hurdle) none)]) ⟨[(C_Float f_1)], []⟩ ?_)
  refine ExO.callL [] [(A_Float f_1), .sl (route_2.map A_Hurdle) none] rfl rfl (a_br2_stops f_1 route_2) rfl rfl (d_br2_stops N f_1 route_2 r_5 hr_5) (b_br2_stops _ _ _ _) rfl ?_
  refine rn 2 [4, 5] (mkS 16 [(4, i6 r_5), (5, i6 0)]) ⟨[(C_Float f_1)], []⟩ ?_
  refine ExO.nil ?_
  refine Ex.ret ?_
  obtain rfl := sJ h
  exact rt (.tup [i6 r_5, i6 0])
def p_br2_With (N : Nat) (f_1 : T_Float) (at_2 : Int) (kilos_3 : Int) : Option (T_Float) := ((pushI ([] : List T_Load) f_1.Loads).bind fun l_4 => ((pushI l_4 ([(⟨at_2, (⟨kilos_3, kilos_3⟩ : T_Span), (⟨0, 0⟩ : T_Span), 1, 0⟩ : T_Load)] : List T_Load)).bind fun l_5 => some (⟨f_1.Length, f_1.Width, f_1.Front, f_1.Rear, f_1.Turn, f_1.Kilos, f_1.Middle, f_1.High, l_5⟩ : T_Float)))
def v_br2_With (r : T_Float) : AV := (A_Float r)
attribute [local simp] v_br2_With
theorem a_br2_With (f_1 : T_Float) (at_2 : Int) (kilos_3 : Int) : [(A_Float f_1), i6 at_2, i6 kilos_3].mapM (ren []) = some [(A_Float f_1), i6 at_2, i6 kilos_3] := by simp
theorem b_br2_With (r : T_Float) (n n2 m : Nat) : back n n2 m (v_br2_With r) = some (v_br2_With r) := by simp
theorem d_br2_With (N : Nat) (f_1 : T_Float) (at_2 : Int) (kilos_3 : Int) (r : T_Float) (h : p_br2_With N f_1 at_2 kilos_3 = some r) : Does Try.prog 83 [(A_Float f_1), i6 at_2, i6 kilos_3] [] fun v c => v = v_br2_With r ∧ c = [] := by
 unfold p_br2_With at h
 refine Does.ofL comp83 _ _ rfl rfl ?_
 refine Ex.seq (rg 2 [1, 2, 3, 6] (mkS 20 [(1, i6 at_2), (2, i6 kilos_3), (3, .ptr 0 0), (6, .ptr 1 0)]) ⟨[(C_Float f_1), [i6 0, i6 0, i6 0, i6 0, i6 0, i6 0, i6 0, i6 0, .nils]], []⟩ ?_)
 refine Ex.seq ?_
 obtain ⟨l_4, hl_4, h⟩ := bE h
 obtain ⟨l_5, hl_5, h⟩ := bE h
 refine regH 13 [(3, .apps (f_1.Loads.map A_Load) (l_4.map A_Load) l_4.length), (10, .app (l_5.map A_Load) l_5.length)] [3, 6] [LApps 0 (([] : List T_Load).map A_Load) (f_1.Loads.map A_Load) (f_1.Loads.map A_Load) 7 (l_4.map A_Load) l_4.length, LApp l_4.length (l_4.map A_Load) (([(⟨at_2, (⟨kilos_3, kilos_3⟩ : T_Span), (⟨0, 0⟩ : T_Span), 1, 0⟩ : T_Load)] : List T_Load).map A_Load) 7 (l_5.map A_Load) l_5.length] (mkS 20 [(3, .ptr 0 0), (6, .ptr 1 0)]) (⟨[[i6 f_1.Length, i6 f_1.Width, i6 f_1.Front, i6 f_1.Rear, i6 f_1.Turn, i6 f_1.Kilos, i6 f_1.Middle, i6 f_1.High, .sl (l_5.map A_Load) (some 0)], [i6 0, i6 0, i6 0, i6 0, i6 0, i6 0, i6 0, i6 0, .nils]], [(l_5.length, 7), (1, 7)]⟩) (by kernel_rfl) ⟨LApps.of hl_4 (fun _ => rfl) (fun _ => rfl) (fun _ => rfl), LApp.of hl_5 (fun _ => rfl), trivial⟩ rfl ?_
 refine Ex.seq (rg 2 [6] (mkS 20 [(6, .ptr 1 0)]) ⟨[[i6 f_1.Length, i6 f_1.Width, i6 f_1.Front, i6 f_1.Rear, i6 f_1.Turn, i6 f_1.Kilos, i6 f_1.Middle, i6 f_1.High, .sl (l_5.map A_Load) (some 0)], [i6 f_1.Length, i6 f_1.Width, i6 f_1.Front, i6 f_1.Rear, i6 f_1.Turn, i6 f_1.Kilos, i6 f_1.Middle, i6 f_1.High, .sl (l_5.map A_Load) (some 0)]], [(l_5.length, 7), (1, 7)]⟩ ?_)
 refine Ex.ret ?_
 obtain rfl := sJ h
 exact rt (.agg [i6 f_1.Length, i6 f_1.Width, i6 f_1.Front, i6 f_1.Rear, i6 f_1.Turn, i6 f_1.Kilos, i6 f_1.Middle, i6 f_1.High, .sl (l_5.map A_Load) (some 0)])
def p_br2_Upright (N : Nat) (f_1 : T_Float) (t_2 : T_br2_Truth) : Option (Bool) := ((p_br2_Carries N f_1 t_2).bind fun r_3 => (bif (decide (r_3.1 ≥ 0)) then some (decide (r_3.2 ≥ 0)) else some false))
def v_br2_Upright (r : Bool) : AV := .bool r
attribute [local simp] v_br2_Upright
theorem a_br2_Upright (f_1 : T_Float) (t_2 : T_br2_Truth) : [(A_Float f_1), (A_br2_Truth t_2)].mapM (ren []) = some [(A_Float f_1), (A_br2_Truth t_2)] := by simp
theorem b_br2_Upright (r : Bool) (n n2 m : Nat) : back n n2 m (v_br2_Upright r) = some (v_br2_Upright r) := by simp
theorem d_br2_Upright (N : Nat) (f_1 : T_Float) (t_2 : T_br2_Truth) (r : Bool) (h : p_br2_Upright N f_1 t_2 = some r) : Does Try.prog 66 [(A_Float f_1), (A_br2_Truth t_2)] [] fun v c => v = v_br2_Upright r ∧ c = [] := by
 unfold p_br2_Upright at h
 refine Does.ofL comp66 _ _ rfl rfl ?_
 refine Ex.seq (rg 3 [2, 3] (mkS 19 [(2, .ptr 0 0), (3, .ptr 1 0)]) ⟨[(C_Float f_1), (C_br2_Truth t_2)], []⟩ ?_)
 refine Ex.seq ?_
 obtain ⟨r_3, hr_3, h⟩ := bE h
 refine Ex.reg (rn 2 [8, 9] (mkS 19 [(8, (A_Float f_1)), (9, (A_br2_Truth t_2))]) ⟨[(C_Float f_1), (C_br2_Truth t_2)], []⟩ ?_)
 refine ExO.callL [] [(A_Float f_1), (A_br2_Truth t_2)] rfl rfl (a_br2_Carries f_1 t_2) rfl rfl (d_br2_Carries N f_1 t_2 r_3 hr_3) (b_br2_Carries _ _ _ _) rfl ?_
 refine rn 5 [5, 6] (mkS 19 [(5, i6 r_3.1), (6, i6 r_3.2)]) ⟨[(C_Float f_1), (C_br2_Truth t_2)], []⟩ ?_
 refine ExO.nil ?_
 refine Ex.seq ?_
 rcases condI h with ⟨hc_4, h⟩ | ⟨hc_4, h⟩
 ·refine regH 7 [(2, .eq (.bool true))] [4] [AV.bool (decide (r_3.1 ≥ 0)) = AV.bool true] (mkS 19 [(4, .bool (decide (r_3.2 ≥ 0)))]) (⟨[(C_Float f_1), (C_br2_Truth t_2)], []⟩) (by kernel_rfl) ⟨congrArg AV.bool hc_4, trivial⟩ rfl ?_
  refine Ex.ret ?_
  obtain rfl := sJ h
  exact rt (.bool (decide (r_3.2 ≥ 0)))
 ·refine regH 7 [(2, .eq (.bool false))] [4] [AV.bool (decide (r_3.1 ≥ 0)) = AV.bool false] (mkS 19 [(4, .bool false)]) (⟨[(C_Float f_1), (C_br2_Truth t_2)], []⟩) (by kernel_rfl) ⟨congrArg AV.bool hc_4, trivial⟩ rfl ?_
  refine Ex.ret ?_
  obtain rfl := sJ h
  exact rt (.bool false)
def p_br2_Ballast (N : Nat) (f_1 : T_Float) (route_2 : (List T_Hurdle)) (at_3 : Int) : Option (T_Span × Int) := ((p_br2_checkBoth N f_1 route_2).bind fun r_4 => (bif (r_4 != 0) then some ((⟨0, 0⟩ : T_Span), r_4) else ((p_br2_within N at_3 f_1.Front f_1.Rear).bind fun r_6 => (bif (!r_6) then some ((⟨0, 0⟩ : T_Span), 2) else (letJ (fun (low_8 : Int) => (letJ (fun (low_28 : Int) => (bif (decide (low_8 ≥ low_28)) then some ((⟨0, 0⟩ : T_Span), 7) else some ((⟨low_8, (IntKind.i64.wrap (low_28 - 1))⟩ : T_Span), 0))) (fun k_29 => (loop2 (fun rec_34 (low_32 : Int) (high_33 : Int) => (bif (decide (low_32 < high_33)) then (letJ (fun (low_38 : Int) (high_39 : Int) => (rec_34 low_38 high_39)) (fun k_40 => ((p_br2_With N f_1 at_3 (IntKind.i64.wrap (Int.tdiv (IntKind.i64.wrap (low_32 + high_33)) 2))).bind fun r_43 => ((p_br2_stops N r_43 route_2).bind fun r_44 => (bif (decide (r_44 < 0)) then (k_40 (IntKind.i64.wrap ((IntKind.i64.wrap (Int.tdiv (IntKind.i64.wrap (low_32 + high_33)) 2)) + 1)) high_33) else (k_40 low_32 (IntKind.i64.wrap (Int.tdiv (IntKind.i64.wrap (low_32 + high_33)) 2)))))))) else (k_29 low_32))) N 0 100001)))) (fun k_9 => (loop2 (fun rec_14 (low_12 : Int) (high_13 : Int) => (bif (decide (low_12 < high_13)) then (letJ (fun (low_18 : Int) (high_19 : Int) => (rec_14 low_18 high_19)) (fun k_20 => ((p_br2_With N f_1 at_3 (IntKind.i64.wrap (Int.tdiv (IntKind.i64.wrap (low_12 + high_13)) 2))).bind fun r_23 => ((p_br2_Least N r_23).bind fun r_24 => ((p_br2_Upright N r_23 r_24).bind fun r_26 => (bif r_26 then (k_20 low_12 (IntKind.i64.wrap (Int.tdiv (IntKind.i64.wrap (low_12 + high_13)) 2))) else (k_20 (IntKind.i64.wrap ((IntKind.i64.wrap (Int.tdiv (IntKind.i64.wrap (low_12 + high_13)) 2)) + 1)) high_13))))))) else (k_9 low_12))) N 0 100001)))))))
def v_br2_Ballast (r : T_Span × Int) : AV := .tup [(A_Span r.1), i6 r.2]
attribute [local simp] v_br2_Ballast
theorem b_br2_Ballast (r : T_Span × Int) (n n2 m : Nat) : back n n2 m (v_br2_Ballast r) = some (v_br2_Ballast r) := by simp
theorem d_br2_Ballast (N : Nat) (f_1 : T_Float) (route_2 : (List T_Hurdle)) (at_3 : Int) (r : T_Span × Int) (h : p_br2_Ballast N f_1 route_2 at_3 = some r) : Does Try.prog 31 [(A_Float f_1), .sl (route_2.map A_Hurdle) none, i6 at_3] [] fun v c => v = v_br2_Ballast r ∧ c = [] := by
 unfold p_br2_Ballast at h
 refine Does.ofL comp31 _ _ rfl rfl ?_
 refine Ex.seq (rg 3 [1, 2, 3, 6] (mkS 74 [(1, .sl (route_2.map A_Hurdle) none), (2, i6 at_3), (3, .ptr 0 0), (6, .ptr 1 0)]) ⟨[(C_Float f_1), [i6 0, i6 0]], []⟩ ?_)
 refine Ex.seq (Ex.seq ?_)
 obtain ⟨r_4, hr_4, h⟩ := bE h
 refine Ex.reg (rn 2 [1, 2, 3, 6, 15, 16] (mkS 74 [(1, .sl (route_2.map A_Hurdle) none), (2, i6 at_3), (3, .ptr 0 0), (6, .ptr 1 0), (15, (A_Float f_1)), (16, .sl (route_2.map A_Hurdle) none)]) ⟨[(C_Float f_1), [i6 0, i6 0]], []⟩ ?_)
 refine ExO.callL [] [(A_Float f_1), .sl (route_2.map A_Hurdle) none] rfl rfl (a_br2_checkBoth f_1 route_2) rfl rfl (d_br2_checkBoth N f_1 route_2 r_4 hr_4) (b_br2_checkBoth _ _ _ _) rfl ?_
 refine rn 1 [1, 2, 3, 6, 8] (mkS 74 [(1, .sl (route_2.map A_Hurdle) none), (2, i6 at_3), (3, .ptr 0 0), (6, .ptr 1 0), (8, i6 r_4)]) ⟨[(C_Float f_1), [i6 0, i6 0]], []⟩ ?_
 refine ExO.nil ?_
 refine Ex.seq (rg 2 [1, 2, 3, 6, 8, 19] (mkS 74 [(1, .sl (route_2.map A_Hurdle) none), (2, i6 at_3), (3, .ptr 0 0), (6, .ptr 1 0), (8, i6 r_4), (19, .bool (r_4 != 0))]) ⟨[(C_Float f_1), [i6 0, i6 0]], []⟩ ?_)
 rcases condI h with ⟨hc_5, h⟩ | ⟨hc_5, h⟩
 ·refine Ex.condT _ rfl hc_5 ?_
  refine Ex.seq (rg 4 [6, 7] (mkS 74 [(6, .ptr 1 0), (7, i6 r_4)]) ⟨[(C_Float f_1), [i6 0, i6 0]], []⟩ ?_)
  refine Ex.ret ?_
  obtain rfl := sJ h
  exact rt (.tup [.agg [i6 0, i6 0], i6 r_4])
 ·refine Ex.condF _ rfl hc_5 ?_
  refine Ex.skip ?_
  refine Ex.seq (Ex.seq ?_)
  obtain ⟨r_6, hr_6, h⟩ := bE h
  refine Ex.reg (rn 5 [1, 2, 3, 6, 22, 24, 26] (mkS 74 [(1, .sl (route_2.map A_Hurdle) none), (2, i6 at_3), (3, .ptr 0 0), (6, .ptr 1 0), (22, i6 at_3), (24, i6 f_1.Front), (26, i6 f_1.Rear)]) ⟨[(C_Float f_1), [i6 0, i6 0]], []⟩ ?_)
  refine ExO.callL [] [i6 at_3, i6 f_1.Front, i6 f_1.Rear] rfl rfl (a_br2_within at_3 f_1.Front f_1.Rear) rfl rfl (d_br2_within N at_3 f_1.Front f_1.Rear r_6 hr_6) (b_br2_within _ _ _ _) rfl ?_
  refine rn 1 [1, 2, 3, 6, 28] (mkS 74 [(1, .sl (route_2.map A_Hurdle) none), (2, i6 at_3), (3, .ptr 0 0), (6, .ptr 1 0), (28, .bool (!r_6))]) ⟨[(C_Float f_1), [i6 0, i6 0]], []⟩ ?_
  refine ExO.nil ?_
  rcases condI h with ⟨hc_7, h⟩ | ⟨hc_7, h⟩
  ·refine Ex.condT _ rfl hc_7 ?_
   refine Ex.seq (rg 3 [6, 7] (mkS 74 [(6, .ptr 1 0), (7, i6 2)]) ⟨[(C_Float f_1), [i6 0, i6 0]], []⟩ ?_)
   refine Ex.ret ?_
   obtain rfl := sJ h
   exact rt (.tup [.agg [i6 0, i6 0], i6 2])
  ·refine Ex.condF _ rfl hc_7 ?_
   refine Ex.skip ?_
   refine Ex.seq (rg 2 [1, 2, 3, 6, 9, 10] (mkS 74 [(1, .sl (route_2.map A_Hurdle) none), (2, i6 at_3), (3, .ptr 0 0), (6, .ptr 1 0), (9, i6 0), (10, i6 100001)]) ⟨[(C_Float f_1), [i6 0, i6 0]], []⟩ ?_)
   refine Ex.seq ?_
   obtain ⟨K_10, hK_11, h⟩ := letE h
   refine Ex.blockJ (fun a S => ∃ (low_8 : Int), K_10 low_8 = some r ∧ a = mkS 74 [(1, .sl (route_2.map A_Hurdle) none), (2, i6 at_3), (3, .ptr 0 0), (6, .ptr 1 0), (9, i6 low_8)] ∧ S = ⟨[(C_Float f_1), [i6 0, i6 0]], []⟩) ?_ ?_
   ·obtain ⟨B_15, hB_16, h⟩ := loop2I h
    refine Ex.loopF (fun k a S => ∃ (low_12 : Int), ∃ (high_13 : Int), loop2 B_15 k low_12 high_13 = some r ∧ a = mkS 74 [(1, .sl (route_2.map A_Hurdle) none), (2, i6 at_3), (3, .ptr 0 0), (6, .ptr 1 0), (9, i6 low_12), (10, i6 high_13)] ∧ S = ⟨[(C_Float f_1), [i6 0, i6 0]], []⟩) N ⟨_, _, Forgets.refl _ _ _, 0, 100001, h, rfl, rfl⟩ ?_
    rintro k a S ⟨low_12, high_13, h, rfl, rfl⟩
    cases k with
    | zero => exact (loop2Z h).elim
    | succ k =>
     replace h := loop2S h hB_16
     refine Ex.seq (Ex.seq ?_)
     refine rg 3 [1, 2, 3, 6, 9, 10, 32] (mkS 74 [(1, .sl (route_2.map A_Hurdle) none), (2, i6 at_3), (3, .ptr 0 0), (6, .ptr 1 0), (9, i6 low_12), (10, i6 high_13), (32, .bool (decide (low_12 < high_13)))]) ⟨[(C_Float f_1), [i6 0, i6 0]], []⟩ ?_
     rcases condI h with ⟨hc_17, h⟩ | ⟨hc_17, h⟩
     ·refine Ex.condT _ rfl hc_17 ?_
      refine Ex.skip ?_
      obtain ⟨K_21, hK_22, h⟩ := letE h
      refine Ex.blockJ (fun a S => ∃ (low_18 : Int), ∃ (high_19 : Int), K_21 low_18 high_19 = some r ∧ a = mkS 74 [(1, .sl (route_2.map A_Hurdle) none), (2, i6 at_3), (3, .ptr 0 0), (6, .ptr 1 0), (9, i6 low_18), (10, i6 high_19)] ∧ S = ⟨[(C_Float f_1), [i6 0, i6 0]], []⟩) ?_ ?_
      ·refine Ex.seq (rg 5 [1, 2, 3, 6, 9, 10, 11] (mkS 74 [(1, .sl (route_2.map A_Hurdle) none), (2, i6 at_3), (3, .ptr 0 0), (6, .ptr 1 0), (9, i6 low_12), (10, i6 high_13), (11, i6 (IntKind.i64.wrap (Int.tdiv (IntKind.i64.wrap (low_12 + high_13)) 2)))]) ⟨[(C_Float f_1), [i6 0, i6 0]], []⟩ ?_)
       refine Ex.seq ?_
       obtain ⟨r_23, hr_23, h⟩ := bE h
       refine Ex.reg (rn 3 [1, 2, 3, 6, 9, 10, 11, 37, 38, 39] (mkS 74 [(1, .sl (route_2.map A_Hurdle) none), (2, i6 at_3), (3, .ptr 0 0), (6, .ptr 1 0), (9, i6 low_12), (10, i6 high_13), (11, i6 (IntKind.i64.wrap (Int.tdiv (IntKind.i64.wrap (low_12 + high_13)) 2))), (37, (A_Float f_1)), (38, i6 at_3), (39, i6 (IntKind.i64.wrap (Int.tdiv (IntKind.i64.wrap (low_12 + high_13)) 2)))]) ⟨[(C_Float f_1), [i6 0, i6 0]], []⟩ ?_)
       refine ExO.callL [] [(A_Float f_1), i6 at_3, i6 (IntKind.i64.wrap (Int.tdiv (IntKind.i64.wrap (low_12 + high_13)) 2))] rfl rfl (a_br2_With f_1 at_3 (IntKind.i64.wrap (Int.tdiv (IntKind.i64.wrap (low_12 + high_13)) 2))) rfl rfl (d_br2_With N f_1 at_3 (IntKind.i64.wrap (Int.tdiv (IntKind.i64.wrap (low_12 + high_13)) 2)) r_23 hr_23) (b_br2_With _ _ _ _) rfl ?_
       refine rn 2 [1, 2, 3, 6, 9, 10, 11, 12] (mkS 74 [(1, .sl (route_2.map A_Hurdle) none), (2, i6 at_3), (3, .ptr 0 0), (6, .ptr 1 0), (9, i6 low_12), (10, i6 high_13), (11, i6 (IntKind.i64.wrap (Int.tdiv (IntKind.i64.wrap (low_12 + high_13)) 2))), (12, .ptr 2 0)]) ⟨[(C_Float f_1), [i6 0, i6 0], (C_Float r_23)], []⟩ ?_
       refine ExO.nil ?_
       refine Ex.seq ?_
       obtain ⟨r_24, hr_24, h⟩ := bE h
       have hT_25 : DoesA Try.prog [⟨57, [(A_Float r_23)], [], (v_br2_Least r_24), []⟩] ∧ ConsA [⟨57, [(A_Float r_23)], [], (v_br2_Least r_24), []⟩] := ⟨⟨(d_br2_Least N r_23 r_24 hr_24), rfl, trivial⟩, ⟨trivial, trivial⟩⟩
       refine Ex.drawE (a1 := mkS 74 [(1, .sl (route_2.map A_Hurdle) none), (2, i6 at_3), (3, .ptr 0 0), (6, .ptr 1 0), (9, i6 low_12), (10, i6 high_13), (11, i6 (IntKind.i64.wrap (Int.tdiv (IntKind.i64.wrap (low_12 + high_13)) 2))), (12, .ptr 2 0), (41, (A_Float r_23)), (42, (A_Float r_23)), (43, (A_br2_Truth r_24))]) (tabO_ok hT_25.1) [] [] [] ?_ ?_
       ·refine drS [0, 1, 2] 2 [] [] (mkS 74 [(1, .sl (route_2.map A_Hurdle) none), (2, i6 at_3), (3, .ptr 0 0), (6, .ptr 1 0), (9, i6 low_12), (10, i6 high_13), (11, i6 (IntKind.i64.wrap (Int.tdiv (IntKind.i64.wrap (low_12 + high_13)) 2))), (12, .ptr 2 0), (41, (A_Float r_23)), (42, (A_Float r_23))]) (by simp) (by kernel_rfl) trivial (by kernel_rfl) ?_
        refine drC hT_25.2 0 _ [(A_Float r_23)] (v_br2_Least r_24) rfl rfl rfl rfl rfl (fun _ => rfl) rfl (by simp; try rfl) (fun _ => b_br2_Least _ _ _ _) ?_
        exact DrO.nil rfl
       ·dsimp only [List.getLastD_cons, List.getLastD_nil]
        obtain ⟨r_26, hr_26, h⟩ := bE h
        refine ExO.callL [] [(A_Float r_23), (A_br2_Truth r_24)] rfl rfl (a_br2_Upright r_23 r_24) rfl rfl (d_br2_Upright N r_23 r_24 r_26 hr_26) (b_br2_Upright _ _ _ _) rfl ?_
        refine rn 0 [1, 2, 3, 6, 9, 10, 11, 44] (mkS 74 [(1, .sl (route_2.map A_Hurdle) none), (2, i6 at_3), (3, .ptr 0 0), (6, .ptr 1 0), (9, i6 low_12), (10, i6 high_13), (11, i6 (IntKind.i64.wrap (Int.tdiv (IntKind.i64.wrap (low_12 + high_13)) 2))), (44, .bool r_26)]) ⟨[(C_Float f_1), [i6 0, i6 0], (C_Float r_23)], []⟩ ?_
        refine ExO.nil ?_
        rcases condI h with ⟨hc_27, h⟩ | ⟨hc_27, h⟩
        ·refine Ex.condT _ rfl hc_27 ?_
         refine rg 2 [1, 2, 3, 6, 9, 10] (mkS 74 [(1, .sl (route_2.map A_Hurdle) none), (2, i6 at_3), (3, .ptr 0 0), (6, .ptr 1 0), (9, i6 low_12), (10, i6 (IntKind.i64.wrap (Int.tdiv (IntKind.i64.wrap (low_12 + high_13)) 2)))]) ⟨[(C_Float f_1), [i6 0, i6 0], (C_Float r_23)], []⟩ ?_
         (try simp only [reduceCtorEq, AEx.ex.injEq, Nat.reduceEqDiff, if_true, if_false])
         exact ⟨_, _, forgetA (m := 74) 2 [] [(1, .sl (route_2.map A_Hurdle) none), (2, i6 at_3), (3, .ptr 0 0), (6, .ptr 1 0), (9, i6 low_12), (10, i6 (IntKind.i64.wrap (Int.tdiv (IntKind.i64.wrap (low_12 + high_13)) 2)))] [(C_Float f_1), [i6 0, i6 0]] [] (by simp) (by simp) ⟨(reN (KL_Hurdle _)), rfl, rfl, rfl, rfl, rfl, trivial⟩ (by simp) rfl (by decide), low_12, (IntKind.i64.wrap (Int.tdiv (IntKind.i64.wrap (low_12 + high_13)) 2)), h, rfl, rfl⟩
        ·refine Ex.condF _ rfl hc_27 ?_
         refine rg 3 [1, 2, 3, 6, 9, 10] (mkS 74 [(1, .sl (route_2.map A_Hurdle) none), (2, i6 at_3), (3, .ptr 0 0), (6, .ptr 1 0), (9, i6 (IntKind.i64.wrap ((IntKind.i64.wrap (Int.tdiv (IntKind.i64.wrap (low_12 + high_13)) 2)) + 1))), (10, i6 high_13)]) ⟨[(C_Float f_1), [i6 0, i6 0], (C_Float r_23)], []⟩ ?_
         (try simp only [reduceCtorEq, AEx.ex.injEq, Nat.reduceEqDiff, if_true, if_false])
         exact ⟨_, _, forgetA (m := 74) 2 [] [(1, .sl (route_2.map A_Hurdle) none), (2, i6 at_3), (3, .ptr 0 0), (6, .ptr 1 0), (9, i6 (IntKind.i64.wrap ((IntKind.i64.wrap (Int.tdiv (IntKind.i64.wrap (low_12 + high_13)) 2)) + 1))), (10, i6 high_13)] [(C_Float f_1), [i6 0, i6 0]] [] (by simp) (by simp) ⟨(reN (KL_Hurdle _)), rfl, rfl, rfl, rfl, rfl, trivial⟩ (by simp) rfl (by decide), (IntKind.i64.wrap ((IntKind.i64.wrap (Int.tdiv (IntKind.i64.wrap (low_12 + high_13)) 2)) + 1)), high_13, h, rfl, rfl⟩
      ·rintro a S ⟨low_18, high_19, h, rfl, rfl⟩
       subst hK_22
       dsimp only
       exact ⟨_, _, Forgets.refl _ _ _, k, Nat.lt_succ_self k, low_18, high_19, h, rfl, rfl⟩
     ·refine Ex.condF _ rfl hc_17 ?_
      refine Ex.exit ?_
      (try simp only [reduceCtorEq, AEx.ex.injEq, Nat.reduceEqDiff, if_true, if_false])
      exact ⟨_, _, forgetK [1, 2, 3, 6, 9], low_12, h, rfl, rfl⟩
   ·rintro a S ⟨low_8, h, rfl, rfl⟩
    subst hK_11
    refine Ex.seq (rg 2 [1, 2, 3, 6, 13] (mkS 74 [(1, .sl (route_2.map A_Hurdle) none), (2, i6 at_3), (3, .ptr 0 0), (6, .ptr 1 0), (13, i6 low_8)]) ⟨[(C_Float f_1), [i6 0, i6 0]], []⟩ ?_)
    refine Ex.seq (rg 2 [1, 2, 3, 6, 9, 10, 13] (mkS 74 [(1, .sl (route_2.map A_Hurdle) none), (2, i6 at_3), (3, .ptr 0 0), (6, .ptr 1 0), (9, i6 0), (10, i6 100001), (13, i6 low_8)]) ⟨[(C_Float f_1), [i6 0, i6 0]], []⟩ ?_)
    refine Ex.seq ?_
    obtain ⟨K_30, hK_31, h⟩ := letE h
    refine Ex.blockJ (fun a S => ∃ (low_28 : Int), K_30 low_28 = some r ∧ a = mkS 74 [(6, .ptr 1 0), (9, i6 low_28), (13, i6 low_8)] ∧ S = ⟨[(C_Float f_1), [i6 0, i6 0]], []⟩) ?_ ?_
    ·obtain ⟨B_35, hB_36, h⟩ := loop2I h
     refine Ex.loopF (fun k a S => ∃ (low_32 : Int), ∃ (high_33 : Int), loop2 B_35 k low_32 high_33 = some r ∧ a = mkS 74 [(1, .sl (route_2.map A_Hurdle) none), (2, i6 at_3), (3, .ptr 0 0), (6, .ptr 1 0), (9, i6 low_32), (10, i6 high_33), (13, i6 low_8)] ∧ S = ⟨[(C_Float f_1), [i6 0, i6 0]], []⟩) N ⟨_, _, Forgets.refl _ _ _, 0, 100001, h, rfl, rfl⟩ ?_
     rintro k a S ⟨low_32, high_33, h, rfl, rfl⟩
     cases k with
     | zero => exact (loop2Z h).elim
     | succ k =>
      replace h := loop2S h hB_36
      refine Ex.seq (Ex.seq ?_)
      refine rg 3 [1, 2, 3, 6, 9, 10, 13, 51] (mkS 74 [(1, .sl (route_2.map A_Hurdle) none), (2, i6 at_3), (3, .ptr 0 0), (6, .ptr 1 0), (9, i6 low_32), (10, i6 high_33), (13, i6 low_8), (51, .bool (decide (low_32 < high_33)))]) ⟨[(C_Float f_1), [i6 0, i6 0]], []⟩ ?_
      rcases condI h with ⟨hc_37, h⟩ | ⟨hc_37, h⟩
      ·refine Ex.condT _ rfl hc_37 ?_
       refine Ex.skip ?_
       obtain ⟨K_41, hK_42, h⟩ := letE h
       refine Ex.blockJ (fun a S => ∃ (low_38 : Int), ∃ (high_39 : Int), K_41 low_38 high_39 = some r ∧ a = mkS 74 [(1, .sl (route_2.map A_Hurdle) none), (2, i6 at_3), (3, .ptr 0 0), (6, .ptr 1 0), (9, i6 low_38), (10, i6 high_39), (13, i6 low_8)] ∧ S = ⟨[(C_Float f_1), [i6 0, i6 0]], []⟩) ?_ ?_
       ·refine Ex.seq (rg 5 [1, 2, 3, 6, 9, 10, 13, 14] (mkS 74 [(1, .sl (route_2.map A_Hurdle) none), (2, i6 at_3), (3, .ptr 0 0), (6, .ptr 1 0), (9, i6 low_32), (10, i6 high_33), (13, i6 low_8), (14, i6 (IntKind.i64.wrap (Int.tdiv (IntKind.i64.wrap (low_32 + high_33)) 2)))]) ⟨[(C_Float f_1), [i6 0, i6 0]], []⟩ ?_)
        refine Ex.seq ?_
        obtain ⟨r_43, hr_43, h⟩ := bE h
        refine Ex.reg (rn 3 [1, 2, 3, 6, 9, 10, 13, 14, 56, 57, 58] (mkS 74 [(1, .sl (route_2.map A_Hurdle) none), (2, i6 at_3), (3, .ptr 0 0), (6, .ptr 1 0), (9, i6 low_32), (10, i6 high_33), (13, i6 low_8), (14, i6 (IntKind.i64.wrap (Int.tdiv (IntKind.i64.wrap (low_32 + high_33)) 2))), (56, (A_Float f_1)), (57, i6 at_3), (58, i6 (IntKind.i64.wrap (Int.tdiv (IntKind.i64.wrap (low_32 + high_33)) 2)))]) ⟨[(C_Float f_1), [i6 0, i6 0]], []⟩ ?_)
        refine ExO.callL [] [(A_Float f_1), i6 at_3, i6 (IntKind.i64.wrap (Int.tdiv (IntKind.i64.wrap (low_32 + high_33)) 2))] rfl rfl (a_br2_With f_1 at_3 (IntKind.i64.wrap (Int.tdiv (IntKind.i64.wrap (low_32 + high_33)) 2))) rfl rfl (d_br2_With N f_1 at_3 (IntKind.i64.wrap (Int.tdiv (IntKind.i64.wrap (low_32 + high_33)) 2)) r_43 hr_43) (b_br2_With _ _ _ _) rfl ?_
        obtain ⟨r_44, hr_44, h⟩ := bE h
        refine rn 1 [1, 2, 3, 6, 9, 10, 13, 14, 59, 60] (mkS 74 [(1, .sl (route_2.map A_Hurdle) none), (2, i6 at_3), (3, .ptr 0 0), (6, .ptr 1 0), (9, i6 low_32), (10, i6 high_33), (13, i6 low_8), (14, i6 (IntKind.i64.wrap (Int.tdiv (IntKind.i64.wrap (low_32 + high_33)) 2))), (59, (A_Float r_43)), (60, .sl (route_2.map A_Hurdle) none)]) ⟨[(C_Float f_1), [i6 0, i6 0]], []⟩ ?_
        refine ExO.callL [] [(A_Float r_43), .sl (route_2.map A_Hurdle) none] rfl rfl (a_br2_stops r_43 route_2) rfl rfl (d_br2_stops N r_43 route_2 r_44 hr_44) (b_br2_stops _ _ _ _) rfl ?_
        refine rn 1 [1, 2, 3, 6, 9, 10, 13, 14, 62] (mkS 74 [(1, .sl (route_2.map A_Hurdle) none), (2, i6 at_3), (3, .ptr 0 0), (6, .ptr 1 0), (9, i6 low_32), (10, i6 high_33), (13, i6 low_8), (14, i6 (IntKind.i64.wrap (Int.tdiv (IntKind.i64.wrap (low_32 + high_33)) 2))), (62, .bool (decide (r_44 < 0)))]) ⟨[(C_Float f_1), [i6 0, i6 0]], []⟩ ?_
        refine ExO.nil ?_
        rcases condI h with ⟨hc_45, h⟩ | ⟨hc_45, h⟩
        ·refine Ex.condT _ rfl hc_45 ?_
         refine rg 3 [1, 2, 3, 6, 9, 10, 13] (mkS 74 [(1, .sl (route_2.map A_Hurdle) none), (2, i6 at_3), (3, .ptr 0 0), (6, .ptr 1 0), (9, i6 (IntKind.i64.wrap ((IntKind.i64.wrap (Int.tdiv (IntKind.i64.wrap (low_32 + high_33)) 2)) + 1))), (10, i6 high_33), (13, i6 low_8)]) ⟨[(C_Float f_1), [i6 0, i6 0]], []⟩ ?_
         (try simp only [reduceCtorEq, AEx.ex.injEq, Nat.reduceEqDiff, if_true, if_false])
         exact ⟨_, _, Forgets.refl _ _ _, (IntKind.i64.wrap ((IntKind.i64.wrap (Int.tdiv (IntKind.i64.wrap (low_32 + high_33)) 2)) + 1)), high_33, h, rfl, rfl⟩
        ·refine Ex.condF _ rfl hc_45 ?_
         refine rg 2 [1, 2, 3, 6, 9, 10, 13] (mkS 74 [(1, .sl (route_2.map A_Hurdle) none), (2, i6 at_3), (3, .ptr 0 0), (6, .ptr 1 0), (9, i6 low_32), (10, i6 (IntKind.i64.wrap (Int.tdiv (IntKind.i64.wrap (low_32 + high_33)) 2))), (13, i6 low_8)]) ⟨[(C_Float f_1), [i6 0, i6 0]], []⟩ ?_
         (try simp only [reduceCtorEq, AEx.ex.injEq, Nat.reduceEqDiff, if_true, if_false])
         exact ⟨_, _, Forgets.refl _ _ _, low_32, (IntKind.i64.wrap (Int.tdiv (IntKind.i64.wrap (low_32 + high_33)) 2)), h, rfl, rfl⟩
       ·rintro a S ⟨low_38, high_39, h, rfl, rfl⟩
        subst hK_42
        dsimp only
        exact ⟨_, _, Forgets.refl _ _ _, k, Nat.lt_succ_self k, low_38, high_39, h, rfl, rfl⟩
      ·refine Ex.condF _ rfl hc_37 ?_
       refine Ex.exit ?_
       (try simp only [reduceCtorEq, AEx.ex.injEq, Nat.reduceEqDiff, if_true, if_false])
       exact ⟨_, _, forgetK [6, 9, 13], low_32, h, rfl, rfl⟩
    ·rintro a S ⟨low_28, h, rfl, rfl⟩
     subst hK_31
     refine Ex.seq (Ex.seq ?_)
     refine rg 3 [6, 9, 13, 68] (mkS 74 [(6, .ptr 1 0), (9, i6 low_28), (13, i6 low_8), (68, .bool (decide (low_8 ≥ low_28)))]) ⟨[(C_Float f_1), [i6 0, i6 0]], []⟩ ?_
     rcases condI h with ⟨hc_46, h⟩ | ⟨hc_46, h⟩
     ·refine Ex.condT _ rfl hc_46 ?_
      refine Ex.seq (rg 3 [6, 7] (mkS 74 [(6, .ptr 1 0), (7, i6 7)]) ⟨[(C_Float f_1), [i6 0, i6 0]], []⟩ ?_)
      refine Ex.ret ?_
      obtain rfl := sJ h
      exact rt (.tup [.agg [i6 0, i6 0], i6 7])
     ·refine Ex.condF _ rfl hc_46 ?_
      refine Ex.skip ?_
      refine Ex.seq (rg 6 [6, 7] (mkS 74 [(6, .ptr 1 0), (7, i6 0)]) ⟨[(C_Float f_1), [i6 low_8, i6 (IntKind.i64.wrap (low_28 - 1))]], []⟩ ?_)
      refine Ex.ret ?_
      obtain rfl := sJ h
      exact rt (.tup [.agg [i6 low_8, i6 (IntKind.i64.wrap (low_28 - 1))], i6 0])
end Go.Proofs.Ytdmfnhamipmmnaa
end
