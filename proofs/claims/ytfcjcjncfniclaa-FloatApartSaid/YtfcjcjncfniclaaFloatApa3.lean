/- Part 4 of what the law needs: own work, put together. -/
import Derived.ProofKit
import Derived.Test.YtfcjcjncfniclaaRows
import Derived.Test.YtfcjcjncfniclaaFloatApa2
section
namespace Go.Proofs.Ytfcjcjncfniclaa
open Go.RowKit
set_option linter.unusedVariables false
set_option linter.unusedSimpArgs false
set_option maxRecDepth 10000
set_option maxHeartbeats 4000000
attribute [local simp] ren ren1 AV.plain AV.plain1 AV.clean cleanL cleanI cleanBo cleanSt cleanII KL_bk_Drum KL_api_Span KL_api_Load KL_api_Float KL_api_Near A_bk_Drum C_bk_Drum A_api_Span C_api_Span A_api_Load C_api_Load A_api_Float C_api_Float A_api_Near C_api_Near back back1 re re1 List.idxOf? List.findIdx? List.findIdx?.go KB_bk_Drum KB_api_Span KB_api_Load KB_api_Float KB_api_Near
def p_float_within (N : Nat) (n_1 : Int) (least_2 : Int) (most_3 : Int) : Option (Bool) := (bif (decide (n_1 ≥ least_2)) then some (decide (n_1 ≤ most_3)) else some false)
def v_float_within (r : Bool) : AV := .bool r
attribute [local simp] v_float_within
theorem a_float_within (n_1 : Int) (least_2 : Int) (most_3 : Int) : [.int .i64 n_1, .int .i64 least_2, .int .i64 most_3].mapM (ren []) = some [.int .i64 n_1, .int .i64 least_2, .int .i64 most_3] := by simp
theorem b_float_within (r : Bool) (n n2 m : Nat) : back n n2 m (v_float_within r) = some (v_float_within r) := by simp
theorem d_float_within (N : Nat) (n_1 : Int) (least_2 : Int) (most_3 : Int) (r : Bool) (h : p_float_within N n_1 least_2 most_3 = some r) : Does Try.prog 83 [.int .i64 n_1, .int .i64 least_2, .int .i64 most_3] [] fun v c => v = v_float_within r ∧ c = [] := by
  unfold p_float_within at h
  refine Does.ofL comp83 _ _ rfl rfl ?_
  refine Ex.seq ?_
  refine regH 1 [] [0, 1, 2] [] (mkS 15 [(0, .int .i64 n_1), (1, .int .i64 least_2), (2, .int .i64 most_3)]) (⟨[], []⟩) (by kernel_rfl) trivial rfl ?_
  refine Ex.seq ?_
  rcases condI h with ⟨hc_4, h⟩ | ⟨hc_4, h⟩
  · refine regH 9 [(3, .eq (.bool true))] [6] [AV.bool (decide (n_1 ≥ least_2)) = AV.bool true] (mkS 15 [(6, .bool (decide (n_1 ≤ most_3)))]) (⟨[], []⟩) (by kernel_rfl) ⟨congrArg AV.bool hc_4, trivial⟩ rfl ?_
    refine Ex.ret ?_
    obtain rfl := Option.some.inj h
    exact ⟨.inr rfl, .bool (decide (n_1 ≤ most_3)), by kernel_rfl, by kernel_rfl, by kernel_rfl, by kernel_rfl⟩
  · refine regH 9 [(3, .eq (.bool false))] [6] [AV.bool (decide (n_1 ≥ least_2)) = AV.bool false] (mkS 15 [(6, .bool false)]) (⟨[], []⟩) (by kernel_rfl) ⟨congrArg AV.bool hc_4, trivial⟩ rfl ?_
    refine Ex.ret ?_
    obtain rfl := Option.some.inj h
    exact ⟨.inr rfl, .bool false, by kernel_rfl, by kernel_rfl, by kernel_rfl, by kernel_rfl⟩
def p_float_checkFrame (N : Nat) (f_1 : T_api_Float) : Option (Int) := (letJ (fun (y_2 : Bool) => (bif y_2 then some 2 else (letJ (fun (y_10 : Bool) => (bif y_10 then some 2 else (bif (decide (f_1.Front ≥ f_1.Rear)) then some 9 else (letJ (fun (y_19 : Bool) => (bif y_19 then some 2 else (letJ (fun (y_27 : Bool) => (bif y_27 then some 2 else some 0)) (fun k_28 => ((p_float_within N f_1.Middle 0 f_1.Length).bind fun r_31 => (bif (!r_31) then (k_28 true) else ((p_float_within N f_1.High 0 2000).bind fun r_33 => (k_28 (!r_33))))))))) (fun k_20 => ((p_float_within N f_1.Turn 0 20000).bind fun r_23 => (bif (!r_23) then (k_20 true) else ((p_float_within N f_1.Kilos 0 100000).bind fun r_25 => (k_20 (!r_25)))))))))) (fun k_11 => ((p_float_within N f_1.Front 0 f_1.Length).bind fun r_14 => (bif (!r_14) then (k_11 true) else ((p_float_within N f_1.Rear 0 f_1.Length).bind fun r_16 => (k_11 (!r_16))))))))) (fun k_3 => ((p_float_within N f_1.Length 1 3000).bind fun r_6 => (bif (!r_6) then (k_3 true) else ((p_float_within N f_1.Width 1 1000).bind fun r_8 => (k_3 (!r_8)))))))
def v_float_checkFrame (r : Int) : AV := .int .i64 r
attribute [local simp] v_float_checkFrame
theorem a_float_checkFrame (f_1 : T_api_Float) : [(A_api_Float f_1)].mapM (ren []) = some [(A_api_Float f_1)] := by simp
theorem b_float_checkFrame (r : Int) (n n2 m : Nat) : back n n2 m (v_float_checkFrame r) = some (v_float_checkFrame r) := by simp
theorem d_float_checkFrame (N : Nat) (f_1 : T_api_Float) (r : Int) (h : p_float_checkFrame N f_1 = some r) : Does Try.prog 72 [(A_api_Float f_1)] [] fun v c => v = v_float_checkFrame r ∧ c = [] := by
  unfold p_float_checkFrame at h
  refine Does.ofL comp72 _ _ rfl rfl ?_
  refine Ex.seq ?_
  refine regH 2 [] [1] [] (mkS 59 [(1, .ptr 0 0)]) (⟨[(C_api_Float f_1)], []⟩) (by kernel_rfl) trivial rfl ?_
  refine Ex.seq ?_
  refine Ex.blockK ?_
  obtain ⟨K_4, hK_5, h⟩ := letE h
  refine Ex.seqJ (fun a S => ∃ (y_2 : Bool), K_4 y_2 = some r ∧ a = mkS 59 [(1, .ptr 0 0), (3, .bool y_2)] ∧ S = ⟨[(C_api_Float f_1)], []⟩) ?_ ?_
  · obtain ⟨r_6, hr_6, h⟩ := Option.bind_eq_some_iff.1 h
    refine Ex.reg ?_
    refine runH 2 [] [1, 5] [] (mkS 59 [(1, .ptr 0 0), (5, .int .i64 f_1.Length)]) (⟨[(C_api_Float f_1)], []⟩) (by kernel_rfl) trivial ?_
    refine ExO.callL [] [.int .i64 f_1.Length, .int .i64 1, .int .i64 3000] rfl rfl (a_float_within f_1.Length 1 3000) rfl rfl (d_float_within N f_1.Length 1 3000 r_6 hr_6) (b_float_within _ _ _ _) rfl ?_
    rcases condI h with ⟨hc_7, h⟩ | ⟨hc_7, h⟩
    · refine runH 8 [(1, .eq (.bool true))] [1, 3] [AV.bool (!r_6) = AV.bool true] (mkS 59 [(1, .ptr 0 0), (3, .bool true)]) (⟨[(C_api_Float f_1)], []⟩) (by kernel_rfl) ⟨congrArg AV.bool hc_7, trivial⟩ ?_
      refine ExO.nil ?_
      (try simp only [reduceCtorEq, AEx.ex.injEq, Nat.reduceEqDiff, if_true, if_false])
      exact ⟨_, _, Forgets.refl _ _ _, true, h, rfl, rfl⟩
    · obtain ⟨r_8, hr_8, h⟩ := Option.bind_eq_some_iff.1 h
      refine runH 4 [(1, .eq (.bool false))] [1, 8, 10] [AV.bool (!r_6) = AV.bool false] (mkS 59 [(1, .ptr 0 0), (8, .bool false), (10, .int .i64 f_1.Width)]) (⟨[(C_api_Float f_1)], []⟩) (by kernel_rfl) ⟨congrArg AV.bool hc_7, trivial⟩ ?_
      refine ExO.callL [] [.int .i64 f_1.Width, .int .i64 1, .int .i64 1000] rfl rfl (a_float_within f_1.Width 1 1000) rfl rfl (d_float_within N f_1.Width 1 1000 r_8 hr_8) (b_float_within _ _ _ _) rfl ?_
      refine runH 3 [] [1, 3] [] (mkS 59 [(1, .ptr 0 0), (3, .bool (!r_8))]) (⟨[(C_api_Float f_1)], []⟩) (by kernel_rfl) trivial ?_
      refine ExO.nil ?_
      (try simp only [reduceCtorEq, AEx.ex.injEq, Nat.reduceEqDiff, if_true, if_false])
      exact ⟨_, _, Forgets.refl _ _ _, (!r_8), h, rfl, rfl⟩
  · rintro a S ⟨y_2, h, rfl, rfl⟩
    subst hK_5
    rcases condI h with ⟨hc_9, h⟩ | ⟨hc_9, h⟩
    · refine Ex.condT _ rfl hc_9 ?_
      refine Ex.seq ?_
      refine regH 1 [] [2] [] (mkS 59 [(2, .int .i64 2)]) (⟨[(C_api_Float f_1)], []⟩) (by kernel_rfl) trivial rfl ?_
      refine Ex.ret ?_
      obtain rfl := Option.some.inj h
      exact ⟨.inr rfl, .int .i64 2, by kernel_rfl, by kernel_rfl, by kernel_rfl, by kernel_rfl⟩
    · refine Ex.condF _ rfl hc_9 ?_
      obtain ⟨K_12, hK_13, h⟩ := letE h
      refine Ex.seqJ (fun a S => ∃ (y_10 : Bool), K_12 y_10 = some r ∧ a = mkS 59 [(1, .ptr 0 0), (14, .bool y_10)] ∧ S = ⟨[(C_api_Float f_1)], []⟩) ?_ ?_
      · obtain ⟨r_14, hr_14, h⟩ := Option.bind_eq_some_iff.1 h
        refine Ex.reg ?_
        refine runH 4 [] [1, 16, 18] [] (mkS 59 [(1, .ptr 0 0), (16, .int .i64 f_1.Front), (18, .int .i64 f_1.Length)]) (⟨[(C_api_Float f_1)], []⟩) (by kernel_rfl) trivial ?_
        refine ExO.callL [] [.int .i64 f_1.Front, .int .i64 0, .int .i64 f_1.Length] rfl rfl (a_float_within f_1.Front 0 f_1.Length) rfl rfl (d_float_within N f_1.Front 0 f_1.Length r_14 hr_14) (b_float_within _ _ _ _) rfl ?_
        rcases condI h with ⟨hc_15, h⟩ | ⟨hc_15, h⟩
        · refine runH 10 [(1, .eq (.bool true))] [1, 14] [AV.bool (!r_14) = AV.bool true] (mkS 59 [(1, .ptr 0 0), (14, .bool true)]) (⟨[(C_api_Float f_1)], []⟩) (by kernel_rfl) ⟨congrArg AV.bool hc_15, trivial⟩ ?_
          refine ExO.nil ?_
          (try simp only [reduceCtorEq, AEx.ex.injEq, Nat.reduceEqDiff, if_true, if_false])
          exact ⟨_, _, Forgets.refl _ _ _, true, h, rfl, rfl⟩
        · obtain ⟨r_16, hr_16, h⟩ := Option.bind_eq_some_iff.1 h
          refine runH 6 [(1, .eq (.bool false))] [1, 21, 23, 25] [AV.bool (!r_14) = AV.bool false] (mkS 59 [(1, .ptr 0 0), (21, .bool false), (23, .int .i64 f_1.Rear), (25, .int .i64 f_1.Length)]) (⟨[(C_api_Float f_1)], []⟩) (by kernel_rfl) ⟨congrArg AV.bool hc_15, trivial⟩ ?_
          refine ExO.callL [] [.int .i64 f_1.Rear, .int .i64 0, .int .i64 f_1.Length] rfl rfl (a_float_within f_1.Rear 0 f_1.Length) rfl rfl (d_float_within N f_1.Rear 0 f_1.Length r_16 hr_16) (b_float_within _ _ _ _) rfl ?_
          refine runH 3 [] [1, 14] [] (mkS 59 [(1, .ptr 0 0), (14, .bool (!r_16))]) (⟨[(C_api_Float f_1)], []⟩) (by kernel_rfl) trivial ?_
          refine ExO.nil ?_
          (try simp only [reduceCtorEq, AEx.ex.injEq, Nat.reduceEqDiff, if_true, if_false])
          exact ⟨_, _, Forgets.refl _ _ _, (!r_16), h, rfl, rfl⟩
      · rintro a S ⟨y_10, h, rfl, rfl⟩
        subst hK_13
        rcases condI h with ⟨hc_17, h⟩ | ⟨hc_17, h⟩
        · refine Ex.condT _ rfl hc_17 ?_
          refine Ex.seq ?_
          refine regH 1 [] [2] [] (mkS 59 [(2, .int .i64 2)]) (⟨[(C_api_Float f_1)], []⟩) (by kernel_rfl) trivial rfl ?_
          refine Ex.ret ?_
          obtain rfl := Option.some.inj h
          exact ⟨.inr rfl, .int .i64 2, by kernel_rfl, by kernel_rfl, by kernel_rfl, by kernel_rfl⟩
        · refine Ex.condF _ rfl hc_17 ?_
          refine Ex.seq ?_
          refine regH 6 [] [1, 29] [] (mkS 59 [(1, .ptr 0 0), (29, .bool (decide (f_1.Front ≥ f_1.Rear)))]) (⟨[(C_api_Float f_1)], []⟩) (by kernel_rfl) trivial rfl ?_
          rcases condI h with ⟨hc_18, h⟩ | ⟨hc_18, h⟩
          · refine Ex.condT _ rfl hc_18 ?_
            refine Ex.seq ?_
            refine regH 1 [] [2] [] (mkS 59 [(2, .int .i64 9)]) (⟨[(C_api_Float f_1)], []⟩) (by kernel_rfl) trivial rfl ?_
            refine Ex.ret ?_
            obtain rfl := Option.some.inj h
            exact ⟨.inr rfl, .int .i64 9, by kernel_rfl, by kernel_rfl, by kernel_rfl, by kernel_rfl⟩
          · refine Ex.condF _ rfl hc_18 ?_
            obtain ⟨K_21, hK_22, h⟩ := letE h
            refine Ex.seqJ (fun a S => ∃ (y_19 : Bool), K_21 y_19 = some r ∧ a = mkS 59 [(1, .ptr 0 0), (35, .bool y_19)] ∧ S = ⟨[(C_api_Float f_1)], []⟩) ?_ ?_
            · obtain ⟨r_23, hr_23, h⟩ := Option.bind_eq_some_iff.1 h
              refine Ex.reg ?_
              refine runH 2 [] [1, 37] [] (mkS 59 [(1, .ptr 0 0), (37, .int .i64 f_1.Turn)]) (⟨[(C_api_Float f_1)], []⟩) (by kernel_rfl) trivial ?_
              refine ExO.callL [] [.int .i64 f_1.Turn, .int .i64 0, .int .i64 20000] rfl rfl (a_float_within f_1.Turn 0 20000) rfl rfl (d_float_within N f_1.Turn 0 20000 r_23 hr_23) (b_float_within _ _ _ _) rfl ?_
              rcases condI h with ⟨hc_24, h⟩ | ⟨hc_24, h⟩
              · refine runH 8 [(1, .eq (.bool true))] [1, 35] [AV.bool (!r_23) = AV.bool true] (mkS 59 [(1, .ptr 0 0), (35, .bool true)]) (⟨[(C_api_Float f_1)], []⟩) (by kernel_rfl) ⟨congrArg AV.bool hc_24, trivial⟩ ?_
                refine ExO.nil ?_
                (try simp only [reduceCtorEq, AEx.ex.injEq, Nat.reduceEqDiff, if_true, if_false])
                exact ⟨_, _, Forgets.refl _ _ _, true, h, rfl, rfl⟩
              · obtain ⟨r_25, hr_25, h⟩ := Option.bind_eq_some_iff.1 h
                refine runH 4 [(1, .eq (.bool false))] [1, 40, 42] [AV.bool (!r_23) = AV.bool false] (mkS 59 [(1, .ptr 0 0), (40, .bool false), (42, .int .i64 f_1.Kilos)]) (⟨[(C_api_Float f_1)], []⟩) (by kernel_rfl) ⟨congrArg AV.bool hc_24, trivial⟩ ?_
                refine ExO.callL [] [.int .i64 f_1.Kilos, .int .i64 0, .int .i64 100000] rfl rfl (a_float_within f_1.Kilos 0 100000) rfl rfl (d_float_within N f_1.Kilos 0 100000 r_25 hr_25) (b_float_within _ _ _ _) rfl ?_
                refine runH 3 [] [1, 35] [] (mkS 59 [(1, .ptr 0 0), (35, .bool (!r_25))]) (⟨[(C_api_Float f_1)], []⟩) (by kernel_rfl) trivial ?_
                refine ExO.nil ?_
                (try simp only [reduceCtorEq, AEx.ex.injEq, Nat.reduceEqDiff, if_true, if_false])
                exact ⟨_, _, Forgets.refl _ _ _, (!r_25), h, rfl, rfl⟩
            · rintro a S ⟨y_19, h, rfl, rfl⟩
              subst hK_22
              rcases condI h with ⟨hc_26, h⟩ | ⟨hc_26, h⟩
              · refine Ex.condT _ rfl hc_26 ?_
                refine Ex.seq ?_
                refine regH 1 [] [2] [] (mkS 59 [(2, .int .i64 2)]) (⟨[(C_api_Float f_1)], []⟩) (by kernel_rfl) trivial rfl ?_
                refine Ex.ret ?_
                obtain rfl := Option.some.inj h
                exact ⟨.inr rfl, .int .i64 2, by kernel_rfl, by kernel_rfl, by kernel_rfl, by kernel_rfl⟩
              · refine Ex.condF _ rfl hc_26 ?_
                obtain ⟨K_29, hK_30, h⟩ := letE h
                refine Ex.seqJ (fun a S => ∃ (y_27 : Bool), K_29 y_27 = some r ∧ a = mkS 59 [(46, .bool y_27)] ∧ S = ⟨[], []⟩) ?_ ?_
                · obtain ⟨r_31, hr_31, h⟩ := Option.bind_eq_some_iff.1 h
                  refine Ex.reg ?_
                  refine runH 4 [] [1, 48, 50] [] (mkS 59 [(1, .ptr 0 0), (48, .int .i64 f_1.Middle), (50, .int .i64 f_1.Length)]) (⟨[(C_api_Float f_1)], []⟩) (by kernel_rfl) trivial ?_
                  refine ExO.callL [] [.int .i64 f_1.Middle, .int .i64 0, .int .i64 f_1.Length] rfl rfl (a_float_within f_1.Middle 0 f_1.Length) rfl rfl (d_float_within N f_1.Middle 0 f_1.Length r_31 hr_31) (b_float_within _ _ _ _) rfl ?_
                  rcases condI h with ⟨hc_32, h⟩ | ⟨hc_32, h⟩
                  · refine runH 8 [(1, .eq (.bool true))] [46] [AV.bool (!r_31) = AV.bool true] (mkS 59 [(46, .bool true)]) (⟨[(C_api_Float f_1)], []⟩) (by kernel_rfl) ⟨congrArg AV.bool hc_32, trivial⟩ ?_
                    refine ExO.nil ?_
                    (try simp only [reduceCtorEq, AEx.ex.injEq, Nat.reduceEqDiff, if_true, if_false])
                    exact ⟨_, _, forgetA (m := 59) 0 [] [(46, .bool true)] [] [] (by simp) (by simp) ⟨rfl, trivial⟩ (by simp) rfl (by decide), true, h, rfl, rfl⟩
                  · obtain ⟨r_33, hr_33, h⟩ := Option.bind_eq_some_iff.1 h
                    refine runH 4 [(1, .eq (.bool false))] [53, 55] [AV.bool (!r_31) = AV.bool false] (mkS 59 [(53, .bool false), (55, .int .i64 f_1.High)]) (⟨[(C_api_Float f_1)], []⟩) (by kernel_rfl) ⟨congrArg AV.bool hc_32, trivial⟩ ?_
                    refine ExO.callL [] [.int .i64 f_1.High, .int .i64 0, .int .i64 2000] rfl rfl (a_float_within f_1.High 0 2000) rfl rfl (d_float_within N f_1.High 0 2000 r_33 hr_33) (b_float_within _ _ _ _) rfl ?_
                    refine runH 3 [] [46] [] (mkS 59 [(46, .bool (!r_33))]) (⟨[(C_api_Float f_1)], []⟩) (by kernel_rfl) trivial ?_
                    refine ExO.nil ?_
                    (try simp only [reduceCtorEq, AEx.ex.injEq, Nat.reduceEqDiff, if_true, if_false])
                    exact ⟨_, _, forgetA (m := 59) 0 [] [(46, .bool (!r_33))] [] [] (by simp) (by simp) ⟨rfl, trivial⟩ (by simp) rfl (by decide), (!r_33), h, rfl, rfl⟩
                · rintro a S ⟨y_27, h, rfl, rfl⟩
                  subst hK_30
                  rcases condI h with ⟨hc_34, h⟩ | ⟨hc_34, h⟩
                  · refine Ex.condT _ rfl hc_34 ?_
                    refine Ex.seq ?_
                    refine regH 1 [] [2] [] (mkS 59 [(2, .int .i64 2)]) (⟨[], []⟩) (by kernel_rfl) trivial rfl ?_
                    refine Ex.ret ?_
                    obtain rfl := Option.some.inj h
                    exact ⟨.inr rfl, .int .i64 2, by kernel_rfl, by kernel_rfl, by kernel_rfl, by kernel_rfl⟩
                  · refine Ex.condF _ rfl hc_34 ?_
                    refine Ex.skip ?_
                    refine Ex.seq ?_
                    refine regH 1 [] [2] [] (mkS 59 [(2, .int .i64 0)]) (⟨[], []⟩) (by kernel_rfl) trivial rfl ?_
                    refine Ex.ret ?_
                    obtain rfl := Option.some.inj h
                    exact ⟨.inr rfl, .int .i64 0, by kernel_rfl, by kernel_rfl, by kernel_rfl, by kernel_rfl⟩
def p_float_checkSpan (N : Nat) (s_1 : T_api_Span) (most_2 : Int) : Option (Int) := (letJ (fun (y_3 : Bool) => (bif y_3 then some 2 else (bif (decide (s_1.Lo > s_1.Hi)) then some 9 else some 0))) (fun k_4 => ((p_float_within N s_1.Lo 0 most_2).bind fun r_7 => (bif (!r_7) then (k_4 true) else ((p_float_within N s_1.Hi 0 most_2).bind fun r_9 => (k_4 (!r_9)))))))
def v_float_checkSpan (r : Int) : AV := .int .i64 r
attribute [local simp] v_float_checkSpan
theorem a_float_checkSpan (s_1 : T_api_Span) (most_2 : Int) : [(A_api_Span s_1), .int .i64 most_2].mapM (ren []) = some [(A_api_Span s_1), .int .i64 most_2] := by simp
theorem b_float_checkSpan (r : Int) (n n2 m : Nat) : back n n2 m (v_float_checkSpan r) = some (v_float_checkSpan r) := by simp
theorem d_float_checkSpan (N : Nat) (s_1 : T_api_Span) (most_2 : Int) (r : Int) (h : p_float_checkSpan N s_1 most_2 = some r) : Does Try.prog 99 [(A_api_Span s_1), .int .i64 most_2] [] fun v c => v = v_float_checkSpan r ∧ c = [] := by
  unfold p_float_checkSpan at h
  refine Does.ofL comp99 _ _ rfl rfl ?_
  refine Ex.seq ?_
  refine regH 2 [] [1, 2] [] (mkS 24 [(1, .int .i64 most_2), (2, .ptr 0 0)]) (⟨[(C_api_Span s_1)], []⟩) (by kernel_rfl) trivial rfl ?_
  refine Ex.seq ?_
  refine Ex.blockK ?_
  obtain ⟨K_5, hK_6, h⟩ := letE h
  refine Ex.seqJ (fun a S => ∃ (y_3 : Bool), K_5 y_3 = some r ∧ a = mkS 24 [(2, .ptr 0 0), (5, .bool y_3)] ∧ S = ⟨[(C_api_Span s_1)], []⟩) ?_ ?_
  · obtain ⟨r_7, hr_7, h⟩ := Option.bind_eq_some_iff.1 h
    refine Ex.reg ?_
    refine runH 3 [] [1, 2, 7, 8] [] (mkS 24 [(1, .int .i64 most_2), (2, .ptr 0 0), (7, .int .i64 s_1.Lo), (8, .int .i64 most_2)]) (⟨[(C_api_Span s_1)], []⟩) (by kernel_rfl) trivial ?_
    refine ExO.callL [] [.int .i64 s_1.Lo, .int .i64 0, .int .i64 most_2] rfl rfl (a_float_within s_1.Lo 0 most_2) rfl rfl (d_float_within N s_1.Lo 0 most_2 r_7 hr_7) (b_float_within _ _ _ _) rfl ?_
    rcases condI h with ⟨hc_8, h⟩ | ⟨hc_8, h⟩
    · refine runH 9 [(1, .eq (.bool true))] [2, 5] [AV.bool (!r_7) = AV.bool true] (mkS 24 [(2, .ptr 0 0), (5, .bool true)]) (⟨[(C_api_Span s_1)], []⟩) (by kernel_rfl) ⟨congrArg AV.bool hc_8, trivial⟩ ?_
      refine ExO.nil ?_
      (try simp only [reduceCtorEq, AEx.ex.injEq, Nat.reduceEqDiff, if_true, if_false])
      exact ⟨_, _, Forgets.refl _ _ _, true, h, rfl, rfl⟩
    · obtain ⟨r_9, hr_9, h⟩ := Option.bind_eq_some_iff.1 h
      refine runH 5 [(1, .eq (.bool false))] [2, 11, 13, 14] [AV.bool (!r_7) = AV.bool false] (mkS 24 [(2, .ptr 0 0), (11, .bool false), (13, .int .i64 s_1.Hi), (14, .int .i64 most_2)]) (⟨[(C_api_Span s_1)], []⟩) (by kernel_rfl) ⟨congrArg AV.bool hc_8, trivial⟩ ?_
      refine ExO.callL [] [.int .i64 s_1.Hi, .int .i64 0, .int .i64 most_2] rfl rfl (a_float_within s_1.Hi 0 most_2) rfl rfl (d_float_within N s_1.Hi 0 most_2 r_9 hr_9) (b_float_within _ _ _ _) rfl ?_
      refine runH 3 [] [2, 5] [] (mkS 24 [(2, .ptr 0 0), (5, .bool (!r_9))]) (⟨[(C_api_Span s_1)], []⟩) (by kernel_rfl) trivial ?_
      refine ExO.nil ?_
      (try simp only [reduceCtorEq, AEx.ex.injEq, Nat.reduceEqDiff, if_true, if_false])
      exact ⟨_, _, Forgets.refl _ _ _, (!r_9), h, rfl, rfl⟩
  · rintro a S ⟨y_3, h, rfl, rfl⟩
    subst hK_6
    rcases condI h with ⟨hc_10, h⟩ | ⟨hc_10, h⟩
    · refine Ex.condT _ rfl hc_10 ?_
      refine Ex.seq ?_
      refine regH 1 [] [4] [] (mkS 24 [(4, .int .i64 2)]) (⟨[(C_api_Span s_1)], []⟩) (by kernel_rfl) trivial rfl ?_
      refine Ex.ret ?_
      obtain rfl := Option.some.inj h
      exact ⟨.inr rfl, .int .i64 2, by kernel_rfl, by kernel_rfl, by kernel_rfl, by kernel_rfl⟩
    · refine Ex.condF _ rfl hc_10 ?_
      refine Ex.seq ?_
      refine regH 6 [] [18] [] (mkS 24 [(18, .bool (decide (s_1.Lo > s_1.Hi)))]) (⟨[(C_api_Span s_1)], []⟩) (by kernel_rfl) trivial rfl ?_
      rcases condI h with ⟨hc_11, h⟩ | ⟨hc_11, h⟩
      · refine Ex.condT _ rfl hc_11 ?_
        refine Ex.seq ?_
        refine regH 1 [] [4] [] (mkS 24 [(4, .int .i64 9)]) (⟨[(C_api_Span s_1)], []⟩) (by kernel_rfl) trivial rfl ?_
        refine Ex.ret ?_
        obtain rfl := Option.some.inj h
        exact ⟨.inr rfl, .int .i64 9, by kernel_rfl, by kernel_rfl, by kernel_rfl, by kernel_rfl⟩
      · refine Ex.condF _ rfl hc_11 ?_
        refine Ex.skip ?_
        refine Ex.seq ?_
        refine regH 1 [] [4] [] (mkS 24 [(4, .int .i64 0)]) (⟨[(C_api_Span s_1)], []⟩) (by kernel_rfl) trivial rfl ?_
        refine Ex.ret ?_
        obtain rfl := Option.some.inj h
        exact ⟨.inr rfl, .int .i64 0, by kernel_rfl, by kernel_rfl, by kernel_rfl, by kernel_rfl⟩
def p_float_checkLoad (N : Nat) (f_1 : T_api_Float) (l_2 : T_api_Load) : Option (Int) := ((p_float_within N l_2.At f_1.Front f_1.Rear).bind fun r_3 => (bif (!r_3) then some 2 else ((p_float_checkSpan N l_2.Kilos 100000).bind fun r_5 => (bif (r_5 != 0) then some r_5 else ((p_float_checkSpan N l_2.Top 2000).bind fun r_7 => (bif (r_7 != 0) then some r_7 else ((p_float_within N l_2.Kind 1 4).bind fun r_9 => (bif (!r_9) then some 3 else ((p_float_within N l_2.Watts 0 1000000).bind fun r_11 => (bif (!r_11) then some 2 else (letJ (fun (y_13 : Bool) => (bif y_13 then some 1 else some 0)) (fun k_14 => (bif (decide (l_2.Watts > 0)) then (bif (l_2.Kind != 2) then (k_14 (l_2.Kind != 3)) else (k_14 false)) else (k_14 false))))))))))))))
def v_float_checkLoad (r : Int) : AV := .int .i64 r
attribute [local simp] v_float_checkLoad
theorem a_float_checkLoad (f_1 : T_api_Float) (l_2 : T_api_Load) : [(A_api_Float f_1), (A_api_Load l_2)].mapM (ren []) = some [(A_api_Float f_1), (A_api_Load l_2)] := by simp
theorem b_float_checkLoad (r : Int) (n n2 m : Nat) : back n n2 m (v_float_checkLoad r) = some (v_float_checkLoad r) := by simp
theorem d_float_checkLoad (N : Nat) (f_1 : T_api_Float) (l_2 : T_api_Load) (r : Int) (h : p_float_checkLoad N f_1 l_2 = some r) : Does Try.prog 73 [(A_api_Float f_1), (A_api_Load l_2)] [] fun v c => v = v_float_checkLoad r ∧ c = [] := by
  unfold p_float_checkLoad at h
  refine Does.ofL comp73 _ _ rfl rfl ?_
  refine Ex.seq ?_
  refine regH 3 [] [2, 3] [] (mkS 51 [(2, .ptr 0 0), (3, .ptr 1 0)]) (⟨[(C_api_Float f_1), (C_api_Load l_2)], []⟩) (by kernel_rfl) trivial rfl ?_
  refine Ex.seq ?_
  refine Ex.seq ?_
  obtain ⟨r_3, hr_3, h⟩ := Option.bind_eq_some_iff.1 h
  refine Ex.reg ?_
  refine runH 6 [] [3, 8, 10, 12] [] (mkS 51 [(3, .ptr 1 0), (8, .int .i64 l_2.At), (10, .int .i64 f_1.Front), (12, .int .i64 f_1.Rear)]) (⟨[(C_api_Float f_1), (C_api_Load l_2)], []⟩) (by kernel_rfl) trivial ?_
  refine ExO.callL [] [.int .i64 l_2.At, .int .i64 f_1.Front, .int .i64 f_1.Rear] rfl rfl (a_float_within l_2.At f_1.Front f_1.Rear) rfl rfl (d_float_within N l_2.At f_1.Front f_1.Rear r_3 hr_3) (b_float_within _ _ _ _) rfl ?_
  refine runH 1 [] [3, 14] [] (mkS 51 [(3, .ptr 1 0), (14, .bool (!r_3))]) (⟨[(C_api_Float f_1), (C_api_Load l_2)], []⟩) (by kernel_rfl) trivial ?_
  refine ExO.nil ?_
  rcases condI h with ⟨hc_4, h⟩ | ⟨hc_4, h⟩
  · refine Ex.condT _ rfl hc_4 ?_
    refine Ex.seq ?_
    refine regH 1 [] [4] [] (mkS 51 [(4, .int .i64 2)]) (⟨[(C_api_Float f_1), (C_api_Load l_2)], []⟩) (by kernel_rfl) trivial rfl ?_
    refine Ex.ret ?_
    obtain rfl := Option.some.inj h
    exact ⟨.inr rfl, .int .i64 2, by kernel_rfl, by kernel_rfl, by kernel_rfl, by kernel_rfl⟩
  · refine Ex.condF _ rfl hc_4 ?_
    refine Ex.skip ?_
    refine Ex.seq ?_
    refine Ex.seq ?_
    obtain ⟨r_5, hr_5, h⟩ := Option.bind_eq_some_iff.1 h
    refine Ex.reg ?_
    refine runH 2 [] [3, 16] [] (mkS 51 [(3, .ptr 1 0), (16, (A_api_Span l_2.Kilos))]) (⟨[(C_api_Float f_1), (C_api_Load l_2)], []⟩) (by kernel_rfl) trivial ?_
    refine ExO.callL [] [(A_api_Span l_2.Kilos), .int .i64 100000] rfl rfl (a_float_checkSpan l_2.Kilos 100000) rfl rfl (d_float_checkSpan N l_2.Kilos 100000 r_5 hr_5) (b_float_checkSpan _ _ _ _) rfl ?_
    refine runH 1 [] [3, 5] [] (mkS 51 [(3, .ptr 1 0), (5, .int .i64 r_5)]) (⟨[(C_api_Float f_1), (C_api_Load l_2)], []⟩) (by kernel_rfl) trivial ?_
    refine ExO.nil ?_
    refine Ex.seq ?_
    refine regH 2 [] [3, 5, 19] [] (mkS 51 [(3, .ptr 1 0), (5, .int .i64 r_5), (19, .bool (r_5 != 0))]) (⟨[(C_api_Float f_1), (C_api_Load l_2)], []⟩) (by kernel_rfl) trivial rfl ?_
    rcases condI h with ⟨hc_6, h⟩ | ⟨hc_6, h⟩
    · refine Ex.condT _ rfl hc_6 ?_
      refine Ex.seq ?_
      refine regH 2 [] [4] [] (mkS 51 [(4, .int .i64 r_5)]) (⟨[(C_api_Float f_1), (C_api_Load l_2)], []⟩) (by kernel_rfl) trivial rfl ?_
      refine Ex.ret ?_
      obtain rfl := Option.some.inj h
      exact ⟨.inr rfl, .int .i64 r_5, by kernel_rfl, by kernel_rfl, by kernel_rfl, by kernel_rfl⟩
    · refine Ex.condF _ rfl hc_6 ?_
      refine Ex.skip ?_
      refine Ex.seq ?_
      refine Ex.seq ?_
      obtain ⟨r_7, hr_7, h⟩ := Option.bind_eq_some_iff.1 h
      refine Ex.reg ?_
      refine runH 2 [] [3, 22] [] (mkS 51 [(3, .ptr 1 0), (22, (A_api_Span l_2.Top))]) (⟨[(C_api_Float f_1), (C_api_Load l_2)], []⟩) (by kernel_rfl) trivial ?_
      refine ExO.callL [] [(A_api_Span l_2.Top), .int .i64 2000] rfl rfl (a_float_checkSpan l_2.Top 2000) rfl rfl (d_float_checkSpan N l_2.Top 2000 r_7 hr_7) (b_float_checkSpan _ _ _ _) rfl ?_
      refine runH 1 [] [3, 6] [] (mkS 51 [(3, .ptr 1 0), (6, .int .i64 r_7)]) (⟨[(C_api_Float f_1), (C_api_Load l_2)], []⟩) (by kernel_rfl) trivial ?_
      refine ExO.nil ?_
      refine Ex.seq ?_
      refine regH 2 [] [3, 6, 25] [] (mkS 51 [(3, .ptr 1 0), (6, .int .i64 r_7), (25, .bool (r_7 != 0))]) (⟨[(C_api_Float f_1), (C_api_Load l_2)], []⟩) (by kernel_rfl) trivial rfl ?_
      rcases condI h with ⟨hc_8, h⟩ | ⟨hc_8, h⟩
      · refine Ex.condT _ rfl hc_8 ?_
        refine Ex.seq ?_
        refine regH 2 [] [4] [] (mkS 51 [(4, .int .i64 r_7)]) (⟨[(C_api_Float f_1), (C_api_Load l_2)], []⟩) (by kernel_rfl) trivial rfl ?_
        refine Ex.ret ?_
        obtain rfl := Option.some.inj h
        exact ⟨.inr rfl, .int .i64 r_7, by kernel_rfl, by kernel_rfl, by kernel_rfl, by kernel_rfl⟩
      · refine Ex.condF _ rfl hc_8 ?_
        refine Ex.skip ?_
        refine Ex.seq ?_
        refine Ex.blockK ?_
        refine Ex.seq ?_
        obtain ⟨r_9, hr_9, h⟩ := Option.bind_eq_some_iff.1 h
        refine Ex.reg ?_
        refine runH 2 [] [3, 29] [] (mkS 51 [(3, .ptr 1 0), (29, .int .i64 l_2.Kind)]) (⟨[(C_api_Float f_1), (C_api_Load l_2)], []⟩) (by kernel_rfl) trivial ?_
        refine ExO.callL [] [.int .i64 l_2.Kind, .int .i64 1, .int .i64 4] rfl rfl (a_float_within l_2.Kind 1 4) rfl rfl (d_float_within N l_2.Kind 1 4 r_9 hr_9) (b_float_within _ _ _ _) rfl ?_
        refine runH 2 [] [3, 27] [] (mkS 51 [(3, .ptr 1 0), (27, .bool (!r_9))]) (⟨[(C_api_Float f_1), (C_api_Load l_2)], []⟩) (by kernel_rfl) trivial ?_
        refine ExO.nil ?_
        rcases condI h with ⟨hc_10, h⟩ | ⟨hc_10, h⟩
        · refine Ex.condT _ rfl hc_10 ?_
          refine Ex.seq ?_
          refine regH 1 [] [4] [] (mkS 51 [(4, .int .i64 3)]) (⟨[(C_api_Float f_1), (C_api_Load l_2)], []⟩) (by kernel_rfl) trivial rfl ?_
          refine Ex.ret ?_
          obtain rfl := Option.some.inj h
          exact ⟨.inr rfl, .int .i64 3, by kernel_rfl, by kernel_rfl, by kernel_rfl, by kernel_rfl⟩
        · refine Ex.condF _ rfl hc_10 ?_
          refine Ex.seq ?_
          obtain ⟨r_11, hr_11, h⟩ := Option.bind_eq_some_iff.1 h
          refine Ex.reg ?_
          refine runH 2 [] [3, 34] [] (mkS 51 [(3, .ptr 1 0), (34, .int .i64 l_2.Watts)]) (⟨[(C_api_Float f_1), (C_api_Load l_2)], []⟩) (by kernel_rfl) trivial ?_
          refine ExO.callL [] [.int .i64 l_2.Watts, .int .i64 0, .int .i64 1000000] rfl rfl (a_float_within l_2.Watts 0 1000000) rfl rfl (d_float_within N l_2.Watts 0 1000000 r_11 hr_11) (b_float_within _ _ _ _) rfl ?_
          refine runH 2 [] [3, 32] [] (mkS 51 [(3, .ptr 1 0), (32, .bool (!r_11))]) (⟨[(C_api_Float f_1), (C_api_Load l_2)], []⟩) (by kernel_rfl) trivial ?_
          refine ExO.nil ?_
          rcases condI h with ⟨hc_12, h⟩ | ⟨hc_12, h⟩
          · refine Ex.condT _ rfl hc_12 ?_
            refine Ex.seq ?_
            refine regH 1 [] [4] [] (mkS 51 [(4, .int .i64 2)]) (⟨[(C_api_Float f_1), (C_api_Load l_2)], []⟩) (by kernel_rfl) trivial rfl ?_
            refine Ex.ret ?_
            obtain rfl := Option.some.inj h
            exact ⟨.inr rfl, .int .i64 2, by kernel_rfl, by kernel_rfl, by kernel_rfl, by kernel_rfl⟩
          · refine Ex.condF _ rfl hc_12 ?_
            obtain ⟨K_15, hK_16, h⟩ := letE h
            refine Ex.seqJ (fun a S => ∃ (y_13 : Bool), K_15 y_13 = some r ∧ a = mkS 51 [(37, .bool y_13)] ∧ S = ⟨[], []⟩) ?_ ?_
            · rcases condI h with ⟨hc_17, h⟩ | ⟨hc_17, h⟩
              · rcases condI h with ⟨hc_18, h⟩ | ⟨hc_18, h⟩
                · refine regH 14 [(3, .eq (.bool true)), (8, .eq (.bool true))] [37] [AV.bool (decide (l_2.Watts > 0)) = AV.bool true, AV.bool (l_2.Kind != 2) = AV.bool true] (mkS 51 [(37, .bool (l_2.Kind != 3))]) (⟨[(C_api_Float f_1), (C_api_Load l_2)], []⟩) (by kernel_rfl) ⟨congrArg AV.bool hc_17, congrArg AV.bool hc_18, trivial⟩ rfl ?_
                  (try simp only [reduceCtorEq, AEx.ex.injEq, Nat.reduceEqDiff, if_true, if_false])
                  exact ⟨_, _, forgetA (m := 51) 0 [] [(37, .bool (l_2.Kind != 3))] [] [] (by simp) (by simp) ⟨rfl, trivial⟩ (by simp) rfl (by decide), (l_2.Kind != 3), h, rfl, rfl⟩
                · refine regH 14 [(3, .eq (.bool true)), (8, .eq (.bool false))] [37] [AV.bool (decide (l_2.Watts > 0)) = AV.bool true, AV.bool (l_2.Kind != 2) = AV.bool false] (mkS 51 [(37, .bool false)]) (⟨[(C_api_Float f_1), (C_api_Load l_2)], []⟩) (by kernel_rfl) ⟨congrArg AV.bool hc_17, congrArg AV.bool hc_18, trivial⟩ rfl ?_
                  (try simp only [reduceCtorEq, AEx.ex.injEq, Nat.reduceEqDiff, if_true, if_false])
                  exact ⟨_, _, forgetA (m := 51) 0 [] [(37, .bool false)] [] [] (by simp) (by simp) ⟨rfl, trivial⟩ (by simp) rfl (by decide), false, h, rfl, rfl⟩
              · refine regH 14 [(3, .eq (.bool false))] [37] [AV.bool (decide (l_2.Watts > 0)) = AV.bool false] (mkS 51 [(37, .bool false)]) (⟨[(C_api_Float f_1), (C_api_Load l_2)], []⟩) (by kernel_rfl) ⟨congrArg AV.bool hc_17, trivial⟩ rfl ?_
                (try simp only [reduceCtorEq, AEx.ex.injEq, Nat.reduceEqDiff, if_true, if_false])
                exact ⟨_, _, forgetA (m := 51) 0 [] [(37, .bool false)] [] [] (by simp) (by simp) ⟨rfl, trivial⟩ (by simp) rfl (by decide), false, h, rfl, rfl⟩
            · rintro a S ⟨y_13, h, rfl, rfl⟩
              subst hK_16
              rcases condI h with ⟨hc_19, h⟩ | ⟨hc_19, h⟩
              · refine Ex.condT _ rfl hc_19 ?_
                refine Ex.seq ?_
                refine regH 1 [] [4] [] (mkS 51 [(4, .int .i64 1)]) (⟨[], []⟩) (by kernel_rfl) trivial rfl ?_
                refine Ex.ret ?_
                obtain rfl := Option.some.inj h
                exact ⟨.inr rfl, .int .i64 1, by kernel_rfl, by kernel_rfl, by kernel_rfl, by kernel_rfl⟩
              · refine Ex.condF _ rfl hc_19 ?_
                refine Ex.skip ?_
                refine Ex.seq ?_
                refine regH 1 [] [4] [] (mkS 51 [(4, .int .i64 0)]) (⟨[], []⟩) (by kernel_rfl) trivial rfl ?_
                refine Ex.ret ?_
                obtain rfl := Option.some.inj h
                exact ⟨.inr rfl, .int .i64 0, by kernel_rfl, by kernel_rfl, by kernel_rfl, by kernel_rfl⟩
def p_float_Check (N : Nat) (f_1 : T_api_Float) : Option (Int) := ((p_float_checkFrame N f_1).bind fun r_2 => (bif (r_2 != 0) then some r_2 else (bif (decide (((f_1.Loads.length : Nat) : Int) > 20)) then some 5 else (letJ (fun (_ : Unit) => some 0) (fun k_5 => (loop1 (fun rec_9 (y_8 : Int) => (bif (decide (y_8 < ((f_1.Loads.length : Nat) : Int))) then ((getI f_1.Loads y_8).bind fun x_13 => ((p_float_checkLoad N f_1 x_13).bind fun r_14 => (bif (r_14 != 0) then some r_14 else (rec_9 (IntKind.i64.wrap (y_8 + 1)))))) else (k_5 ()))) N 0))))))
def v_float_Check (r : Int) : AV := .int .i64 r
attribute [local simp] v_float_Check
theorem a_float_Check (f_1 : T_api_Float) : [(A_api_Float f_1)].mapM (ren []) = some [(A_api_Float f_1)] := by simp
theorem b_float_Check (r : Int) (n n2 m : Nat) : back n n2 m (v_float_Check r) = some (v_float_Check r) := by simp
theorem d_float_Check (N : Nat) (f_1 : T_api_Float) (r : Int) (h : p_float_Check N f_1 = some r) : Does Try.prog 22 [(A_api_Float f_1)] [] fun v c => v = v_float_Check r ∧ c = [] := by
  unfold p_float_Check at h
  refine Does.ofL comp22 _ _ rfl rfl ?_
  refine Ex.seq ?_
  refine regH 2 [] [1] [] (mkS 30 [(1, .ptr 0 0)]) (⟨[(C_api_Float f_1)], []⟩) (by kernel_rfl) trivial rfl ?_
  refine Ex.seq ?_
  refine Ex.seq ?_
  obtain ⟨r_2, hr_2, h⟩ := Option.bind_eq_some_iff.1 h
  refine Ex.reg ?_
  refine runH 1 [] [1, 7] [] (mkS 30 [(1, .ptr 0 0), (7, (A_api_Float f_1))]) (⟨[(C_api_Float f_1)], []⟩) (by kernel_rfl) trivial ?_
  refine ExO.callL [] [(A_api_Float f_1)] rfl rfl (a_float_checkFrame f_1) rfl rfl (d_float_checkFrame N f_1 r_2 hr_2) (b_float_checkFrame _ _ _ _) rfl ?_
  refine runH 1 [] [1, 3] [] (mkS 30 [(1, .ptr 0 0), (3, .int .i64 r_2)]) (⟨[(C_api_Float f_1)], []⟩) (by kernel_rfl) trivial ?_
  refine ExO.nil ?_
  refine Ex.seq ?_
  refine regH 2 [] [1, 3, 10] [] (mkS 30 [(1, .ptr 0 0), (3, .int .i64 r_2), (10, .bool (r_2 != 0))]) (⟨[(C_api_Float f_1)], []⟩) (by kernel_rfl) trivial rfl ?_
  rcases condI h with ⟨hc_3, h⟩ | ⟨hc_3, h⟩
  · refine Ex.condT _ rfl hc_3 ?_
    refine Ex.seq ?_
    refine regH 2 [] [2] [] (mkS 30 [(2, .int .i64 r_2)]) (⟨[(C_api_Float f_1)], []⟩) (by kernel_rfl) trivial rfl ?_
    refine Ex.ret ?_
    obtain rfl := Option.some.inj h
    exact ⟨.inr rfl, .int .i64 r_2, by kernel_rfl, by kernel_rfl, by kernel_rfl, by kernel_rfl⟩
  · refine Ex.condF _ rfl hc_3 ?_
    refine Ex.skip ?_
    refine Ex.seq ?_
    refine Ex.seq ?_
    refine regH 4 [(2, .eq (.int .i64 ((f_1.Loads.length : Nat) : Int)))] [1, 15] [AV.int .i64 (((f_1.Loads.map A_api_Load).length : Nat) : Int) = AV.int .i64 ((f_1.Loads.length : Nat) : Int)] (mkS 30 [(1, .ptr 0 0), (15, .bool (decide (((f_1.Loads.length : Nat) : Int) > 20)))]) (⟨[(C_api_Float f_1)], []⟩) (by kernel_rfl) ⟨lenM _ _, trivial⟩ rfl ?_
    rcases condI h with ⟨hc_4, h⟩ | ⟨hc_4, h⟩
    · refine Ex.condT _ rfl hc_4 ?_
      refine Ex.seq ?_
      refine regH 1 [] [2] [] (mkS 30 [(2, .int .i64 5)]) (⟨[(C_api_Float f_1)], []⟩) (by kernel_rfl) trivial rfl ?_
      refine Ex.ret ?_
      obtain rfl := Option.some.inj h
      exact ⟨.inr rfl, .int .i64 5, by kernel_rfl, by kernel_rfl, by kernel_rfl, by kernel_rfl⟩
    · refine Ex.condF _ rfl hc_4 ?_
      refine Ex.skip ?_
      refine Ex.seq ?_
      refine Ex.seq ?_
      refine regH 4 [(2, .eq (.int .i64 ((f_1.Loads.length : Nat) : Int)))] [1, 17, 18, 19] [AV.int .i64 (((f_1.Loads.map A_api_Load).length : Nat) : Int) = AV.int .i64 ((f_1.Loads.length : Nat) : Int)] (mkS 30 [(1, .ptr 0 0), (17, .sl (f_1.Loads.map A_api_Load) none), (18, .int .i64 ((f_1.Loads.length : Nat) : Int)), (19, .int .i64 0)]) (⟨[(C_api_Float f_1)], []⟩) (by kernel_rfl) ⟨lenM _ _, trivial⟩ rfl ?_
      obtain ⟨K_6, hK_7, h⟩ := letE h
      refine Ex.blockJ (fun a S => K_6 () = some r ∧ a = mkS 30 [] ∧ S = ⟨[], []⟩) ?_ ?_
      · obtain ⟨B_10, hB_11, h⟩ := loop1I h
        refine Ex.loopF (fun k a S => ∃ (y_8 : Int), loop1 B_10 k y_8 = some r ∧ a = mkS 30 [(1, .ptr 0 0), (17, .sl (f_1.Loads.map A_api_Load) none), (18, .int .i64 ((f_1.Loads.length : Nat) : Int)), (19, .int .i64 y_8)] ∧ S = ⟨[(C_api_Float f_1)], []⟩) N ⟨_, _, Forgets.refl _ _ _, 0, h, rfl, rfl⟩ ?_
        rintro k a S ⟨y_8, h, rfl, rfl⟩
        cases k with
        | zero => exact (loop1Z h).elim
        | succ k =>
          replace h := loop1S h hB_11
          refine Ex.seq ?_
          refine regH 1 [] [1, 17, 18, 19, 20] [] (mkS 30 [(1, .ptr 0 0), (17, .sl (f_1.Loads.map A_api_Load) none), (18, .int .i64 ((f_1.Loads.length : Nat) : Int)), (19, .int .i64 y_8), (20, .bool (decide (y_8 < ((f_1.Loads.length : Nat) : Int))))]) (⟨[(C_api_Float f_1)], []⟩) (by kernel_rfl) trivial rfl ?_
          refine Ex.seq ?_
          rcases condI h with ⟨hc_12, h⟩ | ⟨hc_12, h⟩
          · refine Ex.condT _ rfl hc_12 ?_
            refine Ex.skip ?_
            refine Ex.seq ?_
            refine Ex.blockK ?_
            refine Ex.seq ?_
            obtain ⟨x_13, hx_13, h⟩ := Option.bind_eq_some_iff.1 h
            refine regH 4 [(0, .rop (C_api_Load x_13))] [1, 5, 17, 18, 19] [LGet (f_1.Loads.map A_api_Load) y_8 7 (C_api_Load x_13)] (mkS 30 [(1, .ptr 0 0), (5, .ptr 1 0), (17, .sl (f_1.Loads.map A_api_Load) none), (18, .int .i64 ((f_1.Loads.length : Nat) : Int)), (19, .int .i64 y_8)]) (⟨[(C_api_Float f_1), (C_api_Load x_13)], []⟩) (by kernel_rfl) ⟨LGet.of hx_13 rfl, trivial⟩ rfl ?_
            refine Ex.seq ?_
            obtain ⟨r_14, hr_14, h⟩ := Option.bind_eq_some_iff.1 h
            refine Ex.reg ?_
            refine runH 2 [] [1, 17, 18, 19, 23, 24] [] (mkS 30 [(1, .ptr 0 0), (17, .sl (f_1.Loads.map A_api_Load) none), (18, .int .i64 ((f_1.Loads.length : Nat) : Int)), (19, .int .i64 y_8), (23, (A_api_Float f_1)), (24, (A_api_Load x_13))]) (⟨[(C_api_Float f_1), (C_api_Load x_13)], []⟩) (by kernel_rfl) trivial ?_
            refine ExO.callL [] [(A_api_Float f_1), (A_api_Load x_13)] rfl rfl (a_float_checkLoad f_1 x_13) rfl rfl (d_float_checkLoad N f_1 x_13 r_14 hr_14) (b_float_checkLoad _ _ _ _) rfl ?_
            refine runH 1 [] [1, 6, 17, 18, 19] [] (mkS 30 [(1, .ptr 0 0), (6, .int .i64 r_14), (17, .sl (f_1.Loads.map A_api_Load) none), (18, .int .i64 ((f_1.Loads.length : Nat) : Int)), (19, .int .i64 y_8)]) (⟨[(C_api_Float f_1), (C_api_Load x_13)], []⟩) (by kernel_rfl) trivial ?_
            refine ExO.nil ?_
            refine Ex.seq ?_
            refine regH 2 [] [1, 6, 17, 18, 19, 27] [] (mkS 30 [(1, .ptr 0 0), (6, .int .i64 r_14), (17, .sl (f_1.Loads.map A_api_Load) none), (18, .int .i64 ((f_1.Loads.length : Nat) : Int)), (19, .int .i64 y_8), (27, .bool (r_14 != 0))]) (⟨[(C_api_Float f_1), (C_api_Load x_13)], []⟩) (by kernel_rfl) trivial rfl ?_
            rcases condI h with ⟨hc_15, h⟩ | ⟨hc_15, h⟩
            · refine Ex.condT _ rfl hc_15 ?_
              refine Ex.seq ?_
              refine regH 2 [] [2] [] (mkS 30 [(2, .int .i64 r_14)]) (⟨[(C_api_Float f_1), (C_api_Load x_13)], []⟩) (by kernel_rfl) trivial rfl ?_
              refine Ex.ret ?_
              obtain rfl := Option.some.inj h
              exact ⟨.inr rfl, .int .i64 r_14, by kernel_rfl, by kernel_rfl, by kernel_rfl, by kernel_rfl⟩
            · refine Ex.condF _ rfl hc_15 ?_
              refine Ex.skip ?_
              refine regH 2 [] [1, 17, 18, 19] [] (mkS 30 [(1, .ptr 0 0), (17, .sl (f_1.Loads.map A_api_Load) none), (18, .int .i64 ((f_1.Loads.length : Nat) : Int)), (19, .int .i64 (IntKind.i64.wrap (y_8 + 1)))]) (⟨[(C_api_Float f_1), (C_api_Load x_13)], []⟩) (by kernel_rfl) trivial rfl ?_
              dsimp only
              exact ⟨_, _, forgetA (m := 30) 1 [] [(1, .ptr 0 0), (17, .sl (f_1.Loads.map A_api_Load) none), (18, .int .i64 ((f_1.Loads.length : Nat) : Int)), (19, .int .i64 (IntKind.i64.wrap (y_8 + 1)))] [(C_api_Float f_1)] [] (by simp) (by simp) ⟨rfl, (reN (KL_api_Load _)), rfl, rfl, trivial⟩ (by simp) rfl (by decide), k, Nat.lt_succ_self k, (IntKind.i64.wrap (y_8 + 1)), h, rfl, rfl⟩
          · refine Ex.condF _ rfl hc_12 ?_
            refine Ex.exit ?_
            (try simp only [reduceCtorEq, AEx.ex.injEq, Nat.reduceEqDiff, if_true, if_false])
            exact ⟨_, _, forgetA (m := 30) 0 [] [] [] [] (by simp) (by simp) trivial (by simp) rfl (by decide), h, rfl, rfl⟩
      · rintro a S ⟨h, rfl, rfl⟩
        subst hK_7
        refine Ex.seq ?_
        refine regH 1 [] [2] [] (mkS 30 [(2, .int .i64 0)]) (⟨[], []⟩) (by kernel_rfl) trivial rfl ?_
        refine Ex.ret ?_
        obtain rfl := Option.some.inj h
        exact ⟨.inr rfl, .int .i64 0, by kernel_rfl, by kernel_rfl, by kernel_rfl, by kernel_rfl⟩
def p_float_distance (N : Nat) (a_1 : T_api_Load) (b_2 : T_api_Load) : Option (Int) := some (if (IntKind.i64.wrap (b_2.At - a_1.At)) > (IntKind.i64.wrap (a_1.At - b_2.At)) then (IntKind.i64.wrap (b_2.At - a_1.At)) else (IntKind.i64.wrap (a_1.At - b_2.At)))
def v_float_distance (r : Int) : AV := .int .i64 r
attribute [local simp] v_float_distance
theorem b_float_distance (r : Int) (n n2 m : Nat) : back n n2 m (v_float_distance r) = some (v_float_distance r) := by simp
theorem d_float_distance (N : Nat) (a_1 : T_api_Load) (b_2 : T_api_Load) (r : Int) (h : p_float_distance N a_1 b_2 = some r) : Does Try.prog 92 [(A_api_Load a_1), (A_api_Load b_2)] [] fun v c => v = v_float_distance r ∧ c = [] := by
  unfold p_float_distance at h
  refine Does.ofL comp92 _ _ rfl rfl ?_
  refine Ex.seq ?_
  refine regH 3 [] [2, 3] [] (mkS 16 [(2, .ptr 0 0), (3, .ptr 1 0)]) (⟨[(C_api_Load a_1), (C_api_Load b_2)], []⟩) (by kernel_rfl) trivial rfl ?_
  refine Ex.seq ?_
  refine regH 12 [] [4] [] (mkS 16 [(4, .int .i64 (if (IntKind.i64.wrap (b_2.At - a_1.At)) > (IntKind.i64.wrap (a_1.At - b_2.At)) then (IntKind.i64.wrap (b_2.At - a_1.At)) else (IntKind.i64.wrap (a_1.At - b_2.At))))]) (⟨[(C_api_Load a_1), (C_api_Load b_2)], []⟩) (by kernel_rfl) trivial rfl ?_
  refine Ex.ret ?_
  obtain rfl := Option.some.inj h
  exact ⟨.inr rfl, .int .i64 (if (IntKind.i64.wrap (b_2.At - a_1.At)) > (IntKind.i64.wrap (a_1.At - b_2.At)) then (IntKind.i64.wrap (b_2.At - a_1.At)) else (IntKind.i64.wrap (a_1.At - b_2.At))), by kernel_rfl, by kernel_rfl, by kernel_rfl, by kernel_rfl⟩
def p_float_Fire (N : Nat) (f_1 : T_api_Float) (apart_2 : Int) : Option ((List T_api_Near) × Int × Int) := ((p_float_Check N f_1).bind fun r_3 => (bif (r_3 != 0) then some ([], 0, r_3) else ((p_float_within N apart_2 0 3000).bind fun r_5 => (bif (!r_5) then some ([], 0, 2) else (letJ (fun (b_18 : List T_api_Near) (b_19 : Int) => (letJ (fun (b_116 : Int) => some (b_18, b_116, 0)) (fun k_117 => (letJ (fun (b_120 : Int) => (k_117 b_120)) (fun k_121 => (loop2 (fun rec_126 (y_124 : Int) (b_125 : Int) => (bif (decide (y_124 < ((f_1.Loads.length : Nat) : Int))) then ((getI f_1.Loads y_124).bind fun x_130 => (letJ (fun (b_131 : Int) => (rec_126 (IntKind.i64.wrap (y_124 + 1)) b_131)) (fun k_132 => (bif (x_130.Kind == 3) then (letJ (fun (_ : Unit) => (k_132 (IntKind.i64.wrap (b_125 - x_130.Watts)))) (fun k_144 => (k_144 ()))) else (k_132 b_125))))) else (k_121 b_125))) N 0 b_19)))))) (fun k_20 => (letJ (fun (b_23 : List T_api_Near) (b_24 : Int) => (k_20 b_23 b_24)) (fun k_25 => (loop3 (fun rec_31 (y_28 : Int) (b_29 : List T_api_Near) (b_30 : Int) => (bif (decide (y_28 < ((f_1.Loads.length : Nat) : Int))) then ((getI f_1.Loads y_28).bind fun x_35 => (letJ (fun (b_36 : List T_api_Near) (b_37 : Int) => (rec_31 (IntKind.i64.wrap (y_28 + 1)) b_36 b_37)) (fun k_38 => (bif (x_35.Kind == 2) then (letJ (fun (b_50 : List T_api_Near) => (k_38 b_50 (IntKind.i64.wrap (b_30 + x_35.Watts)))) (fun k_51 => (letJ (fun (b_65 : List T_api_Near) => (k_51 b_65)) (fun k_66 => (letJ (fun (b_69 : List T_api_Near) => (k_66 b_69)) (fun k_70 => (loop2 (fun rec_75 (y_73 : Int) (b_74 : List T_api_Near) => (bif (decide (y_73 < ((f_1.Loads.length : Nat) : Int))) then ((getI f_1.Loads y_73).bind fun x_79 => (letJ (fun (b_80 : List T_api_Near) => (rec_75 (IntKind.i64.wrap (y_73 + 1)) b_80)) (fun k_81 => (bif (x_79.Kind == 4) then (letJ (fun (b_93 : List T_api_Near) => (k_81 b_93)) (fun k_94 => (letJ (fun (b_97 : List T_api_Near) => (k_94 b_97)) (fun k_98 => ((p_float_distance N x_35 x_79).bind fun r_101 => (bif (decide (r_101 < apart_2)) then ((pushI b_74 ([(⟨y_28, y_73⟩ : T_api_Near)] : List T_api_Near)).bind fun l_104 => (k_98 l_104)) else (k_98 b_74))))))) else (k_81 b_74))))) else (k_70 b_74))) N 0 b_29))))))) else (k_38 b_29 b_30))))) else (k_25 b_29 b_30))) N 0 [] 0)))))))))
def v_float_Fire (r : (List T_api_Near) × Int × Int) : AV := .tup [.sl (r.1.map A_api_Near) none, .int .i64 r.2.1, .int .i64 r.2.2]
attribute [local simp] v_float_Fire
theorem a_float_Fire (f_1 : T_api_Float) (apart_2 : Int) : [(A_api_Float f_1), .int .i64 apart_2].mapM (ren []) = some [(A_api_Float f_1), .int .i64 apart_2] := by simp
theorem b_float_Fire (r : (List T_api_Near) × Int × Int) (n n2 m : Nat) : back n n2 m (v_float_Fire r) = some (v_float_Fire r) := by simp
theorem d_float_Fire (N : Nat) (f_1 : T_api_Float) (apart_2 : Int) (r : (List T_api_Near) × Int × Int) (h : p_float_Fire N f_1 apart_2 = some r) : Does Try.prog 39 [(A_api_Float f_1), .int .i64 apart_2] [] fun v c => v = v_float_Fire r ∧ c = [] := by
  unfold p_float_Fire at h
  refine Does.ofL comp39 _ _ rfl rfl ?_
  refine Ex.seq ?_
  refine regH 5 [] [2, 3, 4, 5, 6] [] (mkS 58 [(2, .ptr 0 0), (3, .ptr 1 0), (4, .ptr 2 0), (5, .ptr 3 0), (6, .int .i64 0)]) (⟨[(C_api_Float f_1), [.int .i64 apart_2], [.nils], [.int .i64 0]], []⟩) (by kernel_rfl) trivial rfl ?_
  refine Ex.seq ?_
  refine Ex.seq ?_
  obtain ⟨r_3, hr_3, h⟩ := Option.bind_eq_some_iff.1 h
  refine Ex.reg ?_
  refine runH 1 [] [2, 3, 4, 5, 6, 14] [] (mkS 58 [(2, .ptr 0 0), (3, .ptr 1 0), (4, .ptr 2 0), (5, .ptr 3 0), (6, .int .i64 0), (14, (A_api_Float f_1))]) (⟨[(C_api_Float f_1), [.int .i64 apart_2], [.nils], [.int .i64 0]], []⟩) (by kernel_rfl) trivial ?_
  refine ExO.callL [] [(A_api_Float f_1)] rfl rfl (a_float_Check f_1) rfl rfl (d_float_Check N f_1 r_3 hr_3) (b_float_Check _ _ _ _) rfl ?_
  refine runH 1 [] [2, 3, 4, 5, 6, 7] [] (mkS 58 [(2, .ptr 0 0), (3, .ptr 1 0), (4, .ptr 2 0), (5, .ptr 3 0), (6, .int .i64 0), (7, .int .i64 r_3)]) (⟨[(C_api_Float f_1), [.int .i64 apart_2], [.nils], [.int .i64 0]], []⟩) (by kernel_rfl) trivial ?_
  refine ExO.nil ?_
  refine Ex.seq ?_
  refine regH 2 [] [2, 3, 4, 5, 6, 7, 17] [] (mkS 58 [(2, .ptr 0 0), (3, .ptr 1 0), (4, .ptr 2 0), (5, .ptr 3 0), (6, .int .i64 0), (7, .int .i64 r_3), (17, .bool (r_3 != 0))]) (⟨[(C_api_Float f_1), [.int .i64 apart_2], [.nils], [.int .i64 0]], []⟩) (by kernel_rfl) trivial rfl ?_
  rcases condI h with ⟨hc_4, h⟩ | ⟨hc_4, h⟩
  · refine Ex.condT _ rfl hc_4 ?_
    refine Ex.seq ?_
    refine regH 4 [] [4, 5, 6] [] (mkS 58 [(4, .ptr 2 0), (5, .ptr 3 0), (6, .int .i64 r_3)]) (⟨[(C_api_Float f_1), [.int .i64 apart_2], [.nils], [.int .i64 0]], []⟩) (by kernel_rfl) trivial rfl ?_
    refine Ex.ret ?_
    obtain rfl := Option.some.inj h
    exact ⟨.inr rfl, .tup [.nils, .int .i64 0, .int .i64 r_3], by kernel_rfl, by kernel_rfl, by kernel_rfl, by kernel_rfl⟩
  · refine Ex.condF _ rfl hc_4 ?_
    refine Ex.skip ?_
    refine Ex.seq ?_
    refine Ex.seq ?_
    obtain ⟨r_5, hr_5, h⟩ := Option.bind_eq_some_iff.1 h
    refine Ex.reg ?_
    refine runH 1 [] [2, 3, 4, 5, 6, 19] [] (mkS 58 [(2, .ptr 0 0), (3, .ptr 1 0), (4, .ptr 2 0), (5, .ptr 3 0), (6, .int .i64 0), (19, .int .i64 apart_2)]) (⟨[(C_api_Float f_1), [.int .i64 apart_2], [.nils], [.int .i64 0]], []⟩) (by kernel_rfl) trivial ?_
    refine ExO.callL [] [.int .i64 apart_2, .int .i64 0, .int .i64 3000] rfl rfl (a_float_within apart_2 0 3000) rfl rfl (d_float_within N apart_2 0 3000 r_5 hr_5) (b_float_within _ _ _ _) rfl ?_
    refine runH 1 [] [2, 3, 4, 5, 6, 21] [] (mkS 58 [(2, .ptr 0 0), (3, .ptr 1 0), (4, .ptr 2 0), (5, .ptr 3 0), (6, .int .i64 0), (21, .bool (!r_5))]) (⟨[(C_api_Float f_1), [.int .i64 apart_2], [.nils], [.int .i64 0]], []⟩) (by kernel_rfl) trivial ?_
    refine ExO.nil ?_
    rcases condI h with ⟨hc_6, h⟩ | ⟨hc_6, h⟩
    · refine Ex.condT _ rfl hc_6 ?_
      refine Ex.seq ?_
      refine regH 3 [] [4, 5, 6] [] (mkS 58 [(4, .ptr 2 0), (5, .ptr 3 0), (6, .int .i64 2)]) (⟨[(C_api_Float f_1), [.int .i64 apart_2], [.nils], [.int .i64 0]], []⟩) (by kernel_rfl) trivial rfl ?_
      refine Ex.ret ?_
      obtain rfl := Option.some.inj h
      exact ⟨.inr rfl, .tup [.nils, .int .i64 0, .int .i64 2], by kernel_rfl, by kernel_rfl, by kernel_rfl, by kernel_rfl⟩
    · refine Ex.condF _ rfl hc_6 ?_
      refine Ex.skip ?_
      refine Ex.seq ?_
      refine Ex.seq ?_
      refine Ex.reg ?_
      refine runH 2 [] [2, 3, 4, 5, 6, 23] [] (mkS 58 [(2, .ptr 0 0), (3, .ptr 1 0), (4, .ptr 2 0), (5, .ptr 3 0), (6, .int .i64 0), (23, .sl (f_1.Loads.map A_api_Load) none)]) (⟨[(C_api_Float f_1), [.int .i64 apart_2], [.nils], [.int .i64 0]], []⟩) (by kernel_rfl) trivial ?_
      refine ExO.inlC 91 [.sl (f_1.Loads.map A_api_Load) none, .int .i64 2] _ comp91 (by simp) rfl rfl ?_
      intro cx_7 hcn_8 hcm_9 hup_10
      refine Ex.castA (a2 := mkS 6 [(0, .sl (f_1.Loads.map A_api_Load) none), (1, .int .i64 2), (2, .tup []), (3, .tup []), (4, .tup []), (5, .tup [])]) (S2 := ⟨[(C_api_Float f_1), [.int .i64 apart_2], [.nils], [.int .i64 0]], []⟩) (by kernel_rfl) (by kernel_rfl) ?_
      refine Ex.seq ?_
      refine regH 3 [] [2, 3] [] (mkS 6 [(2, .ptr 4 0), (3, .ptr 5 0)]) (⟨[(C_api_Float f_1), [.int .i64 apart_2], [.nils], [.int .i64 0], [.sl (f_1.Loads.map A_api_Load) none], [.int .i64 2]], []⟩) (by kernel_rfl) trivial rfl ?_
      refine Ex.seq ?_
      refine regH 2 [] [4] [] (mkS 6 [(4, .fn 108 [] [.ptr 4 0, .ptr 5 0])]) (⟨[(C_api_Float f_1), [.int .i64 apart_2], [.nils], [.int .i64 0], [.sl (f_1.Loads.map A_api_Load) none], [.int .i64 2]], []⟩) (by kernel_rfl) trivial rfl ?_
      refine Ex.ret ?_
      refine ⟨.inr rfl, .fn 108 [] [.ptr 4 0, .ptr 5 0], by kernel_rfl, ?_⟩
      refine runH 0 [] [2, 3, 4, 5, 6, 24] [] (mkS 58 [(2, .ptr 0 0), (3, .ptr 1 0), (4, .ptr 2 0), (5, .ptr 3 0), (6, .int .i64 0), (24, .fn 108 [] [.ptr 4 0, .ptr 5 0])]) (⟨[(C_api_Float f_1), [.int .i64 apart_2], [.nils], [.int .i64 0], [.sl (f_1.Loads.map A_api_Load) none], [.int .i64 2]], []⟩) (by kernel_rfl) trivial ?_
      refine ExO.nil ?_
      refine Ex.blockK ?_
      obtain ⟨K_21, hK_22, h⟩ := letE h
      refine Ex.rangeJ (fun k S => (k = 0 ∧ ∃ (b_18 : List T_api_Near), ∃ (b_19 : Int), K_21 b_18 b_19 = some r ∧ S = ⟨[(C_api_Float f_1), [.int .i64 apart_2], [.sl (b_18.map A_api_Near) (some 1)], [.int .i64 b_19], [.sl (f_1.Loads.map A_api_Load) none], [.int .i64 2]], [(0, 0), (b_18.length, 2)]⟩)) 108 [.ptr 4 0, .ptr 5 0] _ rfl comp108 rfl (by simp) (by exact trivial) (mkS 25 [(1, .ptr 4 0), (2, .ptr 5 0), (3, .tup []), (4, .tup []), (5, .tup []), (6, .tup []), (7, .tup []), (8, .tup []), (9, .tup []), (10, .tup []), (11, .tup []), (12, .tup []), (13, .tup []), (14, .tup []), (15, .tup []), (16, .tup []), (17, .tup []), (18, .tup []), (19, .tup []), (20, .tup []), (21, .tup []), (22, .tup []), (23, .tup []), (24, .tup [])]) (⟨[(C_api_Float f_1), [.int .i64 apart_2], [.nils], [.int .i64 0], [.sl (f_1.Loads.map A_api_Load) none], [.int .i64 2]], [(0, 0)]⟩) (fun _ => by kernel_rfl) (by kernel_rfl) ?_ ?_
      · intro cx_12 Lp_11 hcn_13 hcm_14 hLt_15 hL_16 hup_17
        refine Ex.castA (a2 := mkS 25 [(0, .yld Lp_11.l 0), (1, .ptr 4 0), (2, .ptr 5 0), (3, .tup []), (4, .tup []), (5, .tup []), (6, .tup []), (7, .tup []), (8, .tup []), (9, .tup []), (10, .tup []), (11, .tup []), (12, .tup []), (13, .tup []), (14, .tup []), (15, .tup []), (16, .tup []), (17, .tup []), (18, .tup []), (19, .tup []), (20, .tup []), (21, .tup []), (22, .tup []), (23, .tup []), (24, .tup [])]) (S2 := ⟨[(C_api_Float f_1), [.int .i64 apart_2], [.nils], [.int .i64 0], [.sl (f_1.Loads.map A_api_Load) none], [.int .i64 2]], [(0, 0)]⟩) (by kernel_rfl) rfl ?_
        refine Ex.seq ?_
        refine regH 3 [(1, .eq (.int .i64 ((f_1.Loads.length : Nat) : Int)))] [0, 2, 6, 7, 8] [AV.int .i64 (((f_1.Loads.map A_api_Load).length : Nat) : Int) = AV.int .i64 ((f_1.Loads.length : Nat) : Int)] (mkS 25 [(0, .yld Lp_11.l 0), (2, .ptr 5 0), (6, .sl (f_1.Loads.map A_api_Load) none), (7, .int .i64 ((f_1.Loads.length : Nat) : Int)), (8, .int .i64 0)]) (⟨[(C_api_Float f_1), [.int .i64 apart_2], [.nils], [.int .i64 0], [.sl (f_1.Loads.map A_api_Load) none], [.int .i64 2]], [(0, 0)]⟩) (by kernel_rfl) ⟨lenM _ _, trivial⟩ rfl ?_
        obtain ⟨K_26, hK_27, h⟩ := letE h
        refine Ex.blockJ (fun a S => ∃ (b_23 : List T_api_Near), ∃ (b_24 : Int), K_26 b_23 b_24 = some r ∧ a = mkS 25 [] ∧ S = ⟨[(C_api_Float f_1), [.int .i64 apart_2], [.sl (b_23.map A_api_Near) (some 1)], [.int .i64 b_24], [.sl (f_1.Loads.map A_api_Load) none], [.int .i64 2]], [(0, 0), (b_23.length, 2)]⟩) ?_ ?_
        · refine Ex.forget (nilB 2 0 2 [.nils] rfl rfl) ?_
          refine Ex.castA (a2 := mkS 25 [(0, .yld Lp_11.l 0), (2, .ptr 5 0), (6, .sl (f_1.Loads.map A_api_Load) none), (7, .int .i64 ((f_1.Loads.length : Nat) : Int)), (8, .int .i64 0)]) (S2 := ⟨[(C_api_Float f_1), [.int .i64 apart_2], [.sl (([] : List T_api_Near).map A_api_Near) (some 1)], [.int .i64 0], [.sl (f_1.Loads.map A_api_Load) none], [.int .i64 2]], [(0, 0), (0, 2)]⟩) (by kernel_rfl) (by kernel_rfl) ?_
          obtain ⟨B_32, hB_33, h⟩ := loop3I h
          refine Ex.loopF (fun k a S => ∃ (y_28 : Int), ∃ (b_29 : List T_api_Near), ∃ (b_30 : Int), loop3 B_32 k y_28 b_29 b_30 = some r ∧ a = mkS 25 [(0, .yld Lp_11.l 0), (2, .ptr 5 0), (6, .sl (f_1.Loads.map A_api_Load) none), (7, .int .i64 ((f_1.Loads.length : Nat) : Int)), (8, .int .i64 y_28)] ∧ S = ⟨[(C_api_Float f_1), [.int .i64 apart_2], [.sl (b_29.map A_api_Near) (some 1)], [.int .i64 b_30], [.sl (f_1.Loads.map A_api_Load) none], [.int .i64 2]], [(0, 0), (b_29.length, 2)]⟩) N ⟨_, _, Forgets.refl _ _ _, 0, [], 0, h, rfl, rfl⟩ ?_
          rintro k a S ⟨y_28, b_29, b_30, h, rfl, rfl⟩
          cases k with
          | zero => exact (loop3Z h).elim
          | succ k =>
            replace h := loop3S h hB_33
            refine Ex.seq ?_
            refine regH 1 [] [0, 2, 6, 7, 8, 9] [] (mkS 25 [(0, .yld Lp_11.l 0), (2, .ptr 5 0), (6, .sl (f_1.Loads.map A_api_Load) none), (7, .int .i64 ((f_1.Loads.length : Nat) : Int)), (8, .int .i64 y_28), (9, .bool (decide (y_28 < ((f_1.Loads.length : Nat) : Int))))]) (⟨[(C_api_Float f_1), [.int .i64 apart_2], [.sl (b_29.map A_api_Near) (some 1)], [.int .i64 b_30], [.sl (f_1.Loads.map A_api_Load) none], [.int .i64 2]], [(0, 0), (b_29.length, 2)]⟩) (by kernel_rfl) trivial rfl ?_
            refine Ex.seq ?_
            rcases condI h with ⟨hc_34, h⟩ | ⟨hc_34, h⟩
            · refine Ex.condT _ rfl hc_34 ?_
              refine Ex.skip ?_
              refine Ex.seq ?_
              refine Ex.blockK ?_
              refine Ex.seq ?_
              obtain ⟨x_35, hx_35, h⟩ := Option.bind_eq_some_iff.1 h
              refine regH 6 [(1, .rop (C_api_Load x_35))] [0, 2, 4, 5, 6, 7, 8] [LGet (f_1.Loads.map A_api_Load) y_28 7 (C_api_Load x_35)] (mkS 25 [(0, .yld Lp_11.l 0), (2, .ptr 5 0), (4, .int .i64 y_28), (5, .ptr 6 0), (6, .sl (f_1.Loads.map A_api_Load) none), (7, .int .i64 ((f_1.Loads.length : Nat) : Int)), (8, .int .i64 y_28)]) (⟨[(C_api_Float f_1), [.int .i64 apart_2], [.sl (b_29.map A_api_Near) (some 1)], [.int .i64 b_30], [.sl (f_1.Loads.map A_api_Load) none], [.int .i64 2], (C_api_Load x_35)], [(0, 0), (b_29.length, 2)]⟩) (by kernel_rfl) ⟨LGet.of hx_35 rfl, trivial⟩ rfl ?_
              obtain ⟨K_39, hK_40, h⟩ := letE h
              refine Ex.seqJ (fun a S => ∃ (b_36 : List T_api_Near), ∃ (b_37 : Int), K_39 b_36 b_37 = some r ∧ a = mkS 25 [(0, .yld Lp_11.l 0), (2, .ptr 5 0), (6, .sl (f_1.Loads.map A_api_Load) none), (7, .int .i64 ((f_1.Loads.length : Nat) : Int)), (8, .int .i64 y_28), (23, .bool false)] ∧ S = ⟨[(C_api_Float f_1), [.int .i64 apart_2], [.sl (b_36.map A_api_Near) (some 1)], [.int .i64 b_37], [.sl (f_1.Loads.map A_api_Load) none], [.int .i64 2]], [(0, 0), (b_36.length, 2)]⟩) ?_ ?_
              · rcases condI h with ⟨hc_41, h⟩ | ⟨hc_41, h⟩
                · refine Ex.regI ?_
                  refine runI 8 [(4, .eq (.bool true))] [0, 2, 6, 7, 8, 17, 18, 19, 20] [AV.bool (x_35.Kind == 2) = AV.bool true] (mkS 25 [(0, .yld Lp_11.l 0), (2, .ptr 5 0), (6, .sl (f_1.Loads.map A_api_Load) none), (7, .int .i64 ((f_1.Loads.length : Nat) : Int)), (8, .int .i64 y_28), (17, .bool true), (18, .yld Lp_11.l 0), (19, .int .i64 y_28), (20, (A_api_Load x_35))]) (⟨[(C_api_Float f_1), [.int .i64 apart_2], [.sl (b_29.map A_api_Near) (some 1)], [.int .i64 b_30], [.sl (f_1.Loads.map A_api_Load) none], [.int .i64 2], (C_api_Load x_35)], [(0, 0), (b_29.length, 2)]⟩) (by kernel_rfl) ⟨congrArg AV.bool hc_41, trivial⟩ ?_
                  obtain ⟨K_52, hK_53, h⟩ := letE h
                  refine ExI.yieldT 0 hLt_15 hL_16 [.int .i64 y_28, (A_api_Load x_35)] rfl rfl rfl (by kernel_rfl) rfl rfl (leC hcn_13 (by simp)) ?_
                  intro ca_42 cb_43 ha_44 hb_45 hma_46 hmb_47 hup_48 hbz_49
                  refine Ex.castA (a2 := mkS 58 [(2, .ptr 0 0), (3, .ptr 1 0), (4, .ptr 2 0), (5, .ptr 3 0), (6, .int .i64 0), (24, .fn 108 [] [.ptr 4 0, .ptr 5 0]), (25, .int .i64 y_28), (26, (A_api_Load x_35))]) (S2 := ⟨[(C_api_Float f_1), [.int .i64 apart_2], [.sl (b_29.map A_api_Near) (some 1)], [.int .i64 b_30], [.sl (f_1.Loads.map A_api_Load) none], [.int .i64 2], (C_api_Load x_35)], [(0, 0), (b_29.length, 2)]⟩) (by kernel_rfl) (by kernel_rfl) ?_
                  refine Ex.two (fun z S => (z = AEx.norm ∧ ∃ (b_50 : List T_api_Near), K_52 b_50 = some r ∧ S = ⟨[(C_api_Float f_1), [.int .i64 apart_2], [.sl (b_50.map A_api_Near) (some 1)], [.int .i64 (IntKind.i64.wrap (b_30 + x_35.Watts))], [.sl (f_1.Loads.map A_api_Load) none], [.int .i64 2], (C_api_Load x_35)], [(0, 0), (b_50.length, 2)]⟩)) ?_ ?_
                  · refine Ex.seq ?_
                    refine regH 2 [] [2, 3, 4, 5, 8, 26] [] (mkS 58 [(2, .ptr 0 0), (3, .ptr 1 0), (4, .ptr 2 0), (5, .ptr 3 0), (8, .ptr 7 0), (26, (A_api_Load x_35))]) (⟨[(C_api_Float f_1), [.int .i64 apart_2], [.sl (b_29.map A_api_Near) (some 1)], [.int .i64 b_30], [.sl (f_1.Loads.map A_api_Load) none], [.int .i64 2], (C_api_Load x_35), [.int .i64 y_28]], [(0, 0), (b_29.length, 2)]⟩) (by kernel_rfl) trivial rfl ?_
                    refine regH 2 [] [2, 3, 4, 5, 8, 9] [] (mkS 58 [(2, .ptr 0 0), (3, .ptr 1 0), (4, .ptr 2 0), (5, .ptr 3 0), (8, .ptr 7 0), (9, .ptr 8 0)]) (⟨[(C_api_Float f_1), [.int .i64 apart_2], [.sl (b_29.map A_api_Near) (some 1)], [.int .i64 b_30], [.sl (f_1.Loads.map A_api_Load) none], [.int .i64 2], (C_api_Load x_35), [.int .i64 y_28], (C_api_Load x_35)], [(0, 0), (b_29.length, 2)]⟩) (by kernel_rfl) trivial rfl ?_
                    refine ⟨rfl, rfl, ?_⟩
                    refine Ex.blockK ?_
                    refine Ex.seq ?_
                    refine regH 5 [] [2, 3, 4, 8, 9] [] (mkS 58 [(2, .ptr 0 0), (3, .ptr 1 0), (4, .ptr 2 0), (8, .ptr 7 0), (9, .ptr 8 0)]) (⟨[(C_api_Float f_1), [.int .i64 apart_2], [.sl (b_29.map A_api_Near) (some 1)], [.int .i64 (IntKind.i64.wrap (b_30 + x_35.Watts))], [.sl (f_1.Loads.map A_api_Load) none], [.int .i64 2], (C_api_Load x_35), [.int .i64 y_28], (C_api_Load x_35)], [(0, 0), (b_29.length, 2)]⟩) (by kernel_rfl) trivial rfl ?_
                    refine Ex.seq ?_
                    refine Ex.reg ?_
                    refine runH 2 [] [3, 4, 8, 9, 32] [] (mkS 58 [(3, .ptr 1 0), (4, .ptr 2 0), (8, .ptr 7 0), (9, .ptr 8 0), (32, .sl (f_1.Loads.map A_api_Load) none)]) (⟨[(C_api_Float f_1), [.int .i64 apart_2], [.sl (b_29.map A_api_Near) (some 1)], [.int .i64 (IntKind.i64.wrap (b_30 + x_35.Watts))], [.sl (f_1.Loads.map A_api_Load) none], [.int .i64 2], (C_api_Load x_35), [.int .i64 y_28], (C_api_Load x_35)], [(0, 0), (b_29.length, 2)]⟩) (by kernel_rfl) trivial ?_
                    refine ExO.inlC 91 [.sl (f_1.Loads.map A_api_Load) none, .int .i64 4] _ comp91 (leC hb_45 (by simp)) rfl rfl ?_
                    intro cx_54 hcn_55 hcm_56 hup_57
                    refine Ex.castA (a2 := mkS 6 [(0, .sl (f_1.Loads.map A_api_Load) none), (1, .int .i64 4), (2, .tup []), (3, .tup []), (4, .tup []), (5, .tup [])]) (S2 := ⟨[(C_api_Float f_1), [.int .i64 apart_2], [.sl (b_29.map A_api_Near) (some 1)], [.int .i64 (IntKind.i64.wrap (b_30 + x_35.Watts))], [.sl (f_1.Loads.map A_api_Load) none], [.int .i64 2], (C_api_Load x_35), [.int .i64 y_28], (C_api_Load x_35)], [(0, 0), (b_29.length, 2)]⟩) (by kernel_rfl) (by kernel_rfl) ?_
                    refine Ex.seq ?_
                    refine regH 3 [] [2, 3] [] (mkS 6 [(2, .ptr 9 0), (3, .ptr 10 0)]) (⟨[(C_api_Float f_1), [.int .i64 apart_2], [.sl (b_29.map A_api_Near) (some 1)], [.int .i64 (IntKind.i64.wrap (b_30 + x_35.Watts))], [.sl (f_1.Loads.map A_api_Load) none], [.int .i64 2], (C_api_Load x_35), [.int .i64 y_28], (C_api_Load x_35), [.sl (f_1.Loads.map A_api_Load) none], [.int .i64 4]], [(0, 0), (b_29.length, 2)]⟩) (by kernel_rfl) trivial rfl ?_
                    refine Ex.seq ?_
                    refine regH 2 [] [4] [] (mkS 6 [(4, .fn 108 [] [.ptr 9 0, .ptr 10 0])]) (⟨[(C_api_Float f_1), [.int .i64 apart_2], [.sl (b_29.map A_api_Near) (some 1)], [.int .i64 (IntKind.i64.wrap (b_30 + x_35.Watts))], [.sl (f_1.Loads.map A_api_Load) none], [.int .i64 2], (C_api_Load x_35), [.int .i64 y_28], (C_api_Load x_35), [.sl (f_1.Loads.map A_api_Load) none], [.int .i64 4]], [(0, 0), (b_29.length, 2)]⟩) (by kernel_rfl) trivial rfl ?_
                    refine Ex.ret ?_
                    refine ⟨.inr rfl, .fn 108 [] [.ptr 9 0, .ptr 10 0], by kernel_rfl, ?_⟩
                    refine runH 0 [] [3, 4, 8, 9, 33] [] (mkS 58 [(3, .ptr 1 0), (4, .ptr 2 0), (8, .ptr 7 0), (9, .ptr 8 0), (33, .fn 108 [] [.ptr 9 0, .ptr 10 0])]) (⟨[(C_api_Float f_1), [.int .i64 apart_2], [.sl (b_29.map A_api_Near) (some 1)], [.int .i64 (IntKind.i64.wrap (b_30 + x_35.Watts))], [.sl (f_1.Loads.map A_api_Load) none], [.int .i64 2], (C_api_Load x_35), [.int .i64 y_28], (C_api_Load x_35), [.sl (f_1.Loads.map A_api_Load) none], [.int .i64 4]], [(0, 0), (b_29.length, 2)]⟩) (by kernel_rfl) trivial ?_
                    refine ExO.nil ?_
                    refine Ex.blockK ?_
                    obtain ⟨K_67, hK_68, h⟩ := letE h
                    refine Ex.rangeJ (fun k S => (k = 0 ∧ ∃ (b_65 : List T_api_Near), K_67 b_65 = some r ∧ S = ⟨[(C_api_Float f_1), [.int .i64 apart_2], [.sl (b_65.map A_api_Near) (some 1)], [.int .i64 (IntKind.i64.wrap (b_30 + x_35.Watts))], [.sl (f_1.Loads.map A_api_Load) none], [.int .i64 2], (C_api_Load x_35), [.int .i64 y_28], (C_api_Load x_35), [.sl (f_1.Loads.map A_api_Load) none], [.int .i64 4]], [(0, 0), (b_65.length, 2), (0, 0)]⟩)) 108 [.ptr 9 0, .ptr 10 0] _ rfl comp108 rfl (leC hb_45 (by simp)) (by exact ⟨_, hbz_49, rfl⟩) (mkS 25 [(1, .ptr 9 0), (2, .ptr 10 0), (3, .tup []), (4, .tup []), (5, .tup []), (6, .tup []), (7, .tup []), (8, .tup []), (9, .tup []), (10, .tup []), (11, .tup []), (12, .tup []), (13, .tup []), (14, .tup []), (15, .tup []), (16, .tup []), (17, .tup []), (18, .tup []), (19, .tup []), (20, .tup []), (21, .tup []), (22, .tup []), (23, .tup []), (24, .tup [])]) (⟨[(C_api_Float f_1), [.int .i64 apart_2], [.sl (b_29.map A_api_Near) (some 1)], [.int .i64 (IntKind.i64.wrap (b_30 + x_35.Watts))], [.sl (f_1.Loads.map A_api_Load) none], [.int .i64 2], (C_api_Load x_35), [.int .i64 y_28], (C_api_Load x_35), [.sl (f_1.Loads.map A_api_Load) none], [.int .i64 4]], [(0, 0), (b_29.length, 2), (0, 0)]⟩) (fun _ => by kernel_rfl) (by kernel_rfl) ?_ ?_
                    · intro cx_59 Lp_58 hcn_60 hcm_61 hLt_62 hL_63 hup_64
                      refine Ex.castA (a2 := mkS 25 [(0, .yld Lp_58.l 2), (1, .ptr 9 0), (2, .ptr 10 0), (3, .tup []), (4, .tup []), (5, .tup []), (6, .tup []), (7, .tup []), (8, .tup []), (9, .tup []), (10, .tup []), (11, .tup []), (12, .tup []), (13, .tup []), (14, .tup []), (15, .tup []), (16, .tup []), (17, .tup []), (18, .tup []), (19, .tup []), (20, .tup []), (21, .tup []), (22, .tup []), (23, .tup []), (24, .tup [])]) (S2 := ⟨[(C_api_Float f_1), [.int .i64 apart_2], [.sl (b_29.map A_api_Near) (some 1)], [.int .i64 (IntKind.i64.wrap (b_30 + x_35.Watts))], [.sl (f_1.Loads.map A_api_Load) none], [.int .i64 2], (C_api_Load x_35), [.int .i64 y_28], (C_api_Load x_35), [.sl (f_1.Loads.map A_api_Load) none], [.int .i64 4]], [(0, 0), (b_29.length, 2), (0, 0)]⟩) (by kernel_rfl) rfl ?_
                      refine Ex.seq ?_
                      refine regH 3 [(1, .eq (.int .i64 ((f_1.Loads.length : Nat) : Int)))] [0, 2, 6, 7, 8] [AV.int .i64 (((f_1.Loads.map A_api_Load).length : Nat) : Int) = AV.int .i64 ((f_1.Loads.length : Nat) : Int)] (mkS 25 [(0, .yld Lp_58.l 2), (2, .ptr 10 0), (6, .sl (f_1.Loads.map A_api_Load) none), (7, .int .i64 ((f_1.Loads.length : Nat) : Int)), (8, .int .i64 0)]) (⟨[(C_api_Float f_1), [.int .i64 apart_2], [.sl (b_29.map A_api_Near) (some 1)], [.int .i64 (IntKind.i64.wrap (b_30 + x_35.Watts))], [.sl (f_1.Loads.map A_api_Load) none], [.int .i64 2], (C_api_Load x_35), [.int .i64 y_28], (C_api_Load x_35), [.sl (f_1.Loads.map A_api_Load) none], [.int .i64 4]], [(0, 0), (b_29.length, 2), (0, 0)]⟩) (by kernel_rfl) ⟨lenM _ _, trivial⟩ rfl ?_
                      obtain ⟨K_71, hK_72, h⟩ := letE h
                      refine Ex.blockJ (fun a S => ∃ (b_69 : List T_api_Near), K_71 b_69 = some r ∧ a = mkS 25 [] ∧ S = ⟨[(C_api_Float f_1), [.int .i64 apart_2], [.sl (b_69.map A_api_Near) (some 1)], [.int .i64 (IntKind.i64.wrap (b_30 + x_35.Watts))], [.sl (f_1.Loads.map A_api_Load) none], [.int .i64 2], (C_api_Load x_35), [.int .i64 y_28], (C_api_Load x_35), [.sl (f_1.Loads.map A_api_Load) none], [.int .i64 4]], [(0, 0), (b_69.length, 2), (0, 0)]⟩) ?_ ?_
                      · obtain ⟨B_76, hB_77, h⟩ := loop2I h
                        refine Ex.loopF (fun k a S => ∃ (y_73 : Int), ∃ (b_74 : List T_api_Near), loop2 B_76 k y_73 b_74 = some r ∧ a = mkS 25 [(0, .yld Lp_58.l 2), (2, .ptr 10 0), (6, .sl (f_1.Loads.map A_api_Load) none), (7, .int .i64 ((f_1.Loads.length : Nat) : Int)), (8, .int .i64 y_73)] ∧ S = ⟨[(C_api_Float f_1), [.int .i64 apart_2], [.sl (b_74.map A_api_Near) (some 1)], [.int .i64 (IntKind.i64.wrap (b_30 + x_35.Watts))], [.sl (f_1.Loads.map A_api_Load) none], [.int .i64 2], (C_api_Load x_35), [.int .i64 y_28], (C_api_Load x_35), [.sl (f_1.Loads.map A_api_Load) none], [.int .i64 4]], [(0, 0), (b_74.length, 2), (0, 0)]⟩) N ⟨_, _, Forgets.refl _ _ _, 0, b_29, h, rfl, rfl⟩ ?_
                        rintro k a S ⟨y_73, b_74, h, rfl, rfl⟩
                        cases k with
                        | zero => exact (loop2Z h).elim
                        | succ k =>
                          replace h := loop2S h hB_77
                          refine Ex.seq ?_
                          refine regH 1 [] [0, 2, 6, 7, 8, 9] [] (mkS 25 [(0, .yld Lp_58.l 2), (2, .ptr 10 0), (6, .sl (f_1.Loads.map A_api_Load) none), (7, .int .i64 ((f_1.Loads.length : Nat) : Int)), (8, .int .i64 y_73), (9, .bool (decide (y_73 < ((f_1.Loads.length : Nat) : Int))))]) (⟨[(C_api_Float f_1), [.int .i64 apart_2], [.sl (b_74.map A_api_Near) (some 1)], [.int .i64 (IntKind.i64.wrap (b_30 + x_35.Watts))], [.sl (f_1.Loads.map A_api_Load) none], [.int .i64 2], (C_api_Load x_35), [.int .i64 y_28], (C_api_Load x_35), [.sl (f_1.Loads.map A_api_Load) none], [.int .i64 4]], [(0, 0), (b_74.length, 2), (0, 0)]⟩) (by kernel_rfl) trivial rfl ?_
                          refine Ex.seq ?_
                          rcases condI h with ⟨hc_78, h⟩ | ⟨hc_78, h⟩
                          · refine Ex.condT _ rfl hc_78 ?_
                            refine Ex.skip ?_
                            refine Ex.seq ?_
                            refine Ex.blockK ?_
                            refine Ex.seq ?_
                            obtain ⟨x_79, hx_79, h⟩ := Option.bind_eq_some_iff.1 h
                            refine regH 6 [(1, .rop (C_api_Load x_79))] [0, 2, 4, 5, 6, 7, 8] [LGet (f_1.Loads.map A_api_Load) y_73 7 (C_api_Load x_79)] (mkS 25 [(0, .yld Lp_58.l 2), (2, .ptr 10 0), (4, .int .i64 y_73), (5, .ptr 11 0), (6, .sl (f_1.Loads.map A_api_Load) none), (7, .int .i64 ((f_1.Loads.length : Nat) : Int)), (8, .int .i64 y_73)]) (⟨[(C_api_Float f_1), [.int .i64 apart_2], [.sl (b_74.map A_api_Near) (some 1)], [.int .i64 (IntKind.i64.wrap (b_30 + x_35.Watts))], [.sl (f_1.Loads.map A_api_Load) none], [.int .i64 2], (C_api_Load x_35), [.int .i64 y_28], (C_api_Load x_35), [.sl (f_1.Loads.map A_api_Load) none], [.int .i64 4], (C_api_Load x_79)], [(0, 0), (b_74.length, 2), (0, 0)]⟩) (by kernel_rfl) ⟨LGet.of hx_79 rfl, trivial⟩ rfl ?_
                            obtain ⟨K_82, hK_83, h⟩ := letE h
                            refine Ex.seqJ (fun a S => ∃ (b_80 : List T_api_Near), K_82 b_80 = some r ∧ a = mkS 25 [(0, .yld Lp_58.l 2), (2, .ptr 10 0), (6, .sl (f_1.Loads.map A_api_Load) none), (7, .int .i64 ((f_1.Loads.length : Nat) : Int)), (8, .int .i64 y_73), (23, .bool false)] ∧ S = ⟨[(C_api_Float f_1), [.int .i64 apart_2], [.sl (b_80.map A_api_Near) (some 1)], [.int .i64 (IntKind.i64.wrap (b_30 + x_35.Watts))], [.sl (f_1.Loads.map A_api_Load) none], [.int .i64 2], (C_api_Load x_35), [.int .i64 y_28], (C_api_Load x_35), [.sl (f_1.Loads.map A_api_Load) none], [.int .i64 4]], [(0, 0), (b_80.length, 2), (0, 0)]⟩) ?_ ?_
                            · rcases condI h with ⟨hc_84, h⟩ | ⟨hc_84, h⟩
                              · refine Ex.regI ?_
                                refine runI 8 [(4, .eq (.bool true))] [0, 2, 6, 7, 8, 17, 18, 19, 20] [AV.bool (x_79.Kind == 4) = AV.bool true] (mkS 25 [(0, .yld Lp_58.l 2), (2, .ptr 10 0), (6, .sl (f_1.Loads.map A_api_Load) none), (7, .int .i64 ((f_1.Loads.length : Nat) : Int)), (8, .int .i64 y_73), (17, .bool true), (18, .yld Lp_58.l 2), (19, .int .i64 y_73), (20, (A_api_Load x_79))]) (⟨[(C_api_Float f_1), [.int .i64 apart_2], [.sl (b_74.map A_api_Near) (some 1)], [.int .i64 (IntKind.i64.wrap (b_30 + x_35.Watts))], [.sl (f_1.Loads.map A_api_Load) none], [.int .i64 2], (C_api_Load x_35), [.int .i64 y_28], (C_api_Load x_35), [.sl (f_1.Loads.map A_api_Load) none], [.int .i64 4], (C_api_Load x_79)], [(0, 0), (b_74.length, 2), (0, 0)]⟩) (by kernel_rfl) ⟨congrArg AV.bool hc_84, trivial⟩ ?_
                                obtain ⟨K_95, hK_96, h⟩ := letE h
                                refine ExI.yieldT 2 hLt_62 hL_63 [.int .i64 y_73, (A_api_Load x_79)] rfl rfl rfl (by kernel_rfl) rfl rfl (leC hcn_60 (by simp)) ?_
                                intro ca_85 cb_86 ha_87 hb_88 hma_89 hmb_90 hup_91 hbz_92
                                refine Ex.castA (a2 := mkS 58 [(3, .ptr 1 0), (4, .ptr 2 0), (8, .ptr 7 0), (9, .ptr 8 0), (33, .fn 108 [] [.ptr 9 0, .ptr 10 0]), (34, .int .i64 y_73), (35, (A_api_Load x_79))]) (S2 := ⟨[(C_api_Float f_1), [.int .i64 apart_2], [.sl (b_74.map A_api_Near) (some 1)], [.int .i64 (IntKind.i64.wrap (b_30 + x_35.Watts))], [.sl (f_1.Loads.map A_api_Load) none], [.int .i64 2], (C_api_Load x_35), [.int .i64 y_28], (C_api_Load x_35), [.sl (f_1.Loads.map A_api_Load) none], [.int .i64 4], (C_api_Load x_79)], [(0, 0), (b_74.length, 2), (0, 0)]⟩) (by kernel_rfl) (by kernel_rfl) ?_
                                refine Ex.two (fun z S => (z = AEx.norm ∧ ∃ (b_93 : List T_api_Near), K_95 b_93 = some r ∧ S = ⟨[(C_api_Float f_1), [.int .i64 apart_2], [.sl (b_93.map A_api_Near) (some 1)], [.int .i64 (IntKind.i64.wrap (b_30 + x_35.Watts))], [.sl (f_1.Loads.map A_api_Load) none], [.int .i64 2], (C_api_Load x_35), [.int .i64 y_28], (C_api_Load x_35), [.sl (f_1.Loads.map A_api_Load) none], [.int .i64 4], (C_api_Load x_79)], [(0, 0), (b_93.length, 2), (0, 0)]⟩)) ?_ ?_
                                · refine Ex.seq ?_
                                  refine regH 1 [] [3, 4, 8, 9, 10, 35] [] (mkS 58 [(3, .ptr 1 0), (4, .ptr 2 0), (8, .ptr 7 0), (9, .ptr 8 0), (10, .int .i64 y_73), (35, (A_api_Load x_79))]) (⟨[(C_api_Float f_1), [.int .i64 apart_2], [.sl (b_74.map A_api_Near) (some 1)], [.int .i64 (IntKind.i64.wrap (b_30 + x_35.Watts))], [.sl (f_1.Loads.map A_api_Load) none], [.int .i64 2], (C_api_Load x_35), [.int .i64 y_28], (C_api_Load x_35), [.sl (f_1.Loads.map A_api_Load) none], [.int .i64 4], (C_api_Load x_79)], [(0, 0), (b_74.length, 2), (0, 0)]⟩) (by kernel_rfl) trivial rfl ?_
                                  refine regH 2 [] [3, 4, 8, 9, 10, 11] [] (mkS 58 [(3, .ptr 1 0), (4, .ptr 2 0), (8, .ptr 7 0), (9, .ptr 8 0), (10, .int .i64 y_73), (11, .ptr 12 0)]) (⟨[(C_api_Float f_1), [.int .i64 apart_2], [.sl (b_74.map A_api_Near) (some 1)], [.int .i64 (IntKind.i64.wrap (b_30 + x_35.Watts))], [.sl (f_1.Loads.map A_api_Load) none], [.int .i64 2], (C_api_Load x_35), [.int .i64 y_28], (C_api_Load x_35), [.sl (f_1.Loads.map A_api_Load) none], [.int .i64 4], (C_api_Load x_79), (C_api_Load x_79)], [(0, 0), (b_74.length, 2), (0, 0)]⟩) (by kernel_rfl) trivial rfl ?_
                                  refine ⟨rfl, rfl, ?_⟩
                                  obtain ⟨K_99, hK_100, h⟩ := letE h
                                  refine Ex.blockJ (fun a S => ∃ (b_97 : List T_api_Near), K_99 b_97 = some r ∧ a = mkS 58 [] ∧ S = ⟨[(C_api_Float f_1), [.int .i64 apart_2], [.sl (b_97.map A_api_Near) (some 1)], [.int .i64 (IntKind.i64.wrap (b_30 + x_35.Watts))], [.sl (f_1.Loads.map A_api_Load) none], [.int .i64 2], (C_api_Load x_35), [.int .i64 y_28], (C_api_Load x_35), [.sl (f_1.Loads.map A_api_Load) none], [.int .i64 4], (C_api_Load x_79)], [(0, 0), (b_97.length, 2), (0, 0)]⟩) ?_ ?_
                                  · refine Ex.seq ?_
                                    obtain ⟨r_101, hr_101, h⟩ := Option.bind_eq_some_iff.1 h
                                    have hT_102 : DoesA Try.prog [⟨92, [(A_api_Load x_35), (A_api_Load x_79)], [], (v_float_distance r_101), []⟩] ∧ ConsA [⟨92, [(A_api_Load x_35), (A_api_Load x_79)], [], (v_float_distance r_101), []⟩] := ⟨⟨(d_float_distance N x_35 x_79 r_101 hr_101), rfl, trivial⟩, ⟨trivial, trivial⟩⟩
                                    refine Ex.drawE (a1 := mkS 58 [(3, .ptr 1 0), (4, .ptr 2 0), (8, .ptr 7 0), (9, .ptr 8 0), (10, .int .i64 y_73), (11, .ptr 12 0), (36, (A_api_Load x_35)), (37, (A_api_Load x_79)), (38, .int .i64 r_101), (39, .int .i64 apart_2)]) (tabO_ok hT_102.1) [] [] [] ?_ ?_
                                    · refine drS [0, 1, 2, 3, 4, 5, 6, 7, 8, 9, 10, 11, 12] 2 [] [] (mkS 58 [(3, .ptr 1 0), (4, .ptr 2 0), (8, .ptr 7 0), (9, .ptr 8 0), (10, .int .i64 y_73), (11, .ptr 12 0), (36, (A_api_Load x_35)), (37, (A_api_Load x_79))]) (by simp) (by kernel_rfl) trivial (by kernel_rfl) ?_
                                      refine drC hT_102.2 0 _ [(A_api_Load x_35), (A_api_Load x_79)] (v_float_distance r_101) rfl rfl rfl rfl rfl (fun _ => rfl) rfl (by simp; try rfl) (fun _ => b_float_distance _ _ _ _) ?_
                                      refine drS [0, 1, 2, 3, 4, 5, 6, 7, 8, 9, 10, 11, 12] 1 [] [] (mkS 58 [(3, .ptr 1 0), (4, .ptr 2 0), (8, .ptr 7 0), (9, .ptr 8 0), (10, .int .i64 y_73), (11, .ptr 12 0), (36, (A_api_Load x_35)), (37, (A_api_Load x_79)), (38, .int .i64 r_101), (39, .int .i64 apart_2)]) (by simp) (by kernel_rfl) trivial (by kernel_rfl) ?_
                                      exact DrO.nil rfl
                                    · dsimp only [List.getLastD_cons, List.getLastD_nil]
                                      refine runH 1 [] [4, 8, 10, 40] [] (mkS 58 [(4, .ptr 2 0), (8, .ptr 7 0), (10, .int .i64 y_73), (40, .bool (decide (r_101 < apart_2)))]) (⟨[(C_api_Float f_1), [.int .i64 apart_2], [.sl (b_74.map A_api_Near) (some 1)], [.int .i64 (IntKind.i64.wrap (b_30 + x_35.Watts))], [.sl (f_1.Loads.map A_api_Load) none], [.int .i64 2], (C_api_Load x_35), [.int .i64 y_28], (C_api_Load x_35), [.sl (f_1.Loads.map A_api_Load) none], [.int .i64 4], (C_api_Load x_79), (C_api_Load x_79)], [(0, 0), (b_74.length, 2), (0, 0)]⟩) (by kernel_rfl) trivial ?_
                                      refine ExO.nil ?_
                                      rcases condI h with ⟨hc_103, h⟩ | ⟨hc_103, h⟩
                                      · refine Ex.condT _ rfl hc_103 ?_
                                        obtain ⟨l_104, hl_104, h⟩ := Option.bind_eq_some_iff.1 h
                                        refine regH 7 [(5, .app (l_104.map A_api_Near) l_104.length)] [] [LApp b_74.length (b_74.map A_api_Near) (([(⟨y_28, y_73⟩ : T_api_Near)] : List T_api_Near).map A_api_Near) 2 (l_104.map A_api_Near) l_104.length] (mkS 58 []) (⟨[(C_api_Float f_1), [.int .i64 apart_2], [.sl (l_104.map A_api_Near) (some 1)], [.int .i64 (IntKind.i64.wrap (b_30 + x_35.Watts))], [.sl (f_1.Loads.map A_api_Load) none], [.int .i64 2], (C_api_Load x_35), [.int .i64 y_28], (C_api_Load x_35), [.sl (f_1.Loads.map A_api_Load) none], [.int .i64 4], (C_api_Load x_79), (C_api_Load x_79)], [(0, 0), (l_104.length, 2), (0, 0), (1, 2)]⟩) (by kernel_rfl) ⟨LApp.of hl_104 (fun _ => rfl), trivial⟩ rfl ?_
                                        (try simp only [reduceCtorEq, AEx.ex.injEq, Nat.reduceEqDiff, if_true, if_false])
                                        exact ⟨_, _, forgetA (m := 58) 12 [0, 1, 2] [] [(C_api_Float f_1), [.int .i64 apart_2], [.sl (l_104.map A_api_Near) (some 1)], [.int .i64 (IntKind.i64.wrap (b_30 + x_35.Watts))], [.sl (f_1.Loads.map A_api_Load) none], [.int .i64 2], (C_api_Load x_35), [.int .i64 y_28], (C_api_Load x_35), [.sl (f_1.Loads.map A_api_Load) none], [.int .i64 4], (C_api_Load x_79)] [(0, 0), (l_104.length, 2), (0, 0)] (leC hb_88 (by simp)) (by simp) trivial (by simp) rfl (by decide) (sig0 3 hmb_90 rfl), l_104, h, rfl, rfl⟩
                                      · refine Ex.condF _ rfl hc_103 ?_
                                        refine Ex.skip ?_
                                        (try simp only [reduceCtorEq, AEx.ex.injEq, Nat.reduceEqDiff, if_true, if_false])
                                        exact ⟨_, _, forgetA (m := 58) 12 [0, 1, 2] [] [(C_api_Float f_1), [.int .i64 apart_2], [.sl (b_74.map A_api_Near) (some 1)], [.int .i64 (IntKind.i64.wrap (b_30 + x_35.Watts))], [.sl (f_1.Loads.map A_api_Load) none], [.int .i64 2], (C_api_Load x_35), [.int .i64 y_28], (C_api_Load x_35), [.sl (f_1.Loads.map A_api_Load) none], [.int .i64 4], (C_api_Load x_79)] [(0, 0), (b_74.length, 2), (0, 0)] (leC hb_88 (by simp)) (by simp) trivial (by simp) rfl (by decide) (sig0 3 hmb_90 rfl), b_74, h, rfl, rfl⟩
                                  · rintro a S ⟨b_97, h, rfl, rfl⟩
                                    subst hK_100
                                    (try simp only [reduceCtorEq, AEx.ex.injEq, Nat.reduceEqDiff, if_true, if_false])
                                    exact ⟨_, _, Forgets.refl _ _ _, ⟨by first | rfl | trivial, b_97, h, rfl⟩⟩
                                · rintro z a2 S (⟨rfl, b_93, h, rfl⟩)
                                  subst hK_96
                                  refine runI 2 [] [0, 2, 6, 7, 8, 23] [] (mkS 25 [(0, .yld Lp_58.l 2), (2, .ptr 10 0), (6, .sl (f_1.Loads.map A_api_Load) none), (7, .int .i64 ((f_1.Loads.length : Nat) : Int)), (8, .int .i64 y_73), (23, .bool false)]) (⟨[(C_api_Float f_1), [.int .i64 apart_2], [.sl (b_93.map A_api_Near) (some 1)], [.int .i64 (IntKind.i64.wrap (b_30 + x_35.Watts))], [.sl (f_1.Loads.map A_api_Load) none], [.int .i64 2], (C_api_Load x_35), [.int .i64 y_28], (C_api_Load x_35), [.sl (f_1.Loads.map A_api_Load) none], [.int .i64 4], (C_api_Load x_79)], [(0, 0), (b_93.length, 2), (0, 0)]⟩) (by kernel_rfl) trivial ?_
                                  refine ExI.nil ?_
                                  (try simp only [reduceCtorEq, AEx.ex.injEq, Nat.reduceEqDiff, if_true, if_false])
                                  exact ⟨_, _, forgetA (m := 25) 11 [0, 1, 2] [(0, .yld Lp_58.l 2), (2, .ptr 10 0), (6, .sl (f_1.Loads.map A_api_Load) none), (7, .int .i64 ((f_1.Loads.length : Nat) : Int)), (8, .int .i64 y_73), (23, .bool false)] [(C_api_Float f_1), [.int .i64 apart_2], [.sl (b_93.map A_api_Near) (some 1)], [.int .i64 (IntKind.i64.wrap (b_30 + x_35.Watts))], [.sl (f_1.Loads.map A_api_Load) none], [.int .i64 2], (C_api_Load x_35), [.int .i64 y_28], (C_api_Load x_35), [.sl (f_1.Loads.map A_api_Load) none], [.int .i64 4]] [(0, 0), (b_93.length, 2), (0, 0)] (leC hcn_60 (by simp)) (by simp) ⟨rfl, rfl, (reN (KL_api_Load _)), rfl, rfl, rfl, trivial⟩ (by simp) rfl (by decide) (sig0 3 hcm_61 rfl), b_93, h, rfl, rfl⟩
                              · refine Ex.regI ?_
                                refine runI 11 [(4, .eq (.bool false))] [0, 2, 6, 7, 8, 23] [AV.bool (x_79.Kind == 4) = AV.bool false] (mkS 25 [(0, .yld Lp_58.l 2), (2, .ptr 10 0), (6, .sl (f_1.Loads.map A_api_Load) none), (7, .int .i64 ((f_1.Loads.length : Nat) : Int)), (8, .int .i64 y_73), (23, .bool false)]) (⟨[(C_api_Float f_1), [.int .i64 apart_2], [.sl (b_74.map A_api_Near) (some 1)], [.int .i64 (IntKind.i64.wrap (b_30 + x_35.Watts))], [.sl (f_1.Loads.map A_api_Load) none], [.int .i64 2], (C_api_Load x_35), [.int .i64 y_28], (C_api_Load x_35), [.sl (f_1.Loads.map A_api_Load) none], [.int .i64 4], (C_api_Load x_79)], [(0, 0), (b_74.length, 2), (0, 0)]⟩) (by kernel_rfl) ⟨congrArg AV.bool hc_84, trivial⟩ ?_
                                refine ExI.nil ?_
                                (try simp only [reduceCtorEq, AEx.ex.injEq, Nat.reduceEqDiff, if_true, if_false])
                                exact ⟨_, _, forgetA (m := 25) 11 [0, 1, 2] [(0, .yld Lp_58.l 2), (2, .ptr 10 0), (6, .sl (f_1.Loads.map A_api_Load) none), (7, .int .i64 ((f_1.Loads.length : Nat) : Int)), (8, .int .i64 y_73), (23, .bool false)] [(C_api_Float f_1), [.int .i64 apart_2], [.sl (b_74.map A_api_Near) (some 1)], [.int .i64 (IntKind.i64.wrap (b_30 + x_35.Watts))], [.sl (f_1.Loads.map A_api_Load) none], [.int .i64 2], (C_api_Load x_35), [.int .i64 y_28], (C_api_Load x_35), [.sl (f_1.Loads.map A_api_Load) none], [.int .i64 4]] [(0, 0), (b_74.length, 2), (0, 0)] (leC hcn_60 (by simp)) (by simp) ⟨rfl, rfl, (reN (KL_api_Load _)), rfl, rfl, rfl, trivial⟩ (by simp) rfl (by decide) (sig0 3 hcm_61 rfl), b_74, h, rfl, rfl⟩
                            · rintro a S ⟨b_80, h, rfl, rfl⟩
                              subst hK_83
                              refine Ex.cond (b := false) rfl ?_
                              refine Ex.skip ?_
                              refine regH 2 [] [0, 2, 6, 7, 8] [] (mkS 25 [(0, .yld Lp_58.l 2), (2, .ptr 10 0), (6, .sl (f_1.Loads.map A_api_Load) none), (7, .int .i64 ((f_1.Loads.length : Nat) : Int)), (8, .int .i64 (IntKind.i64.wrap (y_73 + 1)))]) (⟨[(C_api_Float f_1), [.int .i64 apart_2], [.sl (b_80.map A_api_Near) (some 1)], [.int .i64 (IntKind.i64.wrap (b_30 + x_35.Watts))], [.sl (f_1.Loads.map A_api_Load) none], [.int .i64 2], (C_api_Load x_35), [.int .i64 y_28], (C_api_Load x_35), [.sl (f_1.Loads.map A_api_Load) none], [.int .i64 4]], [(0, 0), (b_80.length, 2), (0, 0)]⟩) (by kernel_rfl) trivial rfl ?_
                              dsimp only
                              exact ⟨_, _, Forgets.refl _ _ _, k, Nat.lt_succ_self k, (IntKind.i64.wrap (y_73 + 1)), b_80, h, rfl, rfl⟩
                          · refine Ex.condF _ rfl hc_78 ?_
                            refine Ex.exit ?_
                            (try simp only [reduceCtorEq, AEx.ex.injEq, Nat.reduceEqDiff, if_true, if_false])
                            exact ⟨_, _, forgetK [], b_74, h, rfl, rfl⟩
                      · rintro a S ⟨b_69, h, rfl, rfl⟩
                        subst hK_72
                        exact ⟨_, _, Forgets.refl _ _ _, .inl rfl, 0, rfl, ⟨by first | rfl | trivial, b_69, h, rfl⟩⟩
                    · rintro k S (⟨rfl, b_65, h, rfl⟩)
                      subst hK_68
                      (try simp only [reduceCtorEq, AEx.ex.injEq, Nat.reduceEqDiff, if_true, if_false])
                      exact ⟨_, _, forgetA (m := 58) 7 [0, 1] [] [(C_api_Float f_1), [.int .i64 apart_2], [.sl (b_65.map A_api_Near) (some 1)], [.int .i64 (IntKind.i64.wrap (b_30 + x_35.Watts))], [.sl (f_1.Loads.map A_api_Load) none], [.int .i64 2], (C_api_Load x_35)] [(0, 0), (b_65.length, 2)] (leC hb_45 (by simp)) (by simp) trivial (by simp) rfl (by decide) (sig0 2 hmb_47 rfl), ⟨by first | rfl | trivial, b_65, h, rfl⟩⟩
                  · rintro z a2 S (⟨rfl, b_50, h, rfl⟩)
                    subst hK_53
                    refine runI 2 [] [0, 2, 6, 7, 8, 23] [] (mkS 25 [(0, .yld Lp_11.l 0), (2, .ptr 5 0), (6, .sl (f_1.Loads.map A_api_Load) none), (7, .int .i64 ((f_1.Loads.length : Nat) : Int)), (8, .int .i64 y_28), (23, .bool false)]) (⟨[(C_api_Float f_1), [.int .i64 apart_2], [.sl (b_50.map A_api_Near) (some 1)], [.int .i64 (IntKind.i64.wrap (b_30 + x_35.Watts))], [.sl (f_1.Loads.map A_api_Load) none], [.int .i64 2], (C_api_Load x_35)], [(0, 0), (b_50.length, 2)]⟩) (by kernel_rfl) trivial ?_
                    refine ExI.nil ?_
                    (try simp only [reduceCtorEq, AEx.ex.injEq, Nat.reduceEqDiff, if_true, if_false])
                    exact ⟨_, _, forgetA (m := 25) 6 [0, 1] [(0, .yld Lp_11.l 0), (2, .ptr 5 0), (6, .sl (f_1.Loads.map A_api_Load) none), (7, .int .i64 ((f_1.Loads.length : Nat) : Int)), (8, .int .i64 y_28), (23, .bool false)] [(C_api_Float f_1), [.int .i64 apart_2], [.sl (b_50.map A_api_Near) (some 1)], [.int .i64 (IntKind.i64.wrap (b_30 + x_35.Watts))], [.sl (f_1.Loads.map A_api_Load) none], [.int .i64 2]] [(0, 0), (b_50.length, 2)] (leC hcn_13 (by simp)) (by simp) ⟨rfl, rfl, (reN (KL_api_Load _)), rfl, rfl, rfl, trivial⟩ (by simp) rfl (by decide) (sig0 1 hcm_14 rfl), b_50, (IntKind.i64.wrap (b_30 + x_35.Watts)), h, rfl, rfl⟩
                · refine Ex.regI ?_
                  refine runI 11 [(4, .eq (.bool false))] [0, 2, 6, 7, 8, 23] [AV.bool (x_35.Kind == 2) = AV.bool false] (mkS 25 [(0, .yld Lp_11.l 0), (2, .ptr 5 0), (6, .sl (f_1.Loads.map A_api_Load) none), (7, .int .i64 ((f_1.Loads.length : Nat) : Int)), (8, .int .i64 y_28), (23, .bool false)]) (⟨[(C_api_Float f_1), [.int .i64 apart_2], [.sl (b_29.map A_api_Near) (some 1)], [.int .i64 b_30], [.sl (f_1.Loads.map A_api_Load) none], [.int .i64 2], (C_api_Load x_35)], [(0, 0), (b_29.length, 2)]⟩) (by kernel_rfl) ⟨congrArg AV.bool hc_41, trivial⟩ ?_
                  refine ExI.nil ?_
                  (try simp only [reduceCtorEq, AEx.ex.injEq, Nat.reduceEqDiff, if_true, if_false])
                  exact ⟨_, _, forgetA (m := 25) 6 [0, 1] [(0, .yld Lp_11.l 0), (2, .ptr 5 0), (6, .sl (f_1.Loads.map A_api_Load) none), (7, .int .i64 ((f_1.Loads.length : Nat) : Int)), (8, .int .i64 y_28), (23, .bool false)] [(C_api_Float f_1), [.int .i64 apart_2], [.sl (b_29.map A_api_Near) (some 1)], [.int .i64 b_30], [.sl (f_1.Loads.map A_api_Load) none], [.int .i64 2]] [(0, 0), (b_29.length, 2)] (leC hcn_13 (by simp)) (by simp) ⟨rfl, rfl, (reN (KL_api_Load _)), rfl, rfl, rfl, trivial⟩ (by simp) rfl (by decide) (sig0 1 hcm_14 rfl), b_29, b_30, h, rfl, rfl⟩
              · rintro a S ⟨b_36, b_37, h, rfl, rfl⟩
                subst hK_40
                refine Ex.cond (b := false) rfl ?_
                refine Ex.skip ?_
                refine regH 2 [] [0, 2, 6, 7, 8] [] (mkS 25 [(0, .yld Lp_11.l 0), (2, .ptr 5 0), (6, .sl (f_1.Loads.map A_api_Load) none), (7, .int .i64 ((f_1.Loads.length : Nat) : Int)), (8, .int .i64 (IntKind.i64.wrap (y_28 + 1)))]) (⟨[(C_api_Float f_1), [.int .i64 apart_2], [.sl (b_36.map A_api_Near) (some 1)], [.int .i64 b_37], [.sl (f_1.Loads.map A_api_Load) none], [.int .i64 2]], [(0, 0), (b_36.length, 2)]⟩) (by kernel_rfl) trivial rfl ?_
                dsimp only
                exact ⟨_, _, Forgets.refl _ _ _, k, Nat.lt_succ_self k, (IntKind.i64.wrap (y_28 + 1)), b_36, b_37, h, rfl, rfl⟩
            · refine Ex.condF _ rfl hc_34 ?_
              refine Ex.exit ?_
              (try simp only [reduceCtorEq, AEx.ex.injEq, Nat.reduceEqDiff, if_true, if_false])
              exact ⟨_, _, forgetK [], b_29, b_30, h, rfl, rfl⟩
        · rintro a S ⟨b_23, b_24, h, rfl, rfl⟩
          subst hK_27
          exact ⟨_, _, Forgets.refl _ _ _, .inl rfl, 0, rfl, ⟨by first | rfl | trivial, b_23, b_24, h, rfl⟩⟩
      · rintro k S (⟨rfl, b_18, b_19, h, rfl⟩)
        subst hK_22
        refine Ex.seq ?_
        refine Ex.seq ?_
        refine Ex.reg ?_
        refine runH 2 [] [4, 5, 6, 48] [] (mkS 58 [(4, .ptr 2 0), (5, .ptr 3 0), (6, .int .i64 0), (48, .sl (f_1.Loads.map A_api_Load) none)]) (⟨[(C_api_Float f_1), [.int .i64 apart_2], [.sl (b_18.map A_api_Near) (some 1)], [.int .i64 b_19], [.sl (f_1.Loads.map A_api_Load) none], [.int .i64 2]], [(0, 0), (b_18.length, 2)]⟩) (by kernel_rfl) trivial ?_
        refine ExO.inlC 91 [.sl (f_1.Loads.map A_api_Load) none, .int .i64 3] _ comp91 (by simp) rfl rfl ?_
        intro cx_105 hcn_106 hcm_107 hup_108
        refine Ex.castA (a2 := mkS 6 [(0, .sl (f_1.Loads.map A_api_Load) none), (1, .int .i64 3), (2, .tup []), (3, .tup []), (4, .tup []), (5, .tup [])]) (S2 := ⟨[(C_api_Float f_1), [.int .i64 apart_2], [.sl (b_18.map A_api_Near) (some 1)], [.int .i64 b_19], [.sl (f_1.Loads.map A_api_Load) none], [.int .i64 2]], [(0, 0), (b_18.length, 2)]⟩) (by kernel_rfl) (by kernel_rfl) ?_
        refine Ex.seq ?_
        refine regH 3 [] [2, 3] [] (mkS 6 [(2, .ptr 6 0), (3, .ptr 7 0)]) (⟨[(C_api_Float f_1), [.int .i64 apart_2], [.sl (b_18.map A_api_Near) (some 1)], [.int .i64 b_19], [.sl (f_1.Loads.map A_api_Load) none], [.int .i64 2], [.sl (f_1.Loads.map A_api_Load) none], [.int .i64 3]], [(0, 0), (b_18.length, 2)]⟩) (by kernel_rfl) trivial rfl ?_
        refine Ex.seq ?_
        refine regH 2 [] [4] [] (mkS 6 [(4, .fn 108 [] [.ptr 6 0, .ptr 7 0])]) (⟨[(C_api_Float f_1), [.int .i64 apart_2], [.sl (b_18.map A_api_Near) (some 1)], [.int .i64 b_19], [.sl (f_1.Loads.map A_api_Load) none], [.int .i64 2], [.sl (f_1.Loads.map A_api_Load) none], [.int .i64 3]], [(0, 0), (b_18.length, 2)]⟩) (by kernel_rfl) trivial rfl ?_
        refine Ex.ret ?_
        refine ⟨.inr rfl, .fn 108 [] [.ptr 6 0, .ptr 7 0], by kernel_rfl, ?_⟩
        refine runH 0 [] [4, 5, 6, 49] [] (mkS 58 [(4, .ptr 2 0), (5, .ptr 3 0), (6, .int .i64 0), (49, .fn 108 [] [.ptr 6 0, .ptr 7 0])]) (⟨[(C_api_Float f_1), [.int .i64 apart_2], [.sl (b_18.map A_api_Near) (some 1)], [.int .i64 b_19], [.sl (f_1.Loads.map A_api_Load) none], [.int .i64 2], [.sl (f_1.Loads.map A_api_Load) none], [.int .i64 3]], [(0, 0), (b_18.length, 2)]⟩) (by kernel_rfl) trivial ?_
        refine ExO.nil ?_
        refine Ex.blockK ?_
        obtain ⟨K_118, hK_119, h⟩ := letE h
        refine Ex.rangeJ (fun k S => (k = 0 ∧ ∃ (b_116 : Int), K_118 b_116 = some r ∧ S = ⟨[(C_api_Float f_1), [.int .i64 apart_2], [.sl (b_18.map A_api_Near) (some 1)], [.int .i64 b_116], [.sl (f_1.Loads.map A_api_Load) none], [.int .i64 2], [.sl (f_1.Loads.map A_api_Load) none], [.int .i64 3]], [(0, 0), (b_18.length, 2), (0, 0)]⟩)) 108 [.ptr 6 0, .ptr 7 0] _ rfl comp108 rfl (by simp) (by exact trivial) (mkS 25 [(1, .ptr 6 0), (2, .ptr 7 0), (3, .tup []), (4, .tup []), (5, .tup []), (6, .tup []), (7, .tup []), (8, .tup []), (9, .tup []), (10, .tup []), (11, .tup []), (12, .tup []), (13, .tup []), (14, .tup []), (15, .tup []), (16, .tup []), (17, .tup []), (18, .tup []), (19, .tup []), (20, .tup []), (21, .tup []), (22, .tup []), (23, .tup []), (24, .tup [])]) (⟨[(C_api_Float f_1), [.int .i64 apart_2], [.sl (b_18.map A_api_Near) (some 1)], [.int .i64 b_19], [.sl (f_1.Loads.map A_api_Load) none], [.int .i64 2], [.sl (f_1.Loads.map A_api_Load) none], [.int .i64 3]], [(0, 0), (b_18.length, 2), (0, 0)]⟩) (fun _ => by kernel_rfl) (by kernel_rfl) ?_ ?_
        · intro cx_110 Lp_109 hcn_111 hcm_112 hLt_113 hL_114 hup_115
          refine Ex.castA (a2 := mkS 25 [(0, .yld Lp_109.l 2), (1, .ptr 6 0), (2, .ptr 7 0), (3, .tup []), (4, .tup []), (5, .tup []), (6, .tup []), (7, .tup []), (8, .tup []), (9, .tup []), (10, .tup []), (11, .tup []), (12, .tup []), (13, .tup []), (14, .tup []), (15, .tup []), (16, .tup []), (17, .tup []), (18, .tup []), (19, .tup []), (20, .tup []), (21, .tup []), (22, .tup []), (23, .tup []), (24, .tup [])]) (S2 := ⟨[(C_api_Float f_1), [.int .i64 apart_2], [.sl (b_18.map A_api_Near) (some 1)], [.int .i64 b_19], [.sl (f_1.Loads.map A_api_Load) none], [.int .i64 2], [.sl (f_1.Loads.map A_api_Load) none], [.int .i64 3]], [(0, 0), (b_18.length, 2), (0, 0)]⟩) (by kernel_rfl) rfl ?_
          refine Ex.seq ?_
          refine regH 3 [(1, .eq (.int .i64 ((f_1.Loads.length : Nat) : Int)))] [0, 2, 6, 7, 8] [AV.int .i64 (((f_1.Loads.map A_api_Load).length : Nat) : Int) = AV.int .i64 ((f_1.Loads.length : Nat) : Int)] (mkS 25 [(0, .yld Lp_109.l 2), (2, .ptr 7 0), (6, .sl (f_1.Loads.map A_api_Load) none), (7, .int .i64 ((f_1.Loads.length : Nat) : Int)), (8, .int .i64 0)]) (⟨[(C_api_Float f_1), [.int .i64 apart_2], [.sl (b_18.map A_api_Near) (some 1)], [.int .i64 b_19], [.sl (f_1.Loads.map A_api_Load) none], [.int .i64 2], [.sl (f_1.Loads.map A_api_Load) none], [.int .i64 3]], [(0, 0), (b_18.length, 2), (0, 0)]⟩) (by kernel_rfl) ⟨lenM _ _, trivial⟩ rfl ?_
          obtain ⟨K_122, hK_123, h⟩ := letE h
          refine Ex.blockJ (fun a S => ∃ (b_120 : Int), K_122 b_120 = some r ∧ a = mkS 25 [] ∧ S = ⟨[(C_api_Float f_1), [.int .i64 apart_2], [.sl (b_18.map A_api_Near) (some 1)], [.int .i64 b_120], [.sl (f_1.Loads.map A_api_Load) none], [.int .i64 2], [.sl (f_1.Loads.map A_api_Load) none], [.int .i64 3]], [(0, 0), (b_18.length, 2), (0, 0)]⟩) ?_ ?_
          · obtain ⟨B_127, hB_128, h⟩ := loop2I h
            refine Ex.loopF (fun k a S => ∃ (y_124 : Int), ∃ (b_125 : Int), loop2 B_127 k y_124 b_125 = some r ∧ a = mkS 25 [(0, .yld Lp_109.l 2), (2, .ptr 7 0), (6, .sl (f_1.Loads.map A_api_Load) none), (7, .int .i64 ((f_1.Loads.length : Nat) : Int)), (8, .int .i64 y_124)] ∧ S = ⟨[(C_api_Float f_1), [.int .i64 apart_2], [.sl (b_18.map A_api_Near) (some 1)], [.int .i64 b_125], [.sl (f_1.Loads.map A_api_Load) none], [.int .i64 2], [.sl (f_1.Loads.map A_api_Load) none], [.int .i64 3]], [(0, 0), (b_18.length, 2), (0, 0)]⟩) N ⟨_, _, Forgets.refl _ _ _, 0, b_19, h, rfl, rfl⟩ ?_
            rintro k a S ⟨y_124, b_125, h, rfl, rfl⟩
            cases k with
            | zero => exact (loop2Z h).elim
            | succ k =>
              replace h := loop2S h hB_128
              refine Ex.seq ?_
              refine regH 1 [] [0, 2, 6, 7, 8, 9] [] (mkS 25 [(0, .yld Lp_109.l 2), (2, .ptr 7 0), (6, .sl (f_1.Loads.map A_api_Load) none), (7, .int .i64 ((f_1.Loads.length : Nat) : Int)), (8, .int .i64 y_124), (9, .bool (decide (y_124 < ((f_1.Loads.length : Nat) : Int))))]) (⟨[(C_api_Float f_1), [.int .i64 apart_2], [.sl (b_18.map A_api_Near) (some 1)], [.int .i64 b_125], [.sl (f_1.Loads.map A_api_Load) none], [.int .i64 2], [.sl (f_1.Loads.map A_api_Load) none], [.int .i64 3]], [(0, 0), (b_18.length, 2), (0, 0)]⟩) (by kernel_rfl) trivial rfl ?_
              refine Ex.seq ?_
              rcases condI h with ⟨hc_129, h⟩ | ⟨hc_129, h⟩
              · refine Ex.condT _ rfl hc_129 ?_
                refine Ex.skip ?_
                refine Ex.seq ?_
                refine Ex.blockK ?_
                refine Ex.seq ?_
                obtain ⟨x_130, hx_130, h⟩ := Option.bind_eq_some_iff.1 h
                refine regH 6 [(1, .rop (C_api_Load x_130))] [0, 2, 4, 5, 6, 7, 8] [LGet (f_1.Loads.map A_api_Load) y_124 7 (C_api_Load x_130)] (mkS 25 [(0, .yld Lp_109.l 2), (2, .ptr 7 0), (4, .int .i64 y_124), (5, .ptr 8 0), (6, .sl (f_1.Loads.map A_api_Load) none), (7, .int .i64 ((f_1.Loads.length : Nat) : Int)), (8, .int .i64 y_124)]) (⟨[(C_api_Float f_1), [.int .i64 apart_2], [.sl (b_18.map A_api_Near) (some 1)], [.int .i64 b_125], [.sl (f_1.Loads.map A_api_Load) none], [.int .i64 2], [.sl (f_1.Loads.map A_api_Load) none], [.int .i64 3], (C_api_Load x_130)], [(0, 0), (b_18.length, 2), (0, 0)]⟩) (by kernel_rfl) ⟨LGet.of hx_130 rfl, trivial⟩ rfl ?_
                obtain ⟨K_133, hK_134, h⟩ := letE h
                refine Ex.seqJ (fun a S => ∃ (b_131 : Int), K_133 b_131 = some r ∧ a = mkS 25 [(0, .yld Lp_109.l 2), (2, .ptr 7 0), (6, .sl (f_1.Loads.map A_api_Load) none), (7, .int .i64 ((f_1.Loads.length : Nat) : Int)), (8, .int .i64 y_124), (23, .bool false)] ∧ S = ⟨[(C_api_Float f_1), [.int .i64 apart_2], [.sl (b_18.map A_api_Near) (some 1)], [.int .i64 b_131], [.sl (f_1.Loads.map A_api_Load) none], [.int .i64 2], [.sl (f_1.Loads.map A_api_Load) none], [.int .i64 3]], [(0, 0), (b_18.length, 2), (0, 0)]⟩) ?_ ?_
                · rcases condI h with ⟨hc_135, h⟩ | ⟨hc_135, h⟩
                  · refine Ex.regI ?_
                    refine runI 8 [(4, .eq (.bool true))] [0, 2, 6, 7, 8, 17, 18, 19, 20] [AV.bool (x_130.Kind == 3) = AV.bool true] (mkS 25 [(0, .yld Lp_109.l 2), (2, .ptr 7 0), (6, .sl (f_1.Loads.map A_api_Load) none), (7, .int .i64 ((f_1.Loads.length : Nat) : Int)), (8, .int .i64 y_124), (17, .bool true), (18, .yld Lp_109.l 2), (19, .int .i64 y_124), (20, (A_api_Load x_130))]) (⟨[(C_api_Float f_1), [.int .i64 apart_2], [.sl (b_18.map A_api_Near) (some 1)], [.int .i64 b_125], [.sl (f_1.Loads.map A_api_Load) none], [.int .i64 2], [.sl (f_1.Loads.map A_api_Load) none], [.int .i64 3], (C_api_Load x_130)], [(0, 0), (b_18.length, 2), (0, 0)]⟩) (by kernel_rfl) ⟨congrArg AV.bool hc_135, trivial⟩ ?_
                    obtain ⟨K_145, hK_146, h⟩ := letE h
                    refine ExI.yieldT 2 hLt_113 hL_114 [.int .i64 y_124, (A_api_Load x_130)] rfl rfl rfl (by kernel_rfl) rfl rfl (leC hcn_111 (by simp)) ?_
                    intro ca_136 cb_137 ha_138 hb_139 hma_140 hmb_141 hup_142 hbz_143
                    refine Ex.castA (a2 := mkS 58 [(4, .ptr 2 0), (5, .ptr 3 0), (6, .int .i64 0), (49, .fn 108 [] [.ptr 6 0, .ptr 7 0]), (50, .int .i64 y_124), (51, (A_api_Load x_130))]) (S2 := ⟨[(C_api_Float f_1), [.int .i64 apart_2], [.sl (b_18.map A_api_Near) (some 1)], [.int .i64 b_125], [.sl (f_1.Loads.map A_api_Load) none], [.int .i64 2], [.sl (f_1.Loads.map A_api_Load) none], [.int .i64 3], (C_api_Load x_130)], [(0, 0), (b_18.length, 2), (0, 0)]⟩) (by kernel_rfl) (by kernel_rfl) ?_
                    refine Ex.two (fun z S => (z = AEx.norm ∧ K_145 () = some r ∧ S = ⟨[(C_api_Float f_1), [.int .i64 apart_2], [.sl (b_18.map A_api_Near) (some 1)], [.int .i64 (IntKind.i64.wrap (b_125 - x_130.Watts))], [.sl (f_1.Loads.map A_api_Load) none], [.int .i64 2], [.sl (f_1.Loads.map A_api_Load) none], [.int .i64 3], (C_api_Load x_130)], [(0, 0), (b_18.length, 2), (0, 0)]⟩)) ?_ ?_
                    · refine regH 2 [] [5, 13] [] (mkS 58 [(5, .ptr 3 0), (13, .ptr 9 0)]) (⟨[(C_api_Float f_1), [.int .i64 apart_2], [.sl (b_18.map A_api_Near) (some 1)], [.int .i64 b_125], [.sl (f_1.Loads.map A_api_Load) none], [.int .i64 2], [.sl (f_1.Loads.map A_api_Load) none], [.int .i64 3], (C_api_Load x_130), (C_api_Load x_130)], [(0, 0), (b_18.length, 2), (0, 0)]⟩) (by kernel_rfl) trivial rfl ?_
                      refine ⟨rfl, rfl, ?_⟩
                      refine Ex.blockK ?_
                      refine regH 5 [] [] [] (mkS 58 []) (⟨[(C_api_Float f_1), [.int .i64 apart_2], [.sl (b_18.map A_api_Near) (some 1)], [.int .i64 (IntKind.i64.wrap (b_125 - x_130.Watts))], [.sl (f_1.Loads.map A_api_Load) none], [.int .i64 2], [.sl (f_1.Loads.map A_api_Load) none], [.int .i64 3], (C_api_Load x_130), (C_api_Load x_130)], [(0, 0), (b_18.length, 2), (0, 0)]⟩) (by kernel_rfl) trivial rfl ?_
                      (try simp only [reduceCtorEq, AEx.ex.injEq, Nat.reduceEqDiff, if_true, if_false])
                      exact ⟨_, _, forgetA (m := 58) 9 [0, 1, 2] [] [(C_api_Float f_1), [.int .i64 apart_2], [.sl (b_18.map A_api_Near) (some 1)], [.int .i64 (IntKind.i64.wrap (b_125 - x_130.Watts))], [.sl (f_1.Loads.map A_api_Load) none], [.int .i64 2], [.sl (f_1.Loads.map A_api_Load) none], [.int .i64 3], (C_api_Load x_130)] [(0, 0), (b_18.length, 2), (0, 0)] (leC hb_139 (by simp)) (by simp) trivial (by simp) rfl (by decide) (sig0 3 hmb_141 rfl), ⟨by first | rfl | trivial, h, rfl⟩⟩
                    · rintro z a2 S (⟨rfl, h, rfl⟩)
                      subst hK_146
                      refine runI 2 [] [0, 2, 6, 7, 8, 23] [] (mkS 25 [(0, .yld Lp_109.l 2), (2, .ptr 7 0), (6, .sl (f_1.Loads.map A_api_Load) none), (7, .int .i64 ((f_1.Loads.length : Nat) : Int)), (8, .int .i64 y_124), (23, .bool false)]) (⟨[(C_api_Float f_1), [.int .i64 apart_2], [.sl (b_18.map A_api_Near) (some 1)], [.int .i64 (IntKind.i64.wrap (b_125 - x_130.Watts))], [.sl (f_1.Loads.map A_api_Load) none], [.int .i64 2], [.sl (f_1.Loads.map A_api_Load) none], [.int .i64 3], (C_api_Load x_130)], [(0, 0), (b_18.length, 2), (0, 0)]⟩) (by kernel_rfl) trivial ?_
                      refine ExI.nil ?_
                      (try simp only [reduceCtorEq, AEx.ex.injEq, Nat.reduceEqDiff, if_true, if_false])
                      exact ⟨_, _, forgetA (m := 25) 8 [0, 1, 2] [(0, .yld Lp_109.l 2), (2, .ptr 7 0), (6, .sl (f_1.Loads.map A_api_Load) none), (7, .int .i64 ((f_1.Loads.length : Nat) : Int)), (8, .int .i64 y_124), (23, .bool false)] [(C_api_Float f_1), [.int .i64 apart_2], [.sl (b_18.map A_api_Near) (some 1)], [.int .i64 (IntKind.i64.wrap (b_125 - x_130.Watts))], [.sl (f_1.Loads.map A_api_Load) none], [.int .i64 2], [.sl (f_1.Loads.map A_api_Load) none], [.int .i64 3]] [(0, 0), (b_18.length, 2), (0, 0)] (leC hcn_111 (by simp)) (by simp) ⟨rfl, rfl, (reN (KL_api_Load _)), rfl, rfl, rfl, trivial⟩ (by simp) rfl (by decide) (sig0 3 hcm_112 rfl), (IntKind.i64.wrap (b_125 - x_130.Watts)), h, rfl, rfl⟩
                  · refine Ex.regI ?_
                    refine runI 11 [(4, .eq (.bool false))] [0, 2, 6, 7, 8, 23] [AV.bool (x_130.Kind == 3) = AV.bool false] (mkS 25 [(0, .yld Lp_109.l 2), (2, .ptr 7 0), (6, .sl (f_1.Loads.map A_api_Load) none), (7, .int .i64 ((f_1.Loads.length : Nat) : Int)), (8, .int .i64 y_124), (23, .bool false)]) (⟨[(C_api_Float f_1), [.int .i64 apart_2], [.sl (b_18.map A_api_Near) (some 1)], [.int .i64 b_125], [.sl (f_1.Loads.map A_api_Load) none], [.int .i64 2], [.sl (f_1.Loads.map A_api_Load) none], [.int .i64 3], (C_api_Load x_130)], [(0, 0), (b_18.length, 2), (0, 0)]⟩) (by kernel_rfl) ⟨congrArg AV.bool hc_135, trivial⟩ ?_
                    refine ExI.nil ?_
                    (try simp only [reduceCtorEq, AEx.ex.injEq, Nat.reduceEqDiff, if_true, if_false])
                    exact ⟨_, _, forgetA (m := 25) 8 [0, 1, 2] [(0, .yld Lp_109.l 2), (2, .ptr 7 0), (6, .sl (f_1.Loads.map A_api_Load) none), (7, .int .i64 ((f_1.Loads.length : Nat) : Int)), (8, .int .i64 y_124), (23, .bool false)] [(C_api_Float f_1), [.int .i64 apart_2], [.sl (b_18.map A_api_Near) (some 1)], [.int .i64 b_125], [.sl (f_1.Loads.map A_api_Load) none], [.int .i64 2], [.sl (f_1.Loads.map A_api_Load) none], [.int .i64 3]] [(0, 0), (b_18.length, 2), (0, 0)] (leC hcn_111 (by simp)) (by simp) ⟨rfl, rfl, (reN (KL_api_Load _)), rfl, rfl, rfl, trivial⟩ (by simp) rfl (by decide) (sig0 3 hcm_112 rfl), b_125, h, rfl, rfl⟩
                · rintro a S ⟨b_131, h, rfl, rfl⟩
                  subst hK_134
                  refine Ex.cond (b := false) rfl ?_
                  refine Ex.skip ?_
                  refine regH 2 [] [0, 2, 6, 7, 8] [] (mkS 25 [(0, .yld Lp_109.l 2), (2, .ptr 7 0), (6, .sl (f_1.Loads.map A_api_Load) none), (7, .int .i64 ((f_1.Loads.length : Nat) : Int)), (8, .int .i64 (IntKind.i64.wrap (y_124 + 1)))]) (⟨[(C_api_Float f_1), [.int .i64 apart_2], [.sl (b_18.map A_api_Near) (some 1)], [.int .i64 b_131], [.sl (f_1.Loads.map A_api_Load) none], [.int .i64 2], [.sl (f_1.Loads.map A_api_Load) none], [.int .i64 3]], [(0, 0), (b_18.length, 2), (0, 0)]⟩) (by kernel_rfl) trivial rfl ?_
                  dsimp only
                  exact ⟨_, _, Forgets.refl _ _ _, k, Nat.lt_succ_self k, (IntKind.i64.wrap (y_124 + 1)), b_131, h, rfl, rfl⟩
              · refine Ex.condF _ rfl hc_129 ?_
                refine Ex.exit ?_
                (try simp only [reduceCtorEq, AEx.ex.injEq, Nat.reduceEqDiff, if_true, if_false])
                exact ⟨_, _, forgetK [], b_125, h, rfl, rfl⟩
          · rintro a S ⟨b_120, h, rfl, rfl⟩
            subst hK_123
            exact ⟨_, _, Forgets.refl _ _ _, .inl rfl, 0, rfl, ⟨by first | rfl | trivial, b_120, h, rfl⟩⟩
        · rintro k S (⟨rfl, b_116, h, rfl⟩)
          subst hK_119
          refine Ex.seq ?_
          refine Ex.drawE (a1 := mkS 58 [(4, .ptr 2 0), (5, .ptr 3 0), (6, .int .i64 0), (49, .fn 108 [] [.ptr 6 0, .ptr 7 0]), (56, .sl (b_18.map A_api_Near) (some 1)), (57, .int .i64 b_116)]) (noClr_ok _) [] [] [⟨[(C_api_Float f_1), [.int .i64 apart_2], [.sl (b_18.map A_api_Near) (some 1)], [.int .i64 b_116], [.sl (f_1.Loads.map A_api_Load) none], [.int .i64 2], [.sl (f_1.Loads.map A_api_Load) none], [.int .i64 3]], [(0, 0), (b_18.length, 2), (0, 0)]⟩] ?_ ?_
          · refine drS [0, 1, 2, 3, 4, 5, 6, 7] 2 [] [] (mkS 58 [(4, .ptr 2 0), (5, .ptr 3 0), (6, .int .i64 0), (49, .fn 108 [] [.ptr 6 0, .ptr 7 0]), (56, .sl (b_18.map A_api_Near) (some 1)), (57, .int .i64 b_116)]) (by simp) (by kernel_rfl) trivial (by kernel_rfl) ?_
            refine drE none none (.tup []) _ _ rfl rfl rfl rfl rfl (by kernel_rfl) trivial ?_
            exact DrO.nil rfl
          · dsimp only [List.getLastD_cons, List.getLastD_nil]
            refine runH 2 [] [4, 5, 6] [] (mkS 58 [(4, .ptr 2 0), (5, .ptr 3 0), (6, .int .i64 0)]) (⟨[(C_api_Float f_1), [.int .i64 apart_2], [.sl (b_18.map A_api_Near) (some 1)], [.int .i64 b_116], [.sl (f_1.Loads.map A_api_Load) none], [.int .i64 2], [.sl (f_1.Loads.map A_api_Load) none], [.int .i64 3]], [(0, 0), (b_18.length, 2), (0, 0)]⟩) (by kernel_rfl) trivial ?_
            refine ExO.nil ?_
            refine Ex.ret ?_
            obtain rfl := Option.some.inj h
            exact ⟨.inr rfl, .tup [.sl (b_18.map A_api_Near) (some 1), .int .i64 b_116, .int .i64 0], by kernel_rfl, by kernel_rfl, by kernel_rfl, by kernel_rfl⟩
end Go.Proofs.Ytfcjcjncfniclaa
end
section
namespace Go.Proofs.Ytfcjcjncfniclaa
open Go.RowKit
set_option linter.unusedVariables false
set_option linter.unusedSimpArgs false
set_option maxRecDepth 10000
set_option maxHeartbeats 4000000

section
variable {A B ρ : Type}
theorem st1 (n : Nat) (body : (Int → Option ρ) → Int → Option ρ) (r : Option ρ) (hend : ∀ rec, body rec (n : Int) = r) (hstep : ∀ rec (i : Nat), i < n → body rec (i : Int) = rec ((i + 1 : Nat) : Int)) : ∀ (N i : Nat), i ≤ n → n - i < N → loop1 body N (i : Int) = r
  | 0, i, _, h => absurd h (Nat.not_lt_zero _)
  | N + 1, i, hle, hN => by
    show body (loop1 body N) (i : Int) = _
    by_cases hlt : i < n
    · rw [hstep _ i hlt]; exact st1 n body r hend hstep N (i + 1) (by omega) (by omega)
    · have : i = n := by omega
      subst this
      exact hend _
theorem st2 (n : Nat) (st : Nat → A) (body : (Int → A → Option ρ) → Int → A → Option ρ) (r : Option ρ) (hend : ∀ rec, body rec (n : Int) (st n) = r) (hstep : ∀ rec (i : Nat), i < n → body rec (i : Int) (st i) = rec ((i + 1 : Nat) : Int) (st (i + 1))) : ∀ (N i : Nat), i ≤ n → n - i < N → loop2 body N (i : Int) (st i) = r
  | 0, i, _, h => absurd h (Nat.not_lt_zero _)
  | N + 1, i, hle, hN => by
    show body (loop2 body N) (i : Int) (st i) = _
    by_cases hlt : i < n
    · rw [hstep _ i hlt]; exact st2 n st body r hend hstep N (i + 1) (by omega) (by omega)
    · have : i = n := by omega
      subst this
      exact hend _
theorem st2' (n : Nat) (st : Nat → A) (body : (A → Int → Option ρ) → A → Int → Option ρ) (r : Option ρ) (hend : ∀ rec, body rec (st n) (n : Int) = r) (hstep : ∀ rec (i : Nat), i < n → body rec (st i) (i : Int) = rec (st (i + 1)) ((i + 1 : Nat) : Int)) : ∀ (N i : Nat), i ≤ n → n - i < N → loop2 body N (st i) (i : Int) = r
  | 0, i, _, h => absurd h (Nat.not_lt_zero _)
  | N + 1, i, hle, hN => by
    show body (loop2 body N) (st i) (i : Int) = _
    by_cases hlt : i < n
    · rw [hstep _ i hlt]; exact st2' n st body r hend hstep N (i + 1) (by omega) (by omega)
    · have : i = n := by omega
      subst this
      exact hend _
theorem st3 (n : Nat) (sa : Nat → A) (sb : Nat → B) (body : (Int → A → B → Option ρ) → Int → A → B → Option ρ) (r : Option ρ) (hend : ∀ rec, body rec (n : Int) (sa n) (sb n) = r) (hstep : ∀ rec (i : Nat), i < n → body rec (i : Int) (sa i) (sb i) = rec ((i + 1 : Nat) : Int) (sa (i + 1)) (sb (i + 1))) : ∀ (N i : Nat), i ≤ n → n - i < N → loop3 body N (i : Int) (sa i) (sb i) = r
  | 0, i, _, h => absurd h (Nat.not_lt_zero _)
  | N + 1, i, hle, hN => by
    show body (loop3 body N) (i : Int) (sa i) (sb i) = _
    by_cases hlt : i < n
    · rw [hstep _ i hlt]; exact st3 n sa sb body r hend hstep N (i + 1) (by omega) (by omega)
    · have : i = n := by omega
      subst this
      exact hend _
theorem st2z (n : Nat) (st : Nat → A) {body : (Int → A → Option ρ) → Int → A → Option ρ} {r : Option ρ} {a : A} {N : Nat} (ha : a = st 0) (hN : n < N) (hend : ∀ rec, body rec (n : Int) (st n) = r) (hstep : ∀ rec (i : Nat), i < n → body rec (i : Int) (st i) = rec ((i + 1 : Nat) : Int) (st (i + 1))) : loop2 body N 0 a = r := by
  subst ha; exact st2 n st body r hend hstep N 0 (Nat.zero_le _) (by omega)
theorem st2z' (n : Nat) (st : Nat → A) {body : (A → Int → Option ρ) → A → Int → Option ρ} {r : Option ρ} {a : A} {N : Nat} (ha : a = st 0) (hN : n < N) (hend : ∀ rec, body rec (st n) (n : Int) = r) (hstep : ∀ rec (i : Nat), i < n → body rec (st i) (i : Int) = rec (st (i + 1)) ((i + 1 : Nat) : Int)) : loop2 body N a 0 = r := by
  subst ha; exact st2' n st body r hend hstep N 0 (Nat.zero_le _) (by omega)
theorem st3z (n : Nat) (sa : Nat → A) (sb : Nat → B) {body : (Int → A → B → Option ρ) → Int → A → B → Option ρ} {r : Option ρ} {a : A} {b : B} {N : Nat} (ha : a = sa 0) (hb : b = sb 0) (hN : n < N) (hend : ∀ rec, body rec (n : Int) (sa n) (sb n) = r) (hstep : ∀ rec (i : Nat), i < n → body rec (i : Int) (sa i) (sb i) = rec ((i + 1 : Nat) : Int) (sa (i + 1)) (sb (i + 1))) : loop3 body N 0 a b = r := by
  subst ha hb; exact st3 n sa sb body r hend hstep N 0 (Nat.zero_le _) (by omega)
end
theorem nadd1 (i : Nat) (h : i < 4611686018427387904) : IntKind.i64.wrap ((i : Int) + 1) = ((i + 1 : Nat) : Int) := by
  rw [w64 (x := (i : Int) + 1) (by omega) (by omega)]
  omega
theorem ltD {i n : Nat} (h : i < n) : decide ((i : Int) < ((n : Nat) : Int)) = true := decide_eq_true (by omega)
theorem ltE (n : Nat) : decide (((n : Nat) : Int) < ((n : Nat) : Int)) = false := decide_eq_false (by omega)
theorem getD_ok {α : Type} [Inhabited α] {l : List α} {i : Nat} (h : i < l.length) : getI l (i : Int) = some (l[i]?.getD default) := by
  rw [getI_nat, List.getElem?_eq_getElem h]
  rfl
theorem wrapA (x y : Int) : IntKind.i64.wrap (IntKind.i64.wrap x + y) = IntKind.i64.wrap (x + y) := by
  simp [IntKind.wrap, IntKind.bits, IntKind.signed]
  omega
theorem wrapS (x y : Int) : IntKind.i64.wrap (IntKind.i64.wrap x - y) = IntKind.i64.wrap (x - y) := by
  simp [IntKind.wrap, IntKind.bits, IntKind.signed]
  omega

theorem within_s (N : Nat) (n lo hi : Int) : p_float_within N n lo hi = some (decide (lo ≤ n) && decide (n ≤ hi)) := by
  unfold p_float_within
  show (bif decide (lo ≤ n) then some (decide (n ≤ hi)) else some false) = _
  cases decide (lo ≤ n) <;> rfl

def dist (a b : T_api_Load) : Int := if IntKind.i64.wrap (b.At - a.At) > IntKind.i64.wrap (a.At - b.At) then IntKind.i64.wrap (b.At - a.At) else IntKind.i64.wrap (a.At - b.At)
theorem distance_s (N : Nat) (a b : T_api_Load) : p_float_distance N a b = some (dist a b) := rfl
def ldI (L : List T_api_Load) (i : Nat) : T_api_Load := L[i]?.getD default
def inn (ap : Int) (L : List T_api_Load) (i : Nat) (b : List T_api_Near) : Nat → List T_api_Near
  | 0 => b
  | k + 1 => if (ldI L k).Kind = 4 ∧ dist (ldI L i) (ldI L k) < ap then inn ap L i b k ++ [⟨(i : Int), (k : Int)⟩] else inn ap L i b k
def nr (ap : Int) (L : List T_api_Load) : Nat → List T_api_Near
  | 0 => []
  | i + 1 => if (ldI L i).Kind = 2 then inn ap L i (nr ap L i) L.length else nr ap L i
def pw (L : List T_api_Load) : Nat → Int
  | 0 => 0
  | i + 1 => if (ldI L i).Kind = 2 then pw L i + (ldI L i).Watts else pw L i
def lw (L : List T_api_Load) : Nat → Int
  | 0 => 0
  | i + 1 => if (ldI L i).Kind = 3 then lw L i + (ldI L i).Watts else lw L i
theorem inn_len (ap : Int) (L : List T_api_Load) (i : Nat) (b : List T_api_Near) : ∀ k, (inn ap L i b k).length ≤ b.length + k
  | 0 => Nat.le_refl _
  | k + 1 => by
    have := inn_len ap L i b k
    unfold inn
    split
    · simp; omega
    · omega
theorem nr_len (ap : Int) (L : List T_api_Load) : ∀ k, (nr ap L k).length ≤ k * L.length
  | 0 => Nat.zero_le _
  | k + 1 => by
    have := nr_len ap L k
    have := inn_len ap L k (nr ap L k) L.length
    have : (k + 1) * L.length = k * L.length + L.length := by rw [Nat.succ_mul]
    unfold nr
    split <;> omega
def fireR (c : Int) (f : T_api_Float) (ap : Int) : List T_api_Near × Int × Int :=
  bif (c != 0) then ([], 0, c) else (bif (!(decide (0 ≤ ap) && decide (ap ≤ 3000))) then ([], 0, 2) else (nr ap f.Loads f.Loads.length, IntKind.i64.wrap (pw f.Loads f.Loads.length - lw f.Loads f.Loads.length), 0))
theorem wrap0 : IntKind.i64.wrap 0 = 0 := w64 (by omega) (by omega)

theorem fire_s (N : Nat) (f : T_api_Float) (ap c : Int) (hc : p_float_Check N f = some c) (hn : f.Loads.length ≤ 30) (hN : 60 < N) : p_float_Fire N f ap = some (fireR c f ap) := by
  unfold p_float_Fire fireR
  simp only [hc, Option.bind_some, within_s, letJ_eq, distance_s]
  cases (c != 0)
  rotate_left
  · rfl
  cases (decide (0 ≤ ap) && decide (ap ≤ 3000))
  · rfl
  simp only [cond_false, Bool.not_true]
  refine st3z f.Loads.length (nr ap f.Loads) (fun i => IntKind.i64.wrap (pw f.Loads i)) rfl wrap0.symm (by omega) ?_ ?_
  · intro rec
    simp only [ltE, cond_false]
    refine st2z f.Loads.length (fun i => IntKind.i64.wrap (pw f.Loads f.Loads.length - lw f.Loads i)) (by show _ = IntKind.i64.wrap (pw f.Loads f.Loads.length - 0); rw [Int.sub_zero]) (by omega) ?_ ?_
    · intro rec
      simp only [ltE, cond_false]
    · intro rec i hi
      simp only [ltD hi, cond_true, getD_ok hi, Option.bind_some, nadd1 i (by omega), lw]
      by_cases h3 : (ldI f.Loads i).Kind = 3
      · rw [show ((f.Loads[i]?.getD default).Kind == 3) = true from beq_iff_eq.2 h3, cond_true, if_pos h3, wrapS]
        congr 2
        show _ - (ldI f.Loads i).Watts = _
        omega
      · rw [show ((f.Loads[i]?.getD default).Kind == 3) = false from beq_eq_false_iff_ne.2 h3, cond_false, if_neg h3]
  · intro rec i hi
    simp only [ltD hi, cond_true, getD_ok hi, Option.bind_some, nadd1 i (by omega), pw]
    by_cases h2 : (ldI f.Loads i).Kind = 2
    · rw [show ((f.Loads[i]?.getD default).Kind == 2) = true from beq_iff_eq.2 h2, cond_true, if_pos h2]
      have hl := nr_len ap f.Loads i
      have hl2 : i * f.Loads.length ≤ 30 * 30 := Nat.mul_le_mul (by omega) hn
      refine st2z f.Loads.length (inn ap f.Loads i (nr ap f.Loads i)) rfl (by omega) ?_ ?_
      · intro rec2
        simp only [ltE, cond_false, nr, if_pos h2, wrapA]
        rfl
      · intro rec2 k hk
        have := inn_len ap f.Loads i (nr ap f.Loads i) k
        simp only [ltD hk, cond_true, getD_ok hk, Option.bind_some, nadd1 k (by omega)]
        rw [pushI_ok (by simp; omega), Option.bind_some]
        by_cases h4 : (ldI f.Loads k).Kind = 4
        · rw [show ((f.Loads[k]?.getD default).Kind == 4) = true from beq_iff_eq.2 h4, cond_true]
          by_cases h5 : dist (ldI f.Loads i) (ldI f.Loads k) < ap
          · rw [show decide (dist (f.Loads[i]?.getD default) (f.Loads[k]?.getD default) < ap) = true from decide_eq_true h5, cond_true]
            conv => rhs; unfold inn
            rw [if_pos ⟨h4, h5⟩]
          · rw [show decide (dist (f.Loads[i]?.getD default) (f.Loads[k]?.getD default) < ap) = false from decide_eq_false h5, cond_false]
            conv => rhs; unfold inn
            rw [if_neg (fun h => h5 h.2)]
        · rw [show ((f.Loads[k]?.getD default).Kind == 4) = false from beq_eq_false_iff_ne.2 h4, cond_false]
          conv => rhs; unfold inn
          rw [if_neg (fun h => h4 h.1)]
    · rw [show ((f.Loads[i]?.getD default).Kind == 2) = false from beq_eq_false_iff_ne.2 h2, cond_false, if_neg h2]
      simp only [nr, if_neg h2]

theorem ownFloat_t (N : Nat) (f : T_api_Float) (h : f.Loads.length ≤ 65536) : p_bk_OwnFloat N f = some f := by
  unfold p_bk_OwnFloat
  rw [pushI_ok (by simpa using h), Option.bind_some]
  rfl
end Go.Proofs.Ytfcjcjncfniclaa
end
section
namespace Go.Proofs.Ytfcjcjncfniclaa
open Go.RowKit
set_option linter.unusedVariables false
set_option linter.unusedSimpArgs false
set_option maxRecDepth 10000
set_option maxHeartbeats 4000000

theorem within_t (N : Nat) (n lo hi : Int) (h1 : lo ≤ n) (h2 : n ≤ hi) : p_float_within N n lo hi = some true := by
  rw [within_s]; simp [h1, h2]
theorem checkSpan_t (N : Nat) (x : T_api_Span) (m : Int) (h1 : 0 ≤ x.Lo) (h2 : x.Lo ≤ x.Hi) (h3 : x.Hi ≤ m) : p_float_checkSpan N x m = some 0 := by
  unfold p_float_checkSpan
  rw [letJ_eq, within_t N _ _ _ h1 (by omega), Option.bind_some]
  simp only [Bool.not_true, cond_false]
  rw [within_t N _ _ _ (by omega) h3]
  simp [show ¬ x.Lo > x.Hi by omega]
theorem checkLoad_t (N : Nat) (f : T_api_Float) (l : T_api_Load) (h : LdOk f.Front f.Rear l) : p_float_checkLoad N f l = some 0 := by
  obtain ⟨a1, a2, k1, k2, k3, t1, t2, t3, d1, d2, w1, w2, w3⟩ := h
  unfold p_float_checkLoad
  simp only [letJ_eq, within_t N _ _ _ a1 a2, checkSpan_t N _ _ k1 k2 k3, checkSpan_t N _ _ t1 t2 t3, within_t N _ _ _ d1 d2, within_t N _ _ _ w1 w2, Option.bind_some, Bool.not_true, cond_false, bne_self_eq_false]
  by_cases hw : l.Watts > 0
  · rcases w3 with h0 | h0 | h0
    · omega
    · simp [hw, h0]
    · simp [hw, h0]
  · simp [hw]
theorem checkFrame_t (N : Nat) (f : T_api_Float) (h : FlOk f) : p_float_checkFrame N f = some 0 := by
  have := h.f1; have := h.f2; have := h.f3
  unfold p_float_checkFrame
  simp only [letJ_eq, within_t N _ _ _ h.l1 h.l2, within_t N _ _ _ h.w1 h.w2, within_t N _ _ _ h.f1 (show f.Front ≤ f.Length by omega), within_t N _ _ _ (show 0 ≤ f.Rear by omega) h.f3, within_t N _ _ _ h.t1 h.t2, within_t N _ _ _ h.k1 h.k2, within_t N _ _ _ h.m1 h.m2, within_t N _ _ _ h.h1 h.h2, Option.bind_some, Bool.not_true, cond_false, show decide (f.Front ≥ f.Rear) = false from decide_eq_false (by omega)]
theorem check_t (N : Nat) (f : T_api_Float) (h : FlOk f) (hN : 30 < N) : p_float_Check N f = some 0 := by
  have hn := h.n
  unfold p_float_Check
  simp only [letJ_eq, checkFrame_t N f h, Option.bind_some, bne_self_eq_false, cond_false, show decide (((f.Loads.length : Nat) : Int) > 20) = false from decide_eq_false (by omega)]
  refine st1 f.Loads.length _ (some 0) ?_ ?_ N 0 (by omega) (by omega)
  · intro rec
    simp only [ltE, cond_false]
  · intro rec i hi
    have hm : f.Loads[i]?.getD default ∈ f.Loads := by rw [List.getElem?_eq_getElem hi]; exact List.getElem_mem hi
    simp only [ltD hi, cond_true, getD_ok hi, Option.bind_some, checkLoad_t N f _ (h.all _ hm), nadd1 i (by omega), bne_self_eq_false, cond_false]
theorem fire_t (N : Nat) (f : T_api_Float) (h : FlOk f) (ap : Int) (h0 : 0 ≤ ap) (h1 : ap ≤ 3000) (hN : 60 < N) : p_float_Fire N f ap = some (nr ap f.Loads f.Loads.length, IntKind.i64.wrap (pw f.Loads f.Loads.length - lw f.Loads f.Loads.length), 0) := by
  rw [fire_s N f ap 0 (check_t N f h (by omega)) (by have := h.n; omega) hN]
  simp [fireR, h0, h1]

theorem inn_sub {a b : Int} (h : a ≤ b) (L : List T_api_Load) (i : Nat) {u v : List T_api_Near} (hs : u.Sublist v) : ∀ k, (inn a L i u k).Sublist (inn b L i v k)
  | 0 => hs
  | k + 1 => by
    have ih := inn_sub h L i hs k
    unfold inn
    by_cases h1 : (ldI L k).Kind = 4 ∧ dist (ldI L i) (ldI L k) < a
    · rw [if_pos h1, if_pos ⟨h1.1, by have := h1.2; omega⟩]
      exact ih.append (List.Sublist.refl _)
    · rw [if_neg h1]
      split
      · exact ih.trans (List.sublist_append_left _ _)
      · exact ih
theorem nr_sub {a b : Int} (h : a ≤ b) (L : List T_api_Load) : ∀ i, (nr a L i).Sublist (nr b L i)
  | 0 => List.Sublist.refl _
  | i + 1 => by
    have ih := nr_sub h L i
    unfold nr
    split
    · exact inn_sub h L i ih L.length
    · exact ih

theorem inn_pre (ap : Int) (L : List T_api_Load) (i : Nat) (u : List T_api_Near) (k : Nat) : ∀ m, (inn ap L i u k) <+: (inn ap L i u (k + m))
  | 0 => List.prefix_refl _
  | m + 1 => by
    refine (inn_pre ap L i u k m).trans ?_
    show _ <+: inn ap L i u ((k + m) + 1)
    conv => rhs; unfold inn
    split
    · exact List.prefix_append _ _
    · exact List.prefix_refl _
theorem nr_pre (ap : Int) (L : List T_api_Load) (k : Nat) : ∀ m, (nr ap L k) <+: (nr ap L (k + m))
  | 0 => List.prefix_refl _
  | m + 1 => by
    refine (nr_pre ap L k m).trans ?_
    show _ <+: nr ap L ((k + m) + 1)
    conv => rhs; unfold nr
    split
    · have := inn_pre ap L (k + m) (nr ap L (k + m)) 0 L.length
      rw [Nat.zero_add] at this
      exact this
    · exact List.prefix_refl _
theorem pre_at {α : Type} {l a : List α} {x : α} (h : (l ++ [x]) <+: a) : a[l.length]? = some x := by
  obtain ⟨t, rfl⟩ := h
  simp
theorem inn_at (ap : Int) (L : List T_api_Load) (i k : Nat) (hi : i < L.length) (hk : k < L.length) (h2 : (ldI L i).Kind = 2) (h4 : (ldI L k).Kind = 4 ∧ dist (ldI L i) (ldI L k) < ap) :
    (nr ap L L.length)[(inn ap L i (nr ap L i) k).length]? = some ⟨(i : Int), (k : Int)⟩ := by
  refine pre_at ?_
  have e1 : inn ap L i (nr ap L i) (k + 1) = inn ap L i (nr ap L i) k ++ [⟨(i : Int), (k : Int)⟩] := by
    conv => lhs; unfold inn
    rw [if_pos h4]
  rw [← e1]
  have e2 : nr ap L (i + 1) = inn ap L i (nr ap L i) L.length := by
    conv => lhs; unfold nr
    rw [if_pos h2]
  have p1 := inn_pre ap L i (nr ap L i) (k + 1) (L.length - (k + 1))
  have p2 := nr_pre ap L (i + 1) (L.length - (i + 1))
  rw [show k + 1 + (L.length - (k + 1)) = L.length by omega, ← e2] at p1
  rw [show i + 1 + (L.length - (i + 1)) = L.length by omega] at p2
  exact p1.trans p2
theorem dist_lt (p q : T_api_Load) (ap : Int) : dist p q < ap ↔ IntKind.i64.wrap (p.At - q.At) < ap ∧ IntKind.i64.wrap (q.At - p.At) < ap := by
  unfold dist
  split <;> omega

theorem ldI_app (L : List T_api_Load) (x : T_api_Load) (i : Nat) (h : i < L.length) : ldI (L ++ [x]) i = ldI L i := by
  unfold ldI
  rw [List.getElem?_append_left h]
theorem ldI_last (L : List T_api_Load) (x : T_api_Load) : ldI (L ++ [x]) L.length = x := by
  unfold ldI
  simp
theorem pw_app (L : List T_api_Load) (x : T_api_Load) : ∀ i, i ≤ L.length → pw (L ++ [x]) i = pw L i
  | 0, _ => rfl
  | i + 1, h => by
    unfold pw
    rw [ldI_app L x i (by omega), pw_app L x i (by omega)]
theorem lw_app (L : List T_api_Load) (x : T_api_Load) : ∀ i, i ≤ L.length → lw (L ++ [x]) i = lw L i
  | 0, _ => rfl
  | i + 1, h => by
    unfold lw
    rw [ldI_app L x i (by omega), lw_app L x i (by omega)]
theorem pw_more (L : List T_api_Load) (x : T_api_Load) (h : x.Kind = 2) : pw (L ++ [x]) (L ++ [x]).length = pw L L.length + x.Watts := by
  rw [show (L ++ [x]).length = L.length + 1 by simp]
  conv => lhs; unfold pw
  rw [ldI_last, if_pos h, pw_app L x _ (Nat.le_refl _)]
theorem lw_more (L : List T_api_Load) (x : T_api_Load) (h : x.Kind = 2) : lw (L ++ [x]) (L ++ [x]).length = lw L L.length := by
  rw [show (L ++ [x]).length = L.length + 1 by simp]
  conv => lhs; unfold lw
  rw [ldI_last, if_neg (by omega), lw_app L x _ (Nat.le_refl _)]
end Go.Proofs.Ytfcjcjncfniclaa
end
section
namespace Go.Proofs.Ytfcjcjncfniclaa
open Go.RowKit
set_option linter.unusedVariables false
set_option maxRecDepth 100000

def inl (f : FuncId) : Bool := Nat.beq f 104
noncomputable def X4 : Clr := clrN tab inl noClr 300 14
theorem X4_ok : ClrOk Try.prog X4 := clrN_ok (noClr_ok _) tab_ok 300 14
def ld (a b c d e f g : Int) : AV := .agg [.int .i64 a, .int .i64 b, .int .i64 c, .int .i64 d, .int .i64 e, .int .i64 f, .int .i64 g]
def swanC (m : Int) : List AV := [.int .i64 1000, .int .i64 300, .int .i64 200, .int .i64 800, .int .i64 900, .int .i64 4000, .int .i64 m, .int .i64 400, .sl [ld 300 500 600 450 500 1 0, ld 700 1000 1000 380 380 2 5000, ld 500 100 200 300 350 3 3000, ld 600 50 50 400 520 4 0] none]
def mid9 : List AV := swanC 900
end Go.Proofs.Ytfcjcjncfniclaa
end
section
namespace Go.Proofs.Ytfcjcjncfniclaa
open Go.RowKit
set_option linter.unusedVariables false
set_option maxRecDepth 100000
theorem b1_50000 : evFn X4 300 F85 [.int .i64 50000, .ptr 0 0, .ptr 1 0] [mid9, [.int .i64 200]] = some (.bool true, [mid9, [.int .i64 200]]) := by kernel_rfl
theorem b1_25000 : evFn X4 300 F85 [.int .i64 25000, .ptr 0 0, .ptr 1 0] [mid9, [.int .i64 200]] = some (.bool true, [mid9, [.int .i64 200]]) := by kernel_rfl
theorem b1_12500 : evFn X4 300 F85 [.int .i64 12500, .ptr 0 0, .ptr 1 0] [mid9, [.int .i64 200]] = some (.bool true, [mid9, [.int .i64 200]]) := by kernel_rfl
theorem b1_6250 : evFn X4 300 F85 [.int .i64 6250, .ptr 0 0, .ptr 1 0] [mid9, [.int .i64 200]] = some (.bool true, [mid9, [.int .i64 200]]) := by kernel_rfl
theorem b1_3125 : evFn X4 300 F85 [.int .i64 3125, .ptr 0 0, .ptr 1 0] [mid9, [.int .i64 200]] = some (.bool true, [mid9, [.int .i64 200]]) := by kernel_rfl
theorem b1_1562 : evFn X4 300 F85 [.int .i64 1562, .ptr 0 0, .ptr 1 0] [mid9, [.int .i64 200]] = some (.bool true, [mid9, [.int .i64 200]]) := by kernel_rfl
theorem b1_781 : evFn X4 300 F85 [.int .i64 781, .ptr 0 0, .ptr 1 0] [mid9, [.int .i64 200]] = some (.bool true, [mid9, [.int .i64 200]]) := by kernel_rfl
theorem b1_390 : evFn X4 300 F85 [.int .i64 390, .ptr 0 0, .ptr 1 0] [mid9, [.int .i64 200]] = some (.bool true, [mid9, [.int .i64 200]]) := by kernel_rfl
theorem b1_195 : evFn X4 300 F85 [.int .i64 195, .ptr 0 0, .ptr 1 0] [mid9, [.int .i64 200]] = some (.bool true, [mid9, [.int .i64 200]]) := by kernel_rfl
end Go.Proofs.Ytfcjcjncfniclaa
end
section
namespace Go.Proofs.Ytfcjcjncfniclaa
open Go.RowKit
set_option linter.unusedVariables false
set_option maxRecDepth 100000
theorem b1_97 : evFn X4 300 F85 [.int .i64 97, .ptr 0 0, .ptr 1 0] [mid9, [.int .i64 200]] = some (.bool true, [mid9, [.int .i64 200]]) := by kernel_rfl
theorem b1_48 : evFn X4 300 F85 [.int .i64 48, .ptr 0 0, .ptr 1 0] [mid9, [.int .i64 200]] = some (.bool true, [mid9, [.int .i64 200]]) := by kernel_rfl
theorem b1_24 : evFn X4 300 F85 [.int .i64 24, .ptr 0 0, .ptr 1 0] [mid9, [.int .i64 200]] = some (.bool true, [mid9, [.int .i64 200]]) := by kernel_rfl
theorem b1_12 : evFn X4 300 F85 [.int .i64 12, .ptr 0 0, .ptr 1 0] [mid9, [.int .i64 200]] = some (.bool false, [mid9, [.int .i64 200]]) := by kernel_rfl
theorem b1_18 : evFn X4 300 F85 [.int .i64 18, .ptr 0 0, .ptr 1 0] [mid9, [.int .i64 200]] = some (.bool true, [mid9, [.int .i64 200]]) := by kernel_rfl
theorem b1_15 : evFn X4 300 F85 [.int .i64 15, .ptr 0 0, .ptr 1 0] [mid9, [.int .i64 200]] = some (.bool false, [mid9, [.int .i64 200]]) := by kernel_rfl
theorem b1_17 : evFn X4 300 F85 [.int .i64 17, .ptr 0 0, .ptr 1 0] [mid9, [.int .i64 200]] = some (.bool true, [mid9, [.int .i64 200]]) := by kernel_rfl
theorem b1_16 : evFn X4 300 F85 [.int .i64 16, .ptr 0 0, .ptr 1 0] [mid9, [.int .i64 200]] = some (.bool false, [mid9, [.int .i64 200]]) := by kernel_rfl
end Go.Proofs.Ytfcjcjncfniclaa
end
section
namespace Go.Proofs.Ytfcjcjncfniclaa
open Go.RowKit
set_option linter.unusedVariables false
set_option maxRecDepth 100000
theorem b2_50000 : evFn X4 300 F87 [.int .i64 50000, .ptr 0 0, .ptr 1 0, .ptr 2 0] [mid9, [.int .i64 200], [.nils]] = some (.bool false, [mid9, [.int .i64 200], [.nils]]) := by kernel_rfl
theorem b2_75001 : evFn X4 300 F87 [.int .i64 75001, .ptr 0 0, .ptr 1 0, .ptr 2 0] [mid9, [.int .i64 200], [.nils]] = some (.bool false, [mid9, [.int .i64 200], [.nils]]) := by kernel_rfl
theorem b2_87501 : evFn X4 300 F87 [.int .i64 87501, .ptr 0 0, .ptr 1 0, .ptr 2 0] [mid9, [.int .i64 200], [.nils]] = some (.bool false, [mid9, [.int .i64 200], [.nils]]) := by kernel_rfl
theorem b2_93751 : evFn X4 300 F87 [.int .i64 93751, .ptr 0 0, .ptr 1 0, .ptr 2 0] [mid9, [.int .i64 200], [.nils]] = some (.bool false, [mid9, [.int .i64 200], [.nils]]) := by kernel_rfl
theorem b2_96876 : evFn X4 300 F87 [.int .i64 96876, .ptr 0 0, .ptr 1 0, .ptr 2 0] [mid9, [.int .i64 200], [.nils]] = some (.bool false, [mid9, [.int .i64 200], [.nils]]) := by kernel_rfl
theorem b2_98439 : evFn X4 300 F87 [.int .i64 98439, .ptr 0 0, .ptr 1 0, .ptr 2 0] [mid9, [.int .i64 200], [.nils]] = some (.bool false, [mid9, [.int .i64 200], [.nils]]) := by kernel_rfl
theorem b2_99220 : evFn X4 300 F87 [.int .i64 99220, .ptr 0 0, .ptr 1 0, .ptr 2 0] [mid9, [.int .i64 200], [.nils]] = some (.bool false, [mid9, [.int .i64 200], [.nils]]) := by kernel_rfl
theorem b2_99611 : evFn X4 300 F87 [.int .i64 99611, .ptr 0 0, .ptr 1 0, .ptr 2 0] [mid9, [.int .i64 200], [.nils]] = some (.bool false, [mid9, [.int .i64 200], [.nils]]) := by kernel_rfl
theorem b2_99806 : evFn X4 300 F87 [.int .i64 99806, .ptr 0 0, .ptr 1 0, .ptr 2 0] [mid9, [.int .i64 200], [.nils]] = some (.bool false, [mid9, [.int .i64 200], [.nils]]) := by kernel_rfl
end Go.Proofs.Ytfcjcjncfniclaa
end
section
namespace Go.Proofs.Ytfcjcjncfniclaa
open Go.RowKit
set_option linter.unusedVariables false
set_option maxRecDepth 100000
theorem b2_99904 : evFn X4 300 F87 [.int .i64 99904, .ptr 0 0, .ptr 1 0, .ptr 2 0] [mid9, [.int .i64 200], [.nils]] = some (.bool false, [mid9, [.int .i64 200], [.nils]]) := by kernel_rfl
theorem b2_99953 : evFn X4 300 F87 [.int .i64 99953, .ptr 0 0, .ptr 1 0, .ptr 2 0] [mid9, [.int .i64 200], [.nils]] = some (.bool false, [mid9, [.int .i64 200], [.nils]]) := by kernel_rfl
theorem b2_99977 : evFn X4 300 F87 [.int .i64 99977, .ptr 0 0, .ptr 1 0, .ptr 2 0] [mid9, [.int .i64 200], [.nils]] = some (.bool false, [mid9, [.int .i64 200], [.nils]]) := by kernel_rfl
theorem b2_99989 : evFn X4 300 F87 [.int .i64 99989, .ptr 0 0, .ptr 1 0, .ptr 2 0] [mid9, [.int .i64 200], [.nils]] = some (.bool false, [mid9, [.int .i64 200], [.nils]]) := by kernel_rfl
theorem b2_99995 : evFn X4 300 F87 [.int .i64 99995, .ptr 0 0, .ptr 1 0, .ptr 2 0] [mid9, [.int .i64 200], [.nils]] = some (.bool false, [mid9, [.int .i64 200], [.nils]]) := by kernel_rfl
theorem b2_99998 : evFn X4 300 F87 [.int .i64 99998, .ptr 0 0, .ptr 1 0, .ptr 2 0] [mid9, [.int .i64 200], [.nils]] = some (.bool false, [mid9, [.int .i64 200], [.nils]]) := by kernel_rfl
theorem b2_100000 : evFn X4 300 F87 [.int .i64 100000, .ptr 0 0, .ptr 1 0, .ptr 2 0] [mid9, [.int .i64 200], [.nils]] = some (.bool false, [mid9, [.int .i64 200], [.nils]]) := by kernel_rfl
end Go.Proofs.Ytfcjcjncfniclaa
end
section
namespace Go.Proofs.Ytfcjcjncfniclaa
open Go.RowKit
set_option linter.unusedVariables false
set_option maxRecDepth 100000

structure Known (P : Program) where
  f : FuncId
  xs : List AV
  cells : List (List AV)
  v : AV
  cells' : List (List AV)
  h : Contract P f xs cells v cells'
def knO {P : Program} : List (Known P) → Orc
  | [], _, _, _ => none
  | e :: l, f, xs, cells => bif Nat.beq e.f f && (beqL e.xs xs && bxBeq e.cells cells) then some (e.v, e.cells') else knO l f xs cells
theorem knO_ok {P : Program} : ∀ (l : List (Known P)), OrcOk P (knO l)
  | [], _, _, _, _, _, h => by cases h
  | e :: l, f, xs, cells, v, c', h => by
    simp only [knO] at h
    cases hc : (Nat.beq e.f f && (beqL e.xs xs && bxBeq e.cells cells)) with
    | true =>
      rw [hc, cond_true] at h
      cases h
      simp only [Bool.and_eq_true] at hc
      have := e.h
      rw [Nat.eq_of_beq_eq_true hc.1, beqL_eq _ _ hc.2.1, bxBeq_eq _ _ hc.2.2] at this
      exact this
    | false =>
      rw [hc, cond_false] at h
      exact knO_ok l f xs cells v c' h
def known1 : List (Known Try.prog) := [⟨85, [.int .i64 50000, .ptr 0 0, .ptr 1 0], [mid9, [.int .i64 200]], .bool true, [mid9, [.int .i64 200]], evFn_ok X4_ok comp85 b1_50000⟩,⟨85, [.int .i64 25000, .ptr 0 0, .ptr 1 0], [mid9, [.int .i64 200]], .bool true, [mid9, [.int .i64 200]], evFn_ok X4_ok comp85 b1_25000⟩,⟨85, [.int .i64 12500, .ptr 0 0, .ptr 1 0], [mid9, [.int .i64 200]], .bool true, [mid9, [.int .i64 200]], evFn_ok X4_ok comp85 b1_12500⟩,⟨85, [.int .i64 6250, .ptr 0 0, .ptr 1 0], [mid9, [.int .i64 200]], .bool true, [mid9, [.int .i64 200]], evFn_ok X4_ok comp85 b1_6250⟩,⟨85, [.int .i64 3125, .ptr 0 0, .ptr 1 0], [mid9, [.int .i64 200]], .bool true, [mid9, [.int .i64 200]], evFn_ok X4_ok comp85 b1_3125⟩,⟨85, [.int .i64 1562, .ptr 0 0, .ptr 1 0], [mid9, [.int .i64 200]], .bool true, [mid9, [.int .i64 200]], evFn_ok X4_ok comp85 b1_1562⟩,⟨85, [.int .i64 781, .ptr 0 0, .ptr 1 0], [mid9, [.int .i64 200]], .bool true, [mid9, [.int .i64 200]], evFn_ok X4_ok comp85 b1_781⟩,⟨85, [.int .i64 390, .ptr 0 0, .ptr 1 0], [mid9, [.int .i64 200]], .bool true, [mid9, [.int .i64 200]], evFn_ok X4_ok comp85 b1_390⟩,⟨85, [.int .i64 195, .ptr 0 0, .ptr 1 0], [mid9, [.int .i64 200]], .bool true, [mid9, [.int .i64 200]], evFn_ok X4_ok comp85 b1_195⟩,⟨85, [.int .i64 97, .ptr 0 0, .ptr 1 0], [mid9, [.int .i64 200]], .bool true, [mid9, [.int .i64 200]], evFn_ok X4_ok comp85 b1_97⟩,⟨85, [.int .i64 48, .ptr 0 0, .ptr 1 0], [mid9, [.int .i64 200]], .bool true, [mid9, [.int .i64 200]], evFn_ok X4_ok comp85 b1_48⟩,⟨85, [.int .i64 24, .ptr 0 0, .ptr 1 0], [mid9, [.int .i64 200]], .bool true, [mid9, [.int .i64 200]], evFn_ok X4_ok comp85 b1_24⟩,⟨85, [.int .i64 12, .ptr 0 0, .ptr 1 0], [mid9, [.int .i64 200]], .bool false, [mid9, [.int .i64 200]], evFn_ok X4_ok comp85 b1_12⟩,⟨85, [.int .i64 18, .ptr 0 0, .ptr 1 0], [mid9, [.int .i64 200]], .bool true, [mid9, [.int .i64 200]], evFn_ok X4_ok comp85 b1_18⟩,⟨85, [.int .i64 15, .ptr 0 0, .ptr 1 0], [mid9, [.int .i64 200]], .bool false, [mid9, [.int .i64 200]], evFn_ok X4_ok comp85 b1_15⟩,⟨85, [.int .i64 17, .ptr 0 0, .ptr 1 0], [mid9, [.int .i64 200]], .bool true, [mid9, [.int .i64 200]], evFn_ok X4_ok comp85 b1_17⟩,⟨85, [.int .i64 16, .ptr 0 0, .ptr 1 0], [mid9, [.int .i64 200]], .bool false, [mid9, [.int .i64 200]], evFn_ok X4_ok comp85 b1_16⟩]
def known2 : List (Known Try.prog) := [⟨87, [.int .i64 50000, .ptr 0 0, .ptr 1 0, .ptr 2 0], [mid9, [.int .i64 200], [.nils]], .bool false, [mid9, [.int .i64 200], [.nils]], evFn_ok X4_ok comp87 b2_50000⟩,⟨87, [.int .i64 75001, .ptr 0 0, .ptr 1 0, .ptr 2 0], [mid9, [.int .i64 200], [.nils]], .bool false, [mid9, [.int .i64 200], [.nils]], evFn_ok X4_ok comp87 b2_75001⟩,⟨87, [.int .i64 87501, .ptr 0 0, .ptr 1 0, .ptr 2 0], [mid9, [.int .i64 200], [.nils]], .bool false, [mid9, [.int .i64 200], [.nils]], evFn_ok X4_ok comp87 b2_87501⟩,⟨87, [.int .i64 93751, .ptr 0 0, .ptr 1 0, .ptr 2 0], [mid9, [.int .i64 200], [.nils]], .bool false, [mid9, [.int .i64 200], [.nils]], evFn_ok X4_ok comp87 b2_93751⟩,⟨87, [.int .i64 96876, .ptr 0 0, .ptr 1 0, .ptr 2 0], [mid9, [.int .i64 200], [.nils]], .bool false, [mid9, [.int .i64 200], [.nils]], evFn_ok X4_ok comp87 b2_96876⟩,⟨87, [.int .i64 98439, .ptr 0 0, .ptr 1 0, .ptr 2 0], [mid9, [.int .i64 200], [.nils]], .bool false, [mid9, [.int .i64 200], [.nils]], evFn_ok X4_ok comp87 b2_98439⟩,⟨87, [.int .i64 99220, .ptr 0 0, .ptr 1 0, .ptr 2 0], [mid9, [.int .i64 200], [.nils]], .bool false, [mid9, [.int .i64 200], [.nils]], evFn_ok X4_ok comp87 b2_99220⟩,⟨87, [.int .i64 99611, .ptr 0 0, .ptr 1 0, .ptr 2 0], [mid9, [.int .i64 200], [.nils]], .bool false, [mid9, [.int .i64 200], [.nils]], evFn_ok X4_ok comp87 b2_99611⟩,⟨87, [.int .i64 99806, .ptr 0 0, .ptr 1 0, .ptr 2 0], [mid9, [.int .i64 200], [.nils]], .bool false, [mid9, [.int .i64 200], [.nils]], evFn_ok X4_ok comp87 b2_99806⟩,⟨87, [.int .i64 99904, .ptr 0 0, .ptr 1 0, .ptr 2 0], [mid9, [.int .i64 200], [.nils]], .bool false, [mid9, [.int .i64 200], [.nils]], evFn_ok X4_ok comp87 b2_99904⟩,⟨87, [.int .i64 99953, .ptr 0 0, .ptr 1 0, .ptr 2 0], [mid9, [.int .i64 200], [.nils]], .bool false, [mid9, [.int .i64 200], [.nils]], evFn_ok X4_ok comp87 b2_99953⟩,⟨87, [.int .i64 99977, .ptr 0 0, .ptr 1 0, .ptr 2 0], [mid9, [.int .i64 200], [.nils]], .bool false, [mid9, [.int .i64 200], [.nils]], evFn_ok X4_ok comp87 b2_99977⟩,⟨87, [.int .i64 99989, .ptr 0 0, .ptr 1 0, .ptr 2 0], [mid9, [.int .i64 200], [.nils]], .bool false, [mid9, [.int .i64 200], [.nils]], evFn_ok X4_ok comp87 b2_99989⟩,⟨87, [.int .i64 99995, .ptr 0 0, .ptr 1 0, .ptr 2 0], [mid9, [.int .i64 200], [.nils]], .bool false, [mid9, [.int .i64 200], [.nils]], evFn_ok X4_ok comp87 b2_99995⟩,⟨87, [.int .i64 99998, .ptr 0 0, .ptr 1 0, .ptr 2 0], [mid9, [.int .i64 200], [.nils]], .bool false, [mid9, [.int .i64 200], [.nils]], evFn_ok X4_ok comp87 b2_99998⟩,⟨87, [.int .i64 100000, .ptr 0 0, .ptr 1 0, .ptr 2 0], [mid9, [.int .i64 200], [.nils]], .bool false, [mid9, [.int .i64 200], [.nils]], evFn_ok X4_ok comp87 b2_100000⟩]
def tabB (f : FuncId) : Option AFn := bif Nat.beq f 85 || Nat.beq f 87 then none else tab f
theorem tabB_ok : ∀ f F, tabB f = some F → compFn Try.prog f = some F := by
  intro f F h
  unfold tabB at h
  cases hc : (Nat.beq f 85 || Nat.beq f 87) with
  | true => rw [hc] at h; cases h
  | false => rw [hc] at h; exact tab_ok f F h
noncomputable def X5 : Clr := clrN tabB inl (clrOf (knO (known1 ++ known2))) 300 14
theorem X5_ok : ClrOk Try.prog X5 := clrN_ok (clr_ok (knO_ok _)) tabB_ok 300 14
def spanA (a b : Int) : AV := .agg [.int .i64 a, .int .i64 b]
theorem ballast_run : evFn X5 300 F32 [.agg mid9, .nils, .int .i64 200] [] = some (.tup [spanA 17 100000, .int .i64 0], []) := by kernel_rfl
theorem axles_run : evFn X5 300 F16 [.agg (swanC 500)] [] = some (.tup [spanA 2650 2784, spanA 3000 3067, .int .i64 0], []) := by kernel_rfl
end Go.Proofs.Ytfcjcjncfniclaa
end
section
namespace Go.Proofs.Ytfcjcjncfniclaa
open Go.RowKit
set_option linter.unusedVariables false
set_option maxRecDepth 100000

def hur (k a b : Int) : AV := .agg [.int .i64 k, .int .i64 a, .int .i64 b]
theorem passes_run : evFn X5 300 F28 [.agg (swanC 500), .sl [hur 1 700 1400, hur 2 519 0, hur 3 5649 3067] none] [] = some (.tup [.sl [.int .i64 1, .int .i64 3, .int .i64 2] none, .int .i64 0], []) := by kernel_rfl
def known3 : List (Known Try.prog) := [⟨16, _, _, _, _, evFn_ok X5_ok comp16 axles_run⟩, ⟨28, _, _, _, _, evFn_ok X5_ok comp28 passes_run⟩, ⟨32, _, _, _, _, evFn_ok X5_ok comp32 ballast_run⟩]
def tabC (f : FuncId) : Option AFn := bif Nat.beq f 16 || (Nat.beq f 28 || Nat.beq f 32) then none else tab f
theorem tabC_ok : ∀ f F, tabC f = some F → compFn Try.prog f = some F := by
  intro f F h
  unfold tabC at h
  cases hc : (Nat.beq f 16 || (Nat.beq f 28 || Nat.beq f 32)) with
  | true => rw [hc] at h; cases h
  | false => rw [hc] at h; exact tab_ok f F h
noncomputable def X6 : Clr := clrN tabC inl (clrOf (knO known3)) 300 14
theorem X6_ok : ClrOk Try.prog X6 := clrN_ok (clr_ok (knO_ok _)) tabC_ok 300 14
theorem awake_run : evFn X6 300 F9 [] [] = some (.bool true, []) := by kernel_rfl
theorem awake_m : Meets Try.prog 9 [] [] fun v c' => v = .bool true ∧ c' = [] :=
  ⟨_, _, evFn_ok X6_ok comp9 awake_run, rfl, rfl⟩
end Go.Proofs.Ytfcjcjncfniclaa
end
section
namespace Go.Proofs.Ytfcjcjncfniclaa
open Go.RowKit
set_option linter.unusedVariables false
set_option linter.unusedSimpArgs false
set_option maxRecDepth 10000
set_option maxHeartbeats 4000000
attribute [local simp] ren ren1 AV.plain AV.plain1 AV.clean cleanL cleanI cleanBo cleanSt cleanII KL_bk_Drum KL_api_Span KL_api_Load KL_api_Float KL_api_Near A_bk_Drum C_bk_Drum A_api_Span C_api_Span A_api_Load C_api_Load A_api_Float C_api_Float A_api_Near C_api_Near back back1 fadeS fadeV List.idxOf? List.findIdx? List.findIdx?.go re re1 KB_bk_Drum KB_api_Span KB_api_Load KB_api_Float KB_api_Near
def p_bl2_awake (N : Nat) : Option Bool := some true
def v_bl2_awake (r : Bool) : AV := .bool r
theorem a_bl2_awake : ([] : List AV).mapM (ren []) = some [] := rfl
theorem b_bl2_awake (r : Bool) (n n2 m : Nat) : back n n2 m (v_bl2_awake r) = some (v_bl2_awake r) := rfl
theorem d_bl2_awake (N : Nat) (r : Bool) (h : p_bl2_awake N = some r) : Does Try.prog 9 [] [] fun v c => v = v_bl2_awake r ∧ c = [] := by
  cases h
  exact awake_m.does
theorem t_bk_OwnFloat (N : Nat) (f_1 : T_api_Float) (r : T_api_Float) (h : p_bk_OwnFloat N f_1 = some r) : TokTOk Try.prog ⟨12, [(A_api_Float f_1)], [.int .i64 r.Length, .int .i64 r.Width, .int .i64 r.Front, .int .i64 r.Rear, .int .i64 r.Turn, .int .i64 r.Kilos, .int .i64 r.Middle, .int .i64 r.High], r.Loads.map A_api_Load, [], r.Loads.length, 7⟩ := by
  refine ⟨?_, (KL_api_Load _), by simp, by simp [scal], by simp [scal]⟩
  unfold p_bk_OwnFloat at h
  refine DoesT.of comp12 ?_
  refine Ex.seq ?_
  refine regH 2 [] [1, 2] [] (mkS 9 [(1, .ptr 0 0), (2, .ptr 1 0)]) (⟨[(C_api_Float f_1), [.int .i64 0, .int .i64 0, .int .i64 0, .int .i64 0, .int .i64 0, .int .i64 0, .int .i64 0, .int .i64 0, .nils]], []⟩) (by kernel_rfl) trivial rfl ?_
  refine Ex.seq ?_
  obtain ⟨l_2, hl_2, h⟩ := Option.bind_eq_some_iff.1 h
  refine regH 6 [(3, .apps (f_1.Loads.map A_api_Load) (l_2.map A_api_Load) l_2.length)] [1, 2] [LApps 0 (([] : List T_api_Load).map A_api_Load) (f_1.Loads.map A_api_Load) (f_1.Loads.map A_api_Load) 7 (l_2.map A_api_Load) l_2.length] (mkS 9 [(1, .ptr 0 0), (2, .ptr 1 0)]) (⟨[[.int .i64 f_1.Length, .int .i64 f_1.Width, .int .i64 f_1.Front, .int .i64 f_1.Rear, .int .i64 f_1.Turn, .int .i64 f_1.Kilos, .int .i64 f_1.Middle, .int .i64 f_1.High, .sl (l_2.map A_api_Load) (some 0)], [.int .i64 0, .int .i64 0, .int .i64 0, .int .i64 0, .int .i64 0, .int .i64 0, .int .i64 0, .int .i64 0, .nils]], [(l_2.length, 7)]⟩) (by kernel_rfl) ⟨LApps.of hl_2 (fun _ => rfl) (fun _ => rfl) (fun _ => rfl), trivial⟩ rfl ?_
  refine Ex.seq ?_
  refine regH 2 [] [2] [] (mkS 9 [(2, .ptr 1 0)]) (⟨[[.int .i64 f_1.Length, .int .i64 f_1.Width, .int .i64 f_1.Front, .int .i64 f_1.Rear, .int .i64 f_1.Turn, .int .i64 f_1.Kilos, .int .i64 f_1.Middle, .int .i64 f_1.High, .sl (l_2.map A_api_Load) (some 0)], [.int .i64 f_1.Length, .int .i64 f_1.Width, .int .i64 f_1.Front, .int .i64 f_1.Rear, .int .i64 f_1.Turn, .int .i64 f_1.Kilos, .int .i64 f_1.Middle, .int .i64 f_1.High, .sl (l_2.map A_api_Load) (some 0)]], [(l_2.length, 7)]⟩) (by kernel_rfl) trivial rfl ?_
  refine Ex.ret ?_
  obtain rfl := Option.some.inj h
  exact ⟨.inr rfl, .agg [.int .i64 f_1.Length, .int .i64 f_1.Width, .int .i64 f_1.Front, .int .i64 f_1.Rear, .int .i64 f_1.Turn, .int .i64 f_1.Kilos, .int .i64 f_1.Middle, .int .i64 f_1.High, .sl (l_2.map A_api_Load) (some 0)], by kernel_rfl, 0, by kernel_rfl, by kernel_rfl⟩
def p_bl2_FloatApart (N : Nat) (nums_1 : (List Int)) : Option (Bool) := ((p_bk_DrumOf N nums_1).bind fun r_2 => ((p_bk_FloatOf N r_2 8).bind fun r_3 => ((p_bk_Drum_Roll N r_3.2 400).bind fun r_4 => ((p_float_Fire N r_3.1 r_4.1).bind fun r_5 => ((p_bk_Drum_Roll N r_4.2 200).bind fun r_6 => ((p_float_Fire N r_3.1 (IntKind.i64.wrap (r_4.1 + r_6.1))).bind fun r_7 => (letJ (fun (y_9 : Bool) => (bif y_9 then some false else (letJ (fun (_ : Unit) => (letJ (fun (many_42 : Int) => ((p_bk_OwnFloat N r_3.1).bind fun r_83 => ((p_bk_Drum_Roll N r_6.2 1000001).bind fun r_84 => ((pushI r_83.Loads ([(⟨r_3.1.Front, (⟨0, 0⟩ : T_api_Span), (⟨0, 0⟩ : T_api_Span), 2, r_84.1⟩ : T_api_Load)] : List T_api_Load)).bind fun l_85 => ((p_float_Fire N (⟨r_83.Length, r_83.Width, r_83.Front, r_83.Rear, r_83.Turn, r_83.Kilos, r_83.Middle, r_83.High, l_85⟩ : T_api_Float) r_4.1).bind fun r_86 => (bif (many_42 == ((r_5.1.length : Nat) : Int)) then (bif (r_86.2.2 == 0) then (bif (r_86.2.1 == (IntKind.i64.wrap (r_5.2.1 + r_84.1))) then ((p_bl2_awake N).bind fun r_90 => some r_90) else some false) else some false) else some false)))))) (fun k_43 => (loop2 (fun rec_48 (many_46 : Int) (i_47 : Int) => (bif (decide (i_47 < ((r_3.1.Loads.length : Nat) : Int))) then (letJ (fun (many_52 : Int) => (rec_48 many_52 (IntKind.i64.wrap (i_47 + 1)))) (fun k_53 => (loop2 (fun rec_58 (many_56 : Int) (k_57 : Int) => (bif (decide (k_57 < ((r_3.1.Loads.length : Nat) : Int))) then (letJ (fun (many_62 : Int) => (rec_58 many_62 (IntKind.i64.wrap (k_57 + 1)))) (fun k_63 => ((getI r_3.1.Loads i_47).bind fun x_66 => ((getI r_3.1.Loads k_57).bind fun x_67 => (letJ (fun (y_68 : Bool) => (bif y_68 then (letJ (fun (y_76 : Bool) => (bif y_76 then some false else (k_63 (IntKind.i64.wrap (many_56 + 1))))) (fun k_77 => (bif (decide (many_56 ≥ ((r_5.1.length : Nat) : Int))) then (k_77 true) else ((getI r_5.1 many_56).bind fun x_81 => (k_77 (!((x_81.Power == i_47) && ((x_81.Fire == k_57) && true)))))))) else (k_63 many_56))) (fun k_69 => (bif (x_66.Kind == 2) then (bif (x_67.Kind == 4) then (bif (decide ((IntKind.i64.wrap (x_66.At - x_67.At)) < r_4.1)) then (k_69 (decide ((IntKind.i64.wrap (x_67.At - x_66.At)) < r_4.1))) else (k_69 false)) else (k_69 false)) else (k_69 false)))))))) else (k_53 many_56))) N many_46 0))) else (k_43 many_46))) N 0 0)))) (fun k_16 => (loop2 (fun rec_21 (at_19 : Int) (i_20 : Int) => (bif (decide (i_20 < ((r_5.1.length : Nat) : Int))) then (letJ (fun (at_25 : Int) => (bif (at_25 == ((r_7.1.length : Nat) : Int)) then some false else (rec_21 at_25 (IntKind.i64.wrap (i_20 + 1))))) (fun k_26 => (loop1 (fun rec_30 (at_29 : Int) => (letJ (fun (y_33 : Bool) => (bif y_33 then (rec_30 (IntKind.i64.wrap (at_29 + 1))) else (k_26 at_29))) (fun k_34 => (bif (decide (at_29 < ((r_7.1.length : Nat) : Int))) then ((getI r_7.1 at_29).bind fun x_38 => ((getI r_5.1 i_20).bind fun x_39 => (k_34 (!((x_38.Power == x_39.Power) && ((x_38.Fire == x_39.Fire) && true)))))) else (k_34 false))))) N at_19))) else (k_16 ()))) N 0 0))))) (fun k_10 => (bif (r_5.2.2 != 0) then (k_10 true) else (bif (r_7.2.2 != 0) then (k_10 true) else (k_10 (r_5.2.1 != r_7.2.1))))))))))))
def v_bl2_FloatApart (r : Bool) : AV := .bool r
attribute [local simp] v_bl2_FloatApart
theorem d_bl2_FloatApart (N : Nat) (nums_1 : (List Int)) (r : Bool) (h : p_bl2_FloatApart N nums_1 = some r) : Does Try.prog 8 [.sl (nums_1.map (AV.int .i64)) none] [] fun v c => v = v_bl2_FloatApart r ∧ c = [] := by
  unfold p_bl2_FloatApart at h
  refine Does.ofL comp8 _ _ rfl rfl ?_
  refine Ex.seq ?_
  refine regH 1 [] [0] [] (mkS 189 [(0, .sl (nums_1.map (AV.int .i64)) none)]) (⟨[], []⟩) (by kernel_rfl) trivial rfl ?_
  refine Ex.seq ?_
  obtain ⟨r_2, hr_2, h⟩ := Option.bind_eq_some_iff.1 h
  refine Ex.reg ?_
  refine runH 1 [] [24] [] (mkS 189 [(24, .sl (nums_1.map (AV.int .i64)) none)]) (⟨[], []⟩) (by kernel_rfl) trivial ?_
  refine ExO.callL (v' := .ptr 0 0) [] [.sl (nums_1.map (AV.int .i64)) none] rfl rfl (a_bk_DrumOf nums_1) rfl rfl (d_bk_DrumOf N nums_1 r_2 hr_2) rfl (by simp) ?_
  refine runH 1 [] [3] [] (mkS 189 [(3, .ptr 0 0)]) (⟨[(C_bk_Drum r_2)], []⟩) (by kernel_rfl) trivial ?_
  refine ExO.nil ?_
  refine Ex.seq ?_
  obtain ⟨r_3, hr_3, h⟩ := Option.bind_eq_some_iff.1 h
  refine Ex.reg ?_
  refine runH 1 [] [3, 26] [] (mkS 189 [(3, .ptr 0 0), (26, .ptr 0 0)]) (⟨[(C_bk_Drum r_2)], []⟩) (by kernel_rfl) trivial ?_
  refine ExO.callL [0] [.ptr 0 0, .int .i64 8] rfl rfl (by simp; try rfl) rfl (by simp) (d_bk_FloatOf N r_2 8 r_3 hr_3) (b_bk_FloatOf _ _ _ _) (by simp) ?_
  refine runH 2 [] [3, 4] [] (mkS 189 [(3, .ptr 0 0), (4, .ptr 1 0)]) (⟨[(C_bk_Drum r_3.2), (C_api_Float r_3.1)], []⟩) (by kernel_rfl) trivial ?_
  refine ExO.nil ?_
  refine Ex.seq ?_
  obtain ⟨r_4, hr_4, h⟩ := Option.bind_eq_some_iff.1 h
  refine Ex.reg ?_
  refine runH 1 [] [3, 4, 28] [] (mkS 189 [(3, .ptr 0 0), (4, .ptr 1 0), (28, .ptr 0 0)]) (⟨[(C_bk_Drum r_3.2), (C_api_Float r_3.1)], []⟩) (by kernel_rfl) trivial ?_
  refine ExO.callL [0] [.ptr 0 0, .int .i64 400] rfl rfl (by simp; try rfl) rfl (by simp) (d_bk_Drum_Roll N r_3.2 400 r_4 hr_4) (b_bk_Drum_Roll _ _ _ _) (by simp) ?_
  refine runH 1 [] [3, 4, 5] [] (mkS 189 [(3, .ptr 0 0), (4, .ptr 1 0), (5, .int .i64 r_4.1)]) (⟨[(C_bk_Drum r_4.2), (C_api_Float r_3.1)], []⟩) (by kernel_rfl) trivial ?_
  refine ExO.nil ?_
  refine Ex.seq ?_
  obtain ⟨r_5, hr_5, h⟩ := Option.bind_eq_some_iff.1 h
  refine Ex.reg ?_
  refine runH 2 [] [3, 4, 5, 31, 32] [] (mkS 189 [(3, .ptr 0 0), (4, .ptr 1 0), (5, .int .i64 r_4.1), (31, (A_api_Float r_3.1)), (32, .int .i64 r_4.1)]) (⟨[(C_bk_Drum r_4.2), (C_api_Float r_3.1)], []⟩) (by kernel_rfl) trivial ?_
  refine ExO.callL [] [(A_api_Float r_3.1), .int .i64 r_4.1] rfl rfl (a_float_Fire r_3.1 r_4.1) rfl rfl (d_float_Fire N r_3.1 r_4.1 r_5 hr_5) (b_float_Fire _ _ _ _) rfl ?_
  refine runH 7 [] [3, 4, 5, 6, 7, 8] [] (mkS 189 [(3, .ptr 0 0), (4, .ptr 1 0), (5, .int .i64 r_4.1), (6, .sl (r_5.1.map A_api_Near) none), (7, .int .i64 r_5.2.1), (8, .int .i64 r_5.2.2)]) (⟨[(C_bk_Drum r_4.2), (C_api_Float r_3.1)], []⟩) (by kernel_rfl) trivial ?_
  refine ExO.nil ?_
  refine Ex.seq ?_
  obtain ⟨r_6, hr_6, h⟩ := Option.bind_eq_some_iff.1 h
  obtain ⟨r_7, hr_7, h⟩ := Option.bind_eq_some_iff.1 h
  have hT_8 : DoesA Try.prog [⟨38, [.ptr 0 0, .int .i64 200], [(C_bk_Drum r_4.2)], (v_bk_Drum_Roll r_6), [(C_bk_Drum r_6.2)]⟩, ⟨39, [(A_api_Float r_3.1), .int .i64 (IntKind.i64.wrap (r_4.1 + r_6.1))], [], (v_float_Fire r_7), []⟩] ∧ ConsA [⟨38, [.ptr 0 0, .int .i64 200], [(C_bk_Drum r_4.2)], (v_bk_Drum_Roll r_6), [(C_bk_Drum r_6.2)]⟩, ⟨39, [(A_api_Float r_3.1), .int .i64 (IntKind.i64.wrap (r_4.1 + r_6.1))], [], (v_float_Fire r_7), []⟩] := ⟨⟨(d_bk_Drum_Roll N r_4.2 200 r_6 hr_6), rfl, (d_float_Fire N r_3.1 (IntKind.i64.wrap (r_4.1 + r_6.1)) r_7 hr_7), rfl, trivial⟩, ⟨⟨ConsR.ne rfl, trivial⟩, trivial, trivial⟩⟩
  refine Ex.drawE (a1 := mkS 189 [(3, .ptr 0 0), (4, .ptr 1 0), (5, .int .i64 r_4.1), (6, .sl (r_5.1.map A_api_Near) none), (7, .int .i64 r_5.2.1), (8, .int .i64 r_5.2.2), (9, .sl (r_7.1.map A_api_Near) none), (10, .int .i64 r_7.2.1), (37, .tup [.sl (r_7.1.map A_api_Near) none, .int .i64 r_7.2.1, .int .i64 r_7.2.2]), (38, (A_api_Float r_3.1)), (39, .int .i64 r_4.1), (40, .ptr 0 0), (41, .int .i64 r_6.1), (42, .int .i64 (IntKind.i64.wrap (r_4.1 + r_6.1))), (43, .tup [.sl (r_7.1.map A_api_Near) none, .int .i64 r_7.2.1, .int .i64 r_7.2.2]), (44, .sl (r_7.1.map A_api_Near) none), (45, .int .i64 r_7.2.1), (46, .int .i64 r_7.2.2)]) (tabO_ok hT_8.1) [] [] [⟨[(C_bk_Drum r_6.2), (C_api_Float r_3.1)], []⟩] ?_ ?_
  · refine drS [1] 3 [] [] (mkS 189 [(3, .ptr 0 0), (4, .ptr 1 0), (5, .int .i64 r_4.1), (6, .sl (r_5.1.map A_api_Near) none), (7, .int .i64 r_5.2.1), (8, .int .i64 r_5.2.2), (38, (A_api_Float r_3.1)), (39, .int .i64 r_4.1), (40, .ptr 0 0)]) (by simp) (by kernel_rfl) trivial (by kernel_rfl) ?_
    refine drB hT_8.2 0 _ [0] [.ptr 0 0, .int .i64 200] (v_bk_Drum_Roll r_6) _ _ rfl rfl rfl rfl rfl rfl rfl rfl (by simp; try rfl) rfl (by simp) (b_bk_Drum_Roll _ _ _ _) (by simp) rfl ?_
    refine drS [1] 1 [] [] (mkS 189 [(3, .ptr 0 0), (4, .ptr 1 0), (5, .int .i64 r_4.1), (6, .sl (r_5.1.map A_api_Near) none), (7, .int .i64 r_5.2.1), (8, .int .i64 r_5.2.2), (38, (A_api_Float r_3.1)), (39, .int .i64 r_4.1), (40, .ptr 0 0), (41, .int .i64 r_6.1), (42, .int .i64 (IntKind.i64.wrap (r_4.1 + r_6.1)))]) (by simp) (by kernel_rfl) trivial (by kernel_rfl) ?_
    refine drC hT_8.2 1 _ [(A_api_Float r_3.1), .int .i64 (IntKind.i64.wrap (r_4.1 + r_6.1))] (v_float_Fire r_7) rfl rfl rfl rfl rfl (fun _ => rfl) rfl (by simp; try rfl) (fun _ => b_float_Fire _ _ _ _) ?_
    refine drS [1] 6 [] [] (mkS 189 [(3, .ptr 0 0), (4, .ptr 1 0), (5, .int .i64 r_4.1), (6, .sl (r_5.1.map A_api_Near) none), (7, .int .i64 r_5.2.1), (8, .int .i64 r_5.2.2), (9, .sl (r_7.1.map A_api_Near) none), (10, .int .i64 r_7.2.1), (37, .tup [.sl (r_7.1.map A_api_Near) none, .int .i64 r_7.2.1, .int .i64 r_7.2.2]), (38, (A_api_Float r_3.1)), (39, .int .i64 r_4.1), (40, .ptr 0 0), (41, .int .i64 r_6.1), (42, .int .i64 (IntKind.i64.wrap (r_4.1 + r_6.1))), (43, .tup [.sl (r_7.1.map A_api_Near) none, .int .i64 r_7.2.1, .int .i64 r_7.2.2]), (44, .sl (r_7.1.map A_api_Near) none), (45, .int .i64 r_7.2.1), (46, .int .i64 r_7.2.2)]) (by simp) (by kernel_rfl) trivial (by kernel_rfl) ?_
    exact DrO.nil rfl
  · dsimp only [List.getLastD_cons, List.getLastD_nil]
    refine runH 1 [] [3, 4, 5, 6, 7, 8, 9, 10, 11] [] (mkS 189 [(3, .ptr 0 0), (4, .ptr 1 0), (5, .int .i64 r_4.1), (6, .sl (r_5.1.map A_api_Near) none), (7, .int .i64 r_5.2.1), (8, .int .i64 r_5.2.2), (9, .sl (r_7.1.map A_api_Near) none), (10, .int .i64 r_7.2.1), (11, .int .i64 r_7.2.2)]) (⟨[(C_bk_Drum r_6.2), (C_api_Float r_3.1)], []⟩) (by kernel_rfl) trivial ?_
    refine ExO.nil ?_
    refine Ex.seq ?_
    obtain ⟨K_11, hK_12, h⟩ := letE h
    refine Ex.seqJ (fun a S => ∃ (y_9 : Bool), K_11 y_9 = some r ∧ a = mkS 189 [(3, .ptr 0 0), (4, .ptr 1 0), (5, .int .i64 r_4.1), (6, .sl (r_5.1.map A_api_Near) none), (7, .int .i64 r_5.2.1), (9, .sl (r_7.1.map A_api_Near) none), (57, .bool y_9)] ∧ S = ⟨[(C_bk_Drum r_6.2), (C_api_Float r_3.1)], []⟩) ?_ ?_
    · rcases condI h with ⟨hc_13, h⟩ | ⟨hc_13, h⟩
      · refine regH 11 [(2, .eq (.bool true))] [3, 4, 5, 6, 7, 9, 57] [AV.bool (r_5.2.2 != 0) = AV.bool true] (mkS 189 [(3, .ptr 0 0), (4, .ptr 1 0), (5, .int .i64 r_4.1), (6, .sl (r_5.1.map A_api_Near) none), (7, .int .i64 r_5.2.1), (9, .sl (r_7.1.map A_api_Near) none), (57, .bool true)]) (⟨[(C_bk_Drum r_6.2), (C_api_Float r_3.1)], []⟩) (by kernel_rfl) ⟨congrArg AV.bool hc_13, trivial⟩ rfl ?_
        (try simp only [reduceCtorEq, AEx.ex.injEq, Nat.reduceEqDiff, if_true, if_false])
        exact ⟨_, _, Forgets.refl _ _ _, true, h, rfl, rfl⟩
      · rcases condI h with ⟨hc_14, h⟩ | ⟨hc_14, h⟩
        · refine regH 11 [(2, .eq (.bool false)), (6, .eq (.bool true))] [3, 4, 5, 6, 7, 9, 57] [AV.bool (r_5.2.2 != 0) = AV.bool false, AV.bool (r_7.2.2 != 0) = AV.bool true] (mkS 189 [(3, .ptr 0 0), (4, .ptr 1 0), (5, .int .i64 r_4.1), (6, .sl (r_5.1.map A_api_Near) none), (7, .int .i64 r_5.2.1), (9, .sl (r_7.1.map A_api_Near) none), (57, .bool true)]) (⟨[(C_bk_Drum r_6.2), (C_api_Float r_3.1)], []⟩) (by kernel_rfl) ⟨congrArg AV.bool hc_13, congrArg AV.bool hc_14, trivial⟩ rfl ?_
          (try simp only [reduceCtorEq, AEx.ex.injEq, Nat.reduceEqDiff, if_true, if_false])
          exact ⟨_, _, Forgets.refl _ _ _, true, h, rfl, rfl⟩
        · refine regH 11 [(2, .eq (.bool false)), (6, .eq (.bool false))] [3, 4, 5, 6, 7, 9, 57] [AV.bool (r_5.2.2 != 0) = AV.bool false, AV.bool (r_7.2.2 != 0) = AV.bool false] (mkS 189 [(3, .ptr 0 0), (4, .ptr 1 0), (5, .int .i64 r_4.1), (6, .sl (r_5.1.map A_api_Near) none), (7, .int .i64 r_5.2.1), (9, .sl (r_7.1.map A_api_Near) none), (57, .bool (r_5.2.1 != r_7.2.1))]) (⟨[(C_bk_Drum r_6.2), (C_api_Float r_3.1)], []⟩) (by kernel_rfl) ⟨congrArg AV.bool hc_13, congrArg AV.bool hc_14, trivial⟩ rfl ?_
          (try simp only [reduceCtorEq, AEx.ex.injEq, Nat.reduceEqDiff, if_true, if_false])
          exact ⟨_, _, Forgets.refl _ _ _, (r_5.2.1 != r_7.2.1), h, rfl, rfl⟩
    · rintro a S ⟨y_9, h, rfl, rfl⟩
      subst hK_12
      rcases condI h with ⟨hc_15, h⟩ | ⟨hc_15, h⟩
      · refine Ex.condT _ rfl hc_15 ?_
        refine Ex.seq ?_
        refine regH 1 [] [2] [] (mkS 189 [(2, .bool false)]) (⟨[(C_bk_Drum r_6.2), (C_api_Float r_3.1)], []⟩) (by kernel_rfl) trivial rfl ?_
        refine Ex.ret ?_
        obtain rfl := Option.some.inj h
        exact ⟨.inr rfl, .bool false, by kernel_rfl, by kernel_rfl, by kernel_rfl, by kernel_rfl⟩
      · refine Ex.condF _ rfl hc_15 ?_
        refine Ex.skip ?_
        refine Ex.seq ?_
        refine regH 1 [] [3, 4, 5, 6, 7, 9, 12] [] (mkS 189 [(3, .ptr 0 0), (4, .ptr 1 0), (5, .int .i64 r_4.1), (6, .sl (r_5.1.map A_api_Near) none), (7, .int .i64 r_5.2.1), (9, .sl (r_7.1.map A_api_Near) none), (12, .int .i64 0)]) (⟨[(C_bk_Drum r_6.2), (C_api_Float r_3.1)], []⟩) (by kernel_rfl) trivial rfl ?_
        refine Ex.seq ?_
        refine Ex.seq ?_
        refine regH 1 [] [3, 4, 5, 6, 7, 9, 12, 13] [] (mkS 189 [(3, .ptr 0 0), (4, .ptr 1 0), (5, .int .i64 r_4.1), (6, .sl (r_5.1.map A_api_Near) none), (7, .int .i64 r_5.2.1), (9, .sl (r_7.1.map A_api_Near) none), (12, .int .i64 0), (13, .int .i64 0)]) (⟨[(C_bk_Drum r_6.2), (C_api_Float r_3.1)], []⟩) (by kernel_rfl) trivial rfl ?_
        obtain ⟨K_17, hK_18, h⟩ := letE h
        refine Ex.blockJ (fun a S => K_17 () = some r ∧ a = mkS 189 [(3, .ptr 0 0), (4, .ptr 1 0), (5, .int .i64 r_4.1), (6, .sl (r_5.1.map A_api_Near) none), (7, .int .i64 r_5.2.1)] ∧ S = ⟨[(C_bk_Drum r_6.2), (C_api_Float r_3.1)], []⟩) ?_ ?_
        · obtain ⟨B_22, hB_23, h⟩ := loop2I h
          refine Ex.loopF (fun k a S => ∃ (at_19 : Int), ∃ (i_20 : Int), loop2 B_22 k at_19 i_20 = some r ∧ a = mkS 189 [(3, .ptr 0 0), (4, .ptr 1 0), (5, .int .i64 r_4.1), (6, .sl (r_5.1.map A_api_Near) none), (7, .int .i64 r_5.2.1), (9, .sl (r_7.1.map A_api_Near) none), (12, .int .i64 at_19), (13, .int .i64 i_20)] ∧ S = ⟨[(C_bk_Drum r_6.2), (C_api_Float r_3.1)], []⟩) N ⟨_, _, Forgets.refl _ _ _, 0, 0, h, rfl, rfl⟩ ?_
          rintro k a S ⟨at_19, i_20, h, rfl, rfl⟩
          cases k with
          | zero => exact (loop2Z h).elim
          | succ k =>
            replace h := loop2S h hB_23
            refine Ex.seq ?_
            refine Ex.seq ?_
            refine regH 4 [(2, .eq (.int .i64 ((r_5.1.length : Nat) : Int)))] [3, 4, 5, 6, 7, 9, 12, 13, 61] [AV.int .i64 (((r_5.1.map A_api_Near).length : Nat) : Int) = AV.int .i64 ((r_5.1.length : Nat) : Int)] (mkS 189 [(3, .ptr 0 0), (4, .ptr 1 0), (5, .int .i64 r_4.1), (6, .sl (r_5.1.map A_api_Near) none), (7, .int .i64 r_5.2.1), (9, .sl (r_7.1.map A_api_Near) none), (12, .int .i64 at_19), (13, .int .i64 i_20), (61, .bool (decide (i_20 < ((r_5.1.length : Nat) : Int))))]) (⟨[(C_bk_Drum r_6.2), (C_api_Float r_3.1)], []⟩) (by kernel_rfl) ⟨lenM _ _, trivial⟩ rfl ?_
            rcases condI h with ⟨hc_24, h⟩ | ⟨hc_24, h⟩
            · refine Ex.condT _ rfl hc_24 ?_
              refine Ex.skip ?_
              refine Ex.seq ?_
              refine Ex.blockK ?_
              refine Ex.seq ?_
              obtain ⟨K_27, hK_28, h⟩ := letE h
              refine Ex.blockJ (fun a S => ∃ (at_25 : Int), K_27 at_25 = some r ∧ a = mkS 189 [(3, .ptr 0 0), (4, .ptr 1 0), (5, .int .i64 r_4.1), (6, .sl (r_5.1.map A_api_Near) none), (7, .int .i64 r_5.2.1), (9, .sl (r_7.1.map A_api_Near) none), (12, .int .i64 at_25), (13, .int .i64 i_20)] ∧ S = ⟨[(C_bk_Drum r_6.2), (C_api_Float r_3.1)], []⟩) ?_ ?_
              · obtain ⟨B_31, hB_32, h⟩ := loop1I h
                refine Ex.loopF (fun k a S => ∃ (at_29 : Int), loop1 B_31 k at_29 = some r ∧ a = mkS 189 [(3, .ptr 0 0), (4, .ptr 1 0), (5, .int .i64 r_4.1), (6, .sl (r_5.1.map A_api_Near) none), (7, .int .i64 r_5.2.1), (9, .sl (r_7.1.map A_api_Near) none), (12, .int .i64 at_29), (13, .int .i64 i_20)] ∧ S = ⟨[(C_bk_Drum r_6.2), (C_api_Float r_3.1)], []⟩) N ⟨_, _, forgetK [3, 4, 5, 6, 7, 9, 12, 13], at_19, h, rfl, rfl⟩ ?_
                rintro k a S ⟨at_29, h, rfl, rfl⟩
                cases k with
                | zero => exact (loop1Z h).elim
                | succ k =>
                  replace h := loop1S h hB_32
                  refine Ex.seq ?_
                  obtain ⟨K_35, hK_36, h⟩ := letE h
                  refine Ex.seqJ (fun a S => ∃ (y_33 : Bool), K_35 y_33 = some r ∧ a = mkS 189 [(3, .ptr 0 0), (4, .ptr 1 0), (5, .int .i64 r_4.1), (6, .sl (r_5.1.map A_api_Near) none), (7, .int .i64 r_5.2.1), (9, .sl (r_7.1.map A_api_Near) none), (12, .int .i64 at_29), (13, .int .i64 i_20), (78, .bool y_33)] ∧ S = ⟨[(C_bk_Drum r_6.2), (C_api_Float r_3.1)], []⟩) ?_ ?_
                  · rcases condI h with ⟨hc_37, h⟩ | ⟨hc_37, h⟩
                    · obtain ⟨x_38, hx_38, h⟩ := Option.bind_eq_some_iff.1 h
                      obtain ⟨x_39, hx_39, h⟩ := Option.bind_eq_some_iff.1 h
                      refine Ex.drawE (a1 := mkS 189 [(3, .ptr 0 0), (4, .ptr 1 0), (5, .int .i64 r_4.1), (6, .sl (r_5.1.map A_api_Near) none), (7, .int .i64 r_5.2.1), (9, .sl (r_7.1.map A_api_Near) none), (12, .int .i64 at_29), (13, .int .i64 i_20), (64, .int .i64 at_29), (65, .sl (r_7.1.map A_api_Near) none), (66, .int .i64 ((r_7.1.length : Nat) : Int)), (67, .bool (decide (at_29 < ((r_7.1.length : Nat) : Int)))), (68, .bool true), (69, .sl (r_7.1.map A_api_Near) none), (70, .int .i64 at_29), (71, .rop (C_api_Near x_38)), (72, (A_api_Near x_38)), (73, .sl (r_5.1.map A_api_Near) none), (74, .int .i64 i_20), (75, .rop (C_api_Near x_39)), (76, (A_api_Near x_39))]) (noClr_ok _) [] [] [] ?_ ?_
                      · refine drS [0, 1] 13 [(2, .eq (.int .i64 ((r_7.1.length : Nat) : Int))), (4, .eq (.bool true)), (7, .rop (C_api_Near x_38)), (11, .rop (C_api_Near x_39))] [AV.int .i64 (((r_7.1.map A_api_Near).length : Nat) : Int) = AV.int .i64 ((r_7.1.length : Nat) : Int), AV.bool (decide (at_29 < ((r_7.1.length : Nat) : Int))) = AV.bool true, LGet (r_7.1.map A_api_Near) at_29 2 (C_api_Near x_38), LGet (r_5.1.map A_api_Near) i_20 2 (C_api_Near x_39)] (mkS 189 [(3, .ptr 0 0), (4, .ptr 1 0), (5, .int .i64 r_4.1), (6, .sl (r_5.1.map A_api_Near) none), (7, .int .i64 r_5.2.1), (9, .sl (r_7.1.map A_api_Near) none), (12, .int .i64 at_29), (13, .int .i64 i_20), (64, .int .i64 at_29), (65, .sl (r_7.1.map A_api_Near) none), (66, .int .i64 ((r_7.1.length : Nat) : Int)), (67, .bool (decide (at_29 < ((r_7.1.length : Nat) : Int)))), (68, .bool true), (69, .sl (r_7.1.map A_api_Near) none), (70, .int .i64 at_29), (71, .rop (C_api_Near x_38)), (72, (A_api_Near x_38)), (73, .sl (r_5.1.map A_api_Near) none), (74, .int .i64 i_20), (75, .rop (C_api_Near x_39)), (76, (A_api_Near x_39))]) (by simp) (by kernel_rfl) ⟨lenM _ _, congrArg AV.bool hc_37, LGet.of hx_38 rfl, LGet.of hx_39 rfl, trivial⟩ (by kernel_rfl) ?_
                        exact DrO.nil rfl
                      · dsimp only [List.getLastD_cons, List.getLastD_nil]
                        refine runH 2 [] [3, 4, 5, 6, 7, 9, 12, 13, 78] [] (mkS 189 [(3, .ptr 0 0), (4, .ptr 1 0), (5, .int .i64 r_4.1), (6, .sl (r_5.1.map A_api_Near) none), (7, .int .i64 r_5.2.1), (9, .sl (r_7.1.map A_api_Near) none), (12, .int .i64 at_29), (13, .int .i64 i_20), (78, .bool (!((x_38.Power == x_39.Power) && ((x_38.Fire == x_39.Fire) && true))))]) (⟨[(C_bk_Drum r_6.2), (C_api_Float r_3.1)], []⟩) (by kernel_rfl) trivial ?_
                        refine ExO.nil ?_
                        (try simp only [reduceCtorEq, AEx.ex.injEq, Nat.reduceEqDiff, if_true, if_false])
                        exact ⟨_, _, Forgets.refl _ _ _, (!((x_38.Power == x_39.Power) && ((x_38.Fire == x_39.Fire) && true))), h, rfl, rfl⟩
                    · refine dregX (noClr_ok _) [(2, .eq (.int .i64 ((r_7.1.length : Nat) : Int))), (4, .eq (.bool false))] [] [3, 4, 5, 6, 7, 9, 12, 13, 78] [AV.int .i64 (((r_7.1.map A_api_Near).length : Nat) : Int) = AV.int .i64 ((r_7.1.length : Nat) : Int), AV.bool (decide (at_29 < ((r_7.1.length : Nat) : Int))) = AV.bool false] [] (mkS 189 [(3, .ptr 0 0), (4, .ptr 1 0), (5, .int .i64 r_4.1), (6, .sl (r_5.1.map A_api_Near) none), (7, .int .i64 r_5.2.1), (9, .sl (r_7.1.map A_api_Near) none), (12, .int .i64 at_29), (13, .int .i64 i_20), (64, .int .i64 at_29), (65, .sl (r_7.1.map A_api_Near) none), (66, .int .i64 ((r_7.1.length : Nat) : Int)), (67, .bool (decide (at_29 < ((r_7.1.length : Nat) : Int)))), (68, .bool false), (69, .tup []), (70, .tup []), (71, .tup []), (72, .tup []), (73, .tup []), (74, .tup []), (75, .tup []), (76, .tup [])]) (mkS 189 [(3, .ptr 0 0), (4, .ptr 1 0), (5, .int .i64 r_4.1), (6, .sl (r_5.1.map A_api_Near) none), (7, .int .i64 r_5.2.1), (9, .sl (r_7.1.map A_api_Near) none), (12, .int .i64 at_29), (13, .int .i64 i_20), (78, .bool false)]) (by kernel_rfl) (by kernel_rfl) ⟨lenM _ _, congrArg AV.bool hc_37, trivial⟩ (by kernel_rfl) trivial ?_
                      (try simp only [reduceCtorEq, AEx.ex.injEq, Nat.reduceEqDiff, if_true, if_false])
                      exact ⟨_, _, Forgets.refl _ _ _, false, h, rfl, rfl⟩
                  · rintro a S ⟨y_33, h, rfl, rfl⟩
                    subst hK_36
                    rcases condI h with ⟨hc_40, h⟩ | ⟨hc_40, h⟩
                    · refine Ex.condT _ rfl hc_40 ?_
                      refine Ex.skip ?_
                      refine Ex.blockK ?_
                      refine regH 3 [] [3, 4, 5, 6, 7, 9, 12, 13] [] (mkS 189 [(3, .ptr 0 0), (4, .ptr 1 0), (5, .int .i64 r_4.1), (6, .sl (r_5.1.map A_api_Near) none), (7, .int .i64 r_5.2.1), (9, .sl (r_7.1.map A_api_Near) none), (12, .int .i64 (IntKind.i64.wrap (at_29 + 1))), (13, .int .i64 i_20)]) (⟨[(C_bk_Drum r_6.2), (C_api_Float r_3.1)], []⟩) (by kernel_rfl) trivial rfl ?_
                      dsimp only
                      exact ⟨_, _, Forgets.refl _ _ _, k, Nat.lt_succ_self k, (IntKind.i64.wrap (at_29 + 1)), h, rfl, rfl⟩
                    · refine Ex.condF _ rfl hc_40 ?_
                      refine Ex.exit ?_
                      (try simp only [reduceCtorEq, AEx.ex.injEq, Nat.reduceEqDiff, if_true, if_false])
                      exact ⟨_, _, forgetK [3, 4, 5, 6, 7, 9, 12, 13], at_29, h, rfl, rfl⟩
              · rintro a S ⟨at_25, h, rfl, rfl⟩
                subst hK_28
                refine Ex.seq ?_
                refine regH 4 [(2, .eq (.int .i64 ((r_7.1.length : Nat) : Int)))] [3, 4, 5, 6, 7, 9, 12, 13, 84] [AV.int .i64 (((r_7.1.map A_api_Near).length : Nat) : Int) = AV.int .i64 ((r_7.1.length : Nat) : Int)] (mkS 189 [(3, .ptr 0 0), (4, .ptr 1 0), (5, .int .i64 r_4.1), (6, .sl (r_5.1.map A_api_Near) none), (7, .int .i64 r_5.2.1), (9, .sl (r_7.1.map A_api_Near) none), (12, .int .i64 at_25), (13, .int .i64 i_20), (84, .bool (at_25 == ((r_7.1.length : Nat) : Int)))]) (⟨[(C_bk_Drum r_6.2), (C_api_Float r_3.1)], []⟩) (by kernel_rfl) ⟨lenM _ _, trivial⟩ rfl ?_
                rcases condI h with ⟨hc_41, h⟩ | ⟨hc_41, h⟩
                · refine Ex.condT _ rfl hc_41 ?_
                  refine Ex.seq ?_
                  refine regH 1 [] [2] [] (mkS 189 [(2, .bool false)]) (⟨[(C_bk_Drum r_6.2), (C_api_Float r_3.1)], []⟩) (by kernel_rfl) trivial rfl ?_
                  refine Ex.ret ?_
                  obtain rfl := Option.some.inj h
                  exact ⟨.inr rfl, .bool false, by kernel_rfl, by kernel_rfl, by kernel_rfl, by kernel_rfl⟩
                · refine Ex.condF _ rfl hc_41 ?_
                  refine Ex.skip ?_
                  refine regH 3 [] [3, 4, 5, 6, 7, 9, 12, 13] [] (mkS 189 [(3, .ptr 0 0), (4, .ptr 1 0), (5, .int .i64 r_4.1), (6, .sl (r_5.1.map A_api_Near) none), (7, .int .i64 r_5.2.1), (9, .sl (r_7.1.map A_api_Near) none), (12, .int .i64 at_25), (13, .int .i64 (IntKind.i64.wrap (i_20 + 1)))]) (⟨[(C_bk_Drum r_6.2), (C_api_Float r_3.1)], []⟩) (by kernel_rfl) trivial rfl ?_
                  dsimp only
                  exact ⟨_, _, Forgets.refl _ _ _, k, Nat.lt_succ_self k, at_25, (IntKind.i64.wrap (i_20 + 1)), h, rfl, rfl⟩
            · refine Ex.condF _ rfl hc_24 ?_
              refine Ex.exit ?_
              (try simp only [reduceCtorEq, AEx.ex.injEq, Nat.reduceEqDiff, if_true, if_false])
              exact ⟨_, _, forgetK [3, 4, 5, 6, 7], h, rfl, rfl⟩
        · rintro a S ⟨h, rfl, rfl⟩
          subst hK_18
          refine Ex.seq ?_
          refine regH 1 [] [3, 4, 5, 6, 7, 14] [] (mkS 189 [(3, .ptr 0 0), (4, .ptr 1 0), (5, .int .i64 r_4.1), (6, .sl (r_5.1.map A_api_Near) none), (7, .int .i64 r_5.2.1), (14, .int .i64 0)]) (⟨[(C_bk_Drum r_6.2), (C_api_Float r_3.1)], []⟩) (by kernel_rfl) trivial rfl ?_
          refine Ex.seq ?_
          refine Ex.seq ?_
          refine regH 1 [] [3, 4, 5, 6, 7, 14, 15] [] (mkS 189 [(3, .ptr 0 0), (4, .ptr 1 0), (5, .int .i64 r_4.1), (6, .sl (r_5.1.map A_api_Near) none), (7, .int .i64 r_5.2.1), (14, .int .i64 0), (15, .int .i64 0)]) (⟨[(C_bk_Drum r_6.2), (C_api_Float r_3.1)], []⟩) (by kernel_rfl) trivial rfl ?_
          obtain ⟨K_44, hK_45, h⟩ := letE h
          refine Ex.blockJ (fun a S => ∃ (many_42 : Int), K_44 many_42 = some r ∧ a = mkS 189 [(3, .ptr 0 0), (4, .ptr 1 0), (5, .int .i64 r_4.1), (6, .sl (r_5.1.map A_api_Near) none), (7, .int .i64 r_5.2.1), (14, .int .i64 many_42)] ∧ S = ⟨[(C_bk_Drum r_6.2), (C_api_Float r_3.1)], []⟩) ?_ ?_
          · obtain ⟨B_49, hB_50, h⟩ := loop2I h
            refine Ex.loopF (fun k a S => ∃ (many_46 : Int), ∃ (i_47 : Int), loop2 B_49 k many_46 i_47 = some r ∧ a = mkS 189 [(3, .ptr 0 0), (4, .ptr 1 0), (5, .int .i64 r_4.1), (6, .sl (r_5.1.map A_api_Near) none), (7, .int .i64 r_5.2.1), (14, .int .i64 many_46), (15, .int .i64 i_47)] ∧ S = ⟨[(C_bk_Drum r_6.2), (C_api_Float r_3.1)], []⟩) N ⟨_, _, Forgets.refl _ _ _, 0, 0, h, rfl, rfl⟩ ?_
            rintro k a S ⟨many_46, i_47, h, rfl, rfl⟩
            cases k with
            | zero => exact (loop2Z h).elim
            | succ k =>
              replace h := loop2S h hB_50
              refine Ex.seq ?_
              refine Ex.seq ?_
              refine regH 5 [(3, .eq (.int .i64 ((r_3.1.Loads.length : Nat) : Int)))] [3, 4, 5, 6, 7, 14, 15, 89] [AV.int .i64 (((r_3.1.Loads.map A_api_Load).length : Nat) : Int) = AV.int .i64 ((r_3.1.Loads.length : Nat) : Int)] (mkS 189 [(3, .ptr 0 0), (4, .ptr 1 0), (5, .int .i64 r_4.1), (6, .sl (r_5.1.map A_api_Near) none), (7, .int .i64 r_5.2.1), (14, .int .i64 many_46), (15, .int .i64 i_47), (89, .bool (decide (i_47 < ((r_3.1.Loads.length : Nat) : Int))))]) (⟨[(C_bk_Drum r_6.2), (C_api_Float r_3.1)], []⟩) (by kernel_rfl) ⟨lenM _ _, trivial⟩ rfl ?_
              rcases condI h with ⟨hc_51, h⟩ | ⟨hc_51, h⟩
              · refine Ex.condT _ rfl hc_51 ?_
                refine Ex.skip ?_
                refine Ex.seq ?_
                refine Ex.blockK ?_
                refine Ex.seq ?_
                refine regH 1 [] [3, 4, 5, 6, 7, 14, 15, 16] [] (mkS 189 [(3, .ptr 0 0), (4, .ptr 1 0), (5, .int .i64 r_4.1), (6, .sl (r_5.1.map A_api_Near) none), (7, .int .i64 r_5.2.1), (14, .int .i64 many_46), (15, .int .i64 i_47), (16, .int .i64 0)]) (⟨[(C_bk_Drum r_6.2), (C_api_Float r_3.1)], []⟩) (by kernel_rfl) trivial rfl ?_
                obtain ⟨K_54, hK_55, h⟩ := letE h
                refine Ex.blockJ (fun a S => ∃ (many_52 : Int), K_54 many_52 = some r ∧ a = mkS 189 [(3, .ptr 0 0), (4, .ptr 1 0), (5, .int .i64 r_4.1), (6, .sl (r_5.1.map A_api_Near) none), (7, .int .i64 r_5.2.1), (14, .int .i64 many_52), (15, .int .i64 i_47)] ∧ S = ⟨[(C_bk_Drum r_6.2), (C_api_Float r_3.1)], []⟩) ?_ ?_
                · obtain ⟨B_59, hB_60, h⟩ := loop2I h
                  refine Ex.loopF (fun k a S => ∃ (many_56 : Int), ∃ (k_57 : Int), loop2 B_59 k many_56 k_57 = some r ∧ a = mkS 189 [(3, .ptr 0 0), (4, .ptr 1 0), (5, .int .i64 r_4.1), (6, .sl (r_5.1.map A_api_Near) none), (7, .int .i64 r_5.2.1), (14, .int .i64 many_56), (15, .int .i64 i_47), (16, .int .i64 k_57)] ∧ S = ⟨[(C_bk_Drum r_6.2), (C_api_Float r_3.1)], []⟩) N ⟨_, _, Forgets.refl _ _ _, many_46, 0, h, rfl, rfl⟩ ?_
                  rintro k a S ⟨many_56, k_57, h, rfl, rfl⟩
                  cases k with
                  | zero => exact (loop2Z h).elim
                  | succ k =>
                    replace h := loop2S h hB_60
                    refine Ex.seq ?_
                    refine Ex.seq ?_
                    refine regH 5 [(3, .eq (.int .i64 ((r_3.1.Loads.length : Nat) : Int)))] [3, 4, 5, 6, 7, 14, 15, 16, 96] [AV.int .i64 (((r_3.1.Loads.map A_api_Load).length : Nat) : Int) = AV.int .i64 ((r_3.1.Loads.length : Nat) : Int)] (mkS 189 [(3, .ptr 0 0), (4, .ptr 1 0), (5, .int .i64 r_4.1), (6, .sl (r_5.1.map A_api_Near) none), (7, .int .i64 r_5.2.1), (14, .int .i64 many_56), (15, .int .i64 i_47), (16, .int .i64 k_57), (96, .bool (decide (k_57 < ((r_3.1.Loads.length : Nat) : Int))))]) (⟨[(C_bk_Drum r_6.2), (C_api_Float r_3.1)], []⟩) (by kernel_rfl) ⟨lenM _ _, trivial⟩ rfl ?_
                    rcases condI h with ⟨hc_61, h⟩ | ⟨hc_61, h⟩
                    · refine Ex.condT _ rfl hc_61 ?_
                      refine Ex.skip ?_
                      refine Ex.seq ?_
                      obtain ⟨K_64, hK_65, h⟩ := letE h
                      refine Ex.blockJ (fun a S => ∃ (many_62 : Int), K_64 many_62 = some r ∧ a = mkS 189 [(3, .ptr 0 0), (4, .ptr 1 0), (5, .int .i64 r_4.1), (6, .sl (r_5.1.map A_api_Near) none), (7, .int .i64 r_5.2.1), (14, .int .i64 many_62), (15, .int .i64 i_47), (16, .int .i64 k_57)] ∧ S = ⟨[(C_bk_Drum r_6.2), (C_api_Float r_3.1)], []⟩) ?_ ?_
                      · refine Ex.seq ?_
                        obtain ⟨x_66, hx_66, h⟩ := Option.bind_eq_some_iff.1 h
                        obtain ⟨x_67, hx_67, h⟩ := Option.bind_eq_some_iff.1 h
                        refine Ex.drawE (a1 := mkS 189 [(3, .ptr 0 0), (4, .ptr 1 0), (5, .int .i64 r_4.1), (6, .sl (r_5.1.map A_api_Near) none), (7, .int .i64 r_5.2.1), (14, .int .i64 many_56), (15, .int .i64 i_47), (16, .int .i64 k_57), (17, .ptr 2 0), (18, .ptr 3 0), (96, .bool (decide (k_57 < ((r_3.1.Loads.length : Nat) : Int)))), (99, .ptr 1 8), (100, .sl (r_3.1.Loads.map A_api_Load) none), (101, .int .i64 i_47), (102, .rop (C_api_Load x_66)), (103, (A_api_Load x_66)), (104, .ptr 1 8), (105, .sl (r_3.1.Loads.map A_api_Load) none), (106, .int .i64 k_57), (107, .rop (C_api_Load x_67)), (108, (A_api_Load x_67))]) (noClr_ok _) [[.int .i64 0, .int .i64 0, .int .i64 0, .int .i64 0, .int .i64 0, .int .i64 0, .int .i64 0], [.int .i64 0, .int .i64 0, .int .i64 0, .int .i64 0, .int .i64 0, .int .i64 0, .int .i64 0]] [] [⟨[(C_bk_Drum r_6.2), (C_api_Float r_3.1), (C_api_Load x_66), [.int .i64 0, .int .i64 0, .int .i64 0, .int .i64 0, .int .i64 0, .int .i64 0, .int .i64 0]], []⟩] ?_ ?_
                        · refine drS [0, 1, 3] 10 [(3, .rop (C_api_Load x_66)), (8, .rop (C_api_Load x_67))] [LGet (r_3.1.Loads.map A_api_Load) i_47 7 (C_api_Load x_66), LGet (r_3.1.Loads.map A_api_Load) k_57 7 (C_api_Load x_67)] (mkS 189 [(3, .ptr 0 0), (4, .ptr 1 0), (5, .int .i64 r_4.1), (6, .sl (r_5.1.map A_api_Near) none), (7, .int .i64 r_5.2.1), (14, .int .i64 many_56), (15, .int .i64 i_47), (16, .int .i64 k_57), (96, .bool (decide (k_57 < ((r_3.1.Loads.length : Nat) : Int)))), (99, .ptr 1 8), (100, .sl (r_3.1.Loads.map A_api_Load) none), (101, .int .i64 i_47), (102, .rop (C_api_Load x_66)), (103, (A_api_Load x_66)), (104, .ptr 1 8), (105, .sl (r_3.1.Loads.map A_api_Load) none), (106, .int .i64 k_57), (107, .rop (C_api_Load x_67)), (108, (A_api_Load x_67))]) (by simp) (by kernel_rfl) ⟨LGet.of hx_66 rfl, LGet.of hx_67 rfl, trivial⟩ (by kernel_rfl) ?_
                          refine drXL 2 [.int .i64 0, .int .i64 0, .int .i64 0, .int .i64 0, .int .i64 0, .int .i64 0, .int .i64 0] 17 rfl rfl (fun _ => by kernel_rfl) (by simp) (by simp) rfl (by kernel_rfl) rfl rfl ?_
                          refine drX 3 [.int .i64 0, .int .i64 0, .int .i64 0, .int .i64 0, .int .i64 0, .int .i64 0, .int .i64 0] rfl rfl (fun _ => by kernel_rfl) (by simp) rfl rfl ?_
                          refine drE none none (.tup []) _ _ rfl rfl rfl rfl rfl (by kernel_rfl) trivial ?_
                          exact DrO.nil rfl
                        · dsimp only [List.getLastD_cons, List.getLastD_nil]
                          refine runH 1 [] [3, 4, 5, 6, 7, 14, 15, 16, 17, 18] [] (mkS 189 [(3, .ptr 0 0), (4, .ptr 1 0), (5, .int .i64 r_4.1), (6, .sl (r_5.1.map A_api_Near) none), (7, .int .i64 r_5.2.1), (14, .int .i64 many_56), (15, .int .i64 i_47), (16, .int .i64 k_57), (17, .ptr 2 0), (18, .ptr 3 0)]) (⟨[(C_bk_Drum r_6.2), (C_api_Float r_3.1), (C_api_Load x_66), (C_api_Load x_67)], []⟩) (by kernel_rfl) trivial ?_
                          refine ExO.nil ?_
                          obtain ⟨K_70, hK_71, h⟩ := letE h
                          refine Ex.seqJ (fun a S => ∃ (y_68 : Bool), K_70 y_68 = some r ∧ a = mkS 189 [(3, .ptr 0 0), (4, .ptr 1 0), (5, .int .i64 r_4.1), (6, .sl (r_5.1.map A_api_Near) none), (7, .int .i64 r_5.2.1), (14, .int .i64 many_56), (15, .int .i64 i_47), (16, .int .i64 k_57), (134, .bool y_68)] ∧ S = ⟨[(C_bk_Drum r_6.2), (C_api_Float r_3.1)], []⟩) ?_ ?_
                          · rcases condI h with ⟨hc_72, h⟩ | ⟨hc_72, h⟩
                            · rcases condI h with ⟨hc_73, h⟩ | ⟨hc_73, h⟩
                              · rcases condI h with ⟨hc_74, h⟩ | ⟨hc_74, h⟩
                                · refine regH 26 [(3, .eq (.bool true)), (8, .eq (.bool true)), (17, .eq (.bool true))] [3, 4, 5, 6, 7, 14, 15, 16, 134] [AV.bool (x_66.Kind == 2) = AV.bool true, AV.bool (x_67.Kind == 4) = AV.bool true, AV.bool (decide ((IntKind.i64.wrap (x_66.At - x_67.At)) < r_4.1)) = AV.bool true] (mkS 189 [(3, .ptr 0 0), (4, .ptr 1 0), (5, .int .i64 r_4.1), (6, .sl (r_5.1.map A_api_Near) none), (7, .int .i64 r_5.2.1), (14, .int .i64 many_56), (15, .int .i64 i_47), (16, .int .i64 k_57), (134, .bool (decide ((IntKind.i64.wrap (x_67.At - x_66.At)) < r_4.1)))]) (⟨[(C_bk_Drum r_6.2), (C_api_Float r_3.1), (C_api_Load x_66), (C_api_Load x_67)], []⟩) (by kernel_rfl) ⟨congrArg AV.bool hc_72, congrArg AV.bool hc_73, congrArg AV.bool hc_74, trivial⟩ rfl ?_
                                  (try simp only [reduceCtorEq, AEx.ex.injEq, Nat.reduceEqDiff, if_true, if_false])
                                  exact ⟨_, _, forgetA (m := 189) 2 [] [(3, .ptr 0 0), (4, .ptr 1 0), (5, .int .i64 r_4.1), (6, .sl (r_5.1.map A_api_Near) none), (7, .int .i64 r_5.2.1), (14, .int .i64 many_56), (15, .int .i64 i_47), (16, .int .i64 k_57), (134, .bool (decide ((IntKind.i64.wrap (x_67.At - x_66.At)) < r_4.1)))] [(C_bk_Drum r_6.2), (C_api_Float r_3.1)] [] (by simp) (by simp) ⟨rfl, rfl, rfl, (reN (KL_api_Near _)), rfl, rfl, rfl, rfl, rfl, trivial⟩ (by simp) rfl (by decide), (decide ((IntKind.i64.wrap (x_67.At - x_66.At)) < r_4.1)), h, rfl, rfl⟩
                                · refine regH 26 [(3, .eq (.bool true)), (8, .eq (.bool true)), (17, .eq (.bool false))] [3, 4, 5, 6, 7, 14, 15, 16, 134] [AV.bool (x_66.Kind == 2) = AV.bool true, AV.bool (x_67.Kind == 4) = AV.bool true, AV.bool (decide ((IntKind.i64.wrap (x_66.At - x_67.At)) < r_4.1)) = AV.bool false] (mkS 189 [(3, .ptr 0 0), (4, .ptr 1 0), (5, .int .i64 r_4.1), (6, .sl (r_5.1.map A_api_Near) none), (7, .int .i64 r_5.2.1), (14, .int .i64 many_56), (15, .int .i64 i_47), (16, .int .i64 k_57), (134, .bool false)]) (⟨[(C_bk_Drum r_6.2), (C_api_Float r_3.1), (C_api_Load x_66), (C_api_Load x_67)], []⟩) (by kernel_rfl) ⟨congrArg AV.bool hc_72, congrArg AV.bool hc_73, congrArg AV.bool hc_74, trivial⟩ rfl ?_
                                  (try simp only [reduceCtorEq, AEx.ex.injEq, Nat.reduceEqDiff, if_true, if_false])
                                  exact ⟨_, _, forgetA (m := 189) 2 [] [(3, .ptr 0 0), (4, .ptr 1 0), (5, .int .i64 r_4.1), (6, .sl (r_5.1.map A_api_Near) none), (7, .int .i64 r_5.2.1), (14, .int .i64 many_56), (15, .int .i64 i_47), (16, .int .i64 k_57), (134, .bool false)] [(C_bk_Drum r_6.2), (C_api_Float r_3.1)] [] (by simp) (by simp) ⟨rfl, rfl, rfl, (reN (KL_api_Near _)), rfl, rfl, rfl, rfl, rfl, trivial⟩ (by simp) rfl (by decide), false, h, rfl, rfl⟩
                              · refine regH 26 [(3, .eq (.bool true)), (8, .eq (.bool false))] [3, 4, 5, 6, 7, 14, 15, 16, 134] [AV.bool (x_66.Kind == 2) = AV.bool true, AV.bool (x_67.Kind == 4) = AV.bool false] (mkS 189 [(3, .ptr 0 0), (4, .ptr 1 0), (5, .int .i64 r_4.1), (6, .sl (r_5.1.map A_api_Near) none), (7, .int .i64 r_5.2.1), (14, .int .i64 many_56), (15, .int .i64 i_47), (16, .int .i64 k_57), (134, .bool false)]) (⟨[(C_bk_Drum r_6.2), (C_api_Float r_3.1), (C_api_Load x_66), (C_api_Load x_67)], []⟩) (by kernel_rfl) ⟨congrArg AV.bool hc_72, congrArg AV.bool hc_73, trivial⟩ rfl ?_
                                (try simp only [reduceCtorEq, AEx.ex.injEq, Nat.reduceEqDiff, if_true, if_false])
                                exact ⟨_, _, forgetA (m := 189) 2 [] [(3, .ptr 0 0), (4, .ptr 1 0), (5, .int .i64 r_4.1), (6, .sl (r_5.1.map A_api_Near) none), (7, .int .i64 r_5.2.1), (14, .int .i64 many_56), (15, .int .i64 i_47), (16, .int .i64 k_57), (134, .bool false)] [(C_bk_Drum r_6.2), (C_api_Float r_3.1)] [] (by simp) (by simp) ⟨rfl, rfl, rfl, (reN (KL_api_Near _)), rfl, rfl, rfl, rfl, rfl, trivial⟩ (by simp) rfl (by decide), false, h, rfl, rfl⟩
                            · refine regH 26 [(3, .eq (.bool false))] [3, 4, 5, 6, 7, 14, 15, 16, 134] [AV.bool (x_66.Kind == 2) = AV.bool false] (mkS 189 [(3, .ptr 0 0), (4, .ptr 1 0), (5, .int .i64 r_4.1), (6, .sl (r_5.1.map A_api_Near) none), (7, .int .i64 r_5.2.1), (14, .int .i64 many_56), (15, .int .i64 i_47), (16, .int .i64 k_57), (134, .bool false)]) (⟨[(C_bk_Drum r_6.2), (C_api_Float r_3.1), (C_api_Load x_66), (C_api_Load x_67)], []⟩) (by kernel_rfl) ⟨congrArg AV.bool hc_72, trivial⟩ rfl ?_
                              (try simp only [reduceCtorEq, AEx.ex.injEq, Nat.reduceEqDiff, if_true, if_false])
                              exact ⟨_, _, forgetA (m := 189) 2 [] [(3, .ptr 0 0), (4, .ptr 1 0), (5, .int .i64 r_4.1), (6, .sl (r_5.1.map A_api_Near) none), (7, .int .i64 r_5.2.1), (14, .int .i64 many_56), (15, .int .i64 i_47), (16, .int .i64 k_57), (134, .bool false)] [(C_bk_Drum r_6.2), (C_api_Float r_3.1)] [] (by simp) (by simp) ⟨rfl, rfl, rfl, (reN (KL_api_Near _)), rfl, rfl, rfl, rfl, rfl, trivial⟩ (by simp) rfl (by decide), false, h, rfl, rfl⟩
                          · rintro a S ⟨y_68, h, rfl, rfl⟩
                            subst hK_71
                            rcases condI h with ⟨hc_75, h⟩ | ⟨hc_75, h⟩
                            · refine Ex.condT _ rfl hc_75 ?_
                              refine Ex.seq ?_
                              obtain ⟨K_78, hK_79, h⟩ := letE h
                              refine Ex.seqJ (fun a S => ∃ (y_76 : Bool), K_78 y_76 = some r ∧ a = mkS 189 [(3, .ptr 0 0), (4, .ptr 1 0), (5, .int .i64 r_4.1), (6, .sl (r_5.1.map A_api_Near) none), (7, .int .i64 r_5.2.1), (14, .int .i64 many_56), (15, .int .i64 i_47), (16, .int .i64 k_57), (148, .bool y_76)] ∧ S = ⟨[(C_bk_Drum r_6.2), (C_api_Float r_3.1)], []⟩) ?_ ?_
                              · rcases condI h with ⟨hc_80, h⟩ | ⟨hc_80, h⟩
                                · refine regH 14 [(2, .eq (.int .i64 ((r_5.1.length : Nat) : Int))), (4, .eq (.bool true))] [3, 4, 5, 6, 7, 14, 15, 16, 148] [AV.int .i64 (((r_5.1.map A_api_Near).length : Nat) : Int) = AV.int .i64 ((r_5.1.length : Nat) : Int), AV.bool (decide (many_56 ≥ ((r_5.1.length : Nat) : Int))) = AV.bool true] (mkS 189 [(3, .ptr 0 0), (4, .ptr 1 0), (5, .int .i64 r_4.1), (6, .sl (r_5.1.map A_api_Near) none), (7, .int .i64 r_5.2.1), (14, .int .i64 many_56), (15, .int .i64 i_47), (16, .int .i64 k_57), (148, .bool true)]) (⟨[(C_bk_Drum r_6.2), (C_api_Float r_3.1)], []⟩) (by kernel_rfl) ⟨lenM _ _, congrArg AV.bool hc_80, trivial⟩ rfl ?_
                                  (try simp only [reduceCtorEq, AEx.ex.injEq, Nat.reduceEqDiff, if_true, if_false])
                                  exact ⟨_, _, Forgets.refl _ _ _, true, h, rfl, rfl⟩
                                · obtain ⟨x_81, hx_81, h⟩ := Option.bind_eq_some_iff.1 h
                                  refine regH 14 [(2, .eq (.int .i64 ((r_5.1.length : Nat) : Int))), (4, .eq (.bool false)), (7, .rop (C_api_Near x_81))] [3, 4, 5, 6, 7, 14, 15, 16, 148] [AV.int .i64 (((r_5.1.map A_api_Near).length : Nat) : Int) = AV.int .i64 ((r_5.1.length : Nat) : Int), AV.bool (decide (many_56 ≥ ((r_5.1.length : Nat) : Int))) = AV.bool false, LGet (r_5.1.map A_api_Near) many_56 2 (C_api_Near x_81)] (mkS 189 [(3, .ptr 0 0), (4, .ptr 1 0), (5, .int .i64 r_4.1), (6, .sl (r_5.1.map A_api_Near) none), (7, .int .i64 r_5.2.1), (14, .int .i64 many_56), (15, .int .i64 i_47), (16, .int .i64 k_57), (148, .bool (!((x_81.Power == i_47) && ((x_81.Fire == k_57) && true))))]) (⟨[(C_bk_Drum r_6.2), (C_api_Float r_3.1)], []⟩) (by kernel_rfl) ⟨lenM _ _, congrArg AV.bool hc_80, LGet.of hx_81 rfl, trivial⟩ rfl ?_
                                  (try simp only [reduceCtorEq, AEx.ex.injEq, Nat.reduceEqDiff, if_true, if_false])
                                  exact ⟨_, _, Forgets.refl _ _ _, (!((x_81.Power == i_47) && ((x_81.Fire == k_57) && true))), h, rfl, rfl⟩
                              · rintro a S ⟨y_76, h, rfl, rfl⟩
                                subst hK_79
                                rcases condI h with ⟨hc_82, h⟩ | ⟨hc_82, h⟩
                                · refine Ex.condT _ rfl hc_82 ?_
                                  refine Ex.seq ?_
                                  refine regH 1 [] [2] [] (mkS 189 [(2, .bool false)]) (⟨[(C_bk_Drum r_6.2), (C_api_Float r_3.1)], []⟩) (by kernel_rfl) trivial rfl ?_
                                  refine Ex.ret ?_
                                  obtain rfl := Option.some.inj h
                                  exact ⟨.inr rfl, .bool false, by kernel_rfl, by kernel_rfl, by kernel_rfl, by kernel_rfl⟩
                                · refine Ex.condF _ rfl hc_82 ?_
                                  refine Ex.skip ?_
                                  refine regH 3 [] [3, 4, 5, 6, 7, 14, 15, 16] [] (mkS 189 [(3, .ptr 0 0), (4, .ptr 1 0), (5, .int .i64 r_4.1), (6, .sl (r_5.1.map A_api_Near) none), (7, .int .i64 r_5.2.1), (14, .int .i64 (IntKind.i64.wrap (many_56 + 1))), (15, .int .i64 i_47), (16, .int .i64 k_57)]) (⟨[(C_bk_Drum r_6.2), (C_api_Float r_3.1)], []⟩) (by kernel_rfl) trivial rfl ?_
                                  (try simp only [reduceCtorEq, AEx.ex.injEq, Nat.reduceEqDiff, if_true, if_false])
                                  exact ⟨_, _, Forgets.refl _ _ _, (IntKind.i64.wrap (many_56 + 1)), h, rfl, rfl⟩
                            · refine Ex.condF _ rfl hc_75 ?_
                              refine Ex.skip ?_
                              (try simp only [reduceCtorEq, AEx.ex.injEq, Nat.reduceEqDiff, if_true, if_false])
                              exact ⟨_, _, forgetK [3, 4, 5, 6, 7, 14, 15, 16], many_56, h, rfl, rfl⟩
                      · rintro a S ⟨many_62, h, rfl, rfl⟩
                        subst hK_65
                        refine regH 3 [] [3, 4, 5, 6, 7, 14, 15, 16] [] (mkS 189 [(3, .ptr 0 0), (4, .ptr 1 0), (5, .int .i64 r_4.1), (6, .sl (r_5.1.map A_api_Near) none), (7, .int .i64 r_5.2.1), (14, .int .i64 many_62), (15, .int .i64 i_47), (16, .int .i64 (IntKind.i64.wrap (k_57 + 1)))]) (⟨[(C_bk_Drum r_6.2), (C_api_Float r_3.1)], []⟩) (by kernel_rfl) trivial rfl ?_
                        dsimp only
                        exact ⟨_, _, Forgets.refl _ _ _, k, Nat.lt_succ_self k, many_62, (IntKind.i64.wrap (k_57 + 1)), h, rfl, rfl⟩
                    · refine Ex.condF _ rfl hc_61 ?_
                      refine Ex.exit ?_
                      (try simp only [reduceCtorEq, AEx.ex.injEq, Nat.reduceEqDiff, if_true, if_false])
                      exact ⟨_, _, forgetK [3, 4, 5, 6, 7, 14, 15], many_56, h, rfl, rfl⟩
                · rintro a S ⟨many_52, h, rfl, rfl⟩
                  subst hK_55
                  refine regH 3 [] [3, 4, 5, 6, 7, 14, 15] [] (mkS 189 [(3, .ptr 0 0), (4, .ptr 1 0), (5, .int .i64 r_4.1), (6, .sl (r_5.1.map A_api_Near) none), (7, .int .i64 r_5.2.1), (14, .int .i64 many_52), (15, .int .i64 (IntKind.i64.wrap (i_47 + 1)))]) (⟨[(C_bk_Drum r_6.2), (C_api_Float r_3.1)], []⟩) (by kernel_rfl) trivial rfl ?_
                  dsimp only
                  exact ⟨_, _, Forgets.refl _ _ _, k, Nat.lt_succ_self k, many_52, (IntKind.i64.wrap (i_47 + 1)), h, rfl, rfl⟩
              · refine Ex.condF _ rfl hc_51 ?_
                refine Ex.exit ?_
                (try simp only [reduceCtorEq, AEx.ex.injEq, Nat.reduceEqDiff, if_true, if_false])
                exact ⟨_, _, forgetK [3, 4, 5, 6, 7, 14], many_46, h, rfl, rfl⟩
          · rintro a S ⟨many_42, h, rfl, rfl⟩
            subst hK_45
            refine Ex.seq ?_
            obtain ⟨r_83, hr_83, h⟩ := Option.bind_eq_some_iff.1 h
            refine Ex.reg ?_
            refine runH 1 [] [3, 4, 5, 6, 7, 14, 151] [] (mkS 189 [(3, .ptr 0 0), (4, .ptr 1 0), (5, .int .i64 r_4.1), (6, .sl (r_5.1.map A_api_Near) none), (7, .int .i64 r_5.2.1), (14, .int .i64 many_42), (151, (A_api_Float r_3.1))]) (⟨[(C_bk_Drum r_6.2), (C_api_Float r_3.1)], []⟩) (by kernel_rfl) trivial ?_
            refine ExO.callTokT (t_bk_OwnFloat N r_3.1 r_83 hr_83) [(A_api_Float r_3.1)] rfl rfl rfl (by simp) ?_
            refine runH 2 [] [3, 4, 5, 6, 7, 14, 19] [] (mkS 189 [(3, .ptr 0 0), (4, .ptr 1 0), (5, .int .i64 r_4.1), (6, .sl (r_5.1.map A_api_Near) none), (7, .int .i64 r_5.2.1), (14, .int .i64 many_42), (19, .ptr 2 0)]) (⟨[(C_bk_Drum r_6.2), (C_api_Float r_3.1), [.int .i64 r_83.Length, .int .i64 r_83.Width, .int .i64 r_83.Front, .int .i64 r_83.Rear, .int .i64 r_83.Turn, .int .i64 r_83.Kilos, .int .i64 r_83.Middle, .int .i64 r_83.High, .sl (r_83.Loads.map A_api_Load) (some 0)]], [(r_83.Loads.length, 7)]⟩) (by kernel_rfl) trivial ?_
            refine ExO.nil ?_
            refine Ex.seq ?_
            obtain ⟨r_84, hr_84, h⟩ := Option.bind_eq_some_iff.1 h
            refine Ex.reg ?_
            refine runH 1 [] [4, 5, 6, 7, 14, 19, 153] [] (mkS 189 [(4, .ptr 1 0), (5, .int .i64 r_4.1), (6, .sl (r_5.1.map A_api_Near) none), (7, .int .i64 r_5.2.1), (14, .int .i64 many_42), (19, .ptr 2 0), (153, .ptr 0 0)]) (⟨[(C_bk_Drum r_6.2), (C_api_Float r_3.1), [.int .i64 r_83.Length, .int .i64 r_83.Width, .int .i64 r_83.Front, .int .i64 r_83.Rear, .int .i64 r_83.Turn, .int .i64 r_83.Kilos, .int .i64 r_83.Middle, .int .i64 r_83.High, .sl (r_83.Loads.map A_api_Load) (some 0)]], [(r_83.Loads.length, 7)]⟩) (by kernel_rfl) trivial ?_
            refine ExO.callL [0] [.ptr 0 0, .int .i64 1000001] rfl rfl (by simp; try rfl) rfl (by simp) (d_bk_Drum_Roll N r_6.2 1000001 r_84 hr_84) (b_bk_Drum_Roll _ _ _ _) (by simp) ?_
            refine runH 1 [] [4, 5, 6, 7, 14, 19, 20] [] (mkS 189 [(4, .ptr 1 0), (5, .int .i64 r_4.1), (6, .sl (r_5.1.map A_api_Near) none), (7, .int .i64 r_5.2.1), (14, .int .i64 many_42), (19, .ptr 2 0), (20, .int .i64 r_84.1)]) (⟨[(C_bk_Drum r_84.2), (C_api_Float r_3.1), [.int .i64 r_83.Length, .int .i64 r_83.Width, .int .i64 r_83.Front, .int .i64 r_83.Rear, .int .i64 r_83.Turn, .int .i64 r_83.Kilos, .int .i64 r_83.Middle, .int .i64 r_83.High, .sl (r_83.Loads.map A_api_Load) (some 0)]], [(r_83.Loads.length, 7)]⟩) (by kernel_rfl) trivial ?_
            refine ExO.nil ?_
            refine Ex.seq ?_
            obtain ⟨l_85, hl_85, h⟩ := Option.bind_eq_some_iff.1 h
            refine regH 10 [(7, .app (l_85.map A_api_Load) l_85.length)] [5, 6, 7, 14, 19, 20] [LApp r_83.Loads.length (r_83.Loads.map A_api_Load) (([(⟨r_3.1.Front, (⟨0, 0⟩ : T_api_Span), (⟨0, 0⟩ : T_api_Span), 2, r_84.1⟩ : T_api_Load)] : List T_api_Load).map A_api_Load) 7 (l_85.map A_api_Load) l_85.length] (mkS 189 [(5, .int .i64 r_4.1), (6, .sl (r_5.1.map A_api_Near) none), (7, .int .i64 r_5.2.1), (14, .int .i64 many_42), (19, .ptr 2 0), (20, .int .i64 r_84.1)]) (⟨[(C_bk_Drum r_84.2), (C_api_Float r_3.1), [.int .i64 r_83.Length, .int .i64 r_83.Width, .int .i64 r_83.Front, .int .i64 r_83.Rear, .int .i64 r_83.Turn, .int .i64 r_83.Kilos, .int .i64 r_83.Middle, .int .i64 r_83.High, .sl (l_85.map A_api_Load) (some 0)]], [(l_85.length, 7), (1, 7)]⟩) (by kernel_rfl) ⟨LApp.of hl_85 (fun _ => rfl), trivial⟩ rfl ?_
            refine Ex.seq ?_
            obtain ⟨r_86, hr_86, h⟩ := Option.bind_eq_some_iff.1 h
            refine Ex.reg ?_
            refine runH 2 [] [6, 7, 14, 20, 165, 166] [] (mkS 189 [(6, .sl (r_5.1.map A_api_Near) none), (7, .int .i64 r_5.2.1), (14, .int .i64 many_42), (20, .int .i64 r_84.1), (165, .agg [.int .i64 r_83.Length, .int .i64 r_83.Width, .int .i64 r_83.Front, .int .i64 r_83.Rear, .int .i64 r_83.Turn, .int .i64 r_83.Kilos, .int .i64 r_83.Middle, .int .i64 r_83.High, .sl (l_85.map A_api_Load) (some 0)]), (166, .int .i64 r_4.1)]) (⟨[(C_bk_Drum r_84.2), (C_api_Float r_3.1), [.int .i64 r_83.Length, .int .i64 r_83.Width, .int .i64 r_83.Front, .int .i64 r_83.Rear, .int .i64 r_83.Turn, .int .i64 r_83.Kilos, .int .i64 r_83.Middle, .int .i64 r_83.High, .sl (l_85.map A_api_Load) (some 0)]], [(l_85.length, 7), (1, 7)]⟩) (by kernel_rfl) trivial ?_
            refine ExO.callL [] [.agg [.int .i64 r_83.Length, .int .i64 r_83.Width, .int .i64 r_83.Front, .int .i64 r_83.Rear, .int .i64 r_83.Turn, .int .i64 r_83.Kilos, .int .i64 r_83.Middle, .int .i64 r_83.High, .sl (l_85.map A_api_Load) (some 0)], .int .i64 r_4.1] rfl rfl (a_float_Fire (⟨r_83.Length, r_83.Width, r_83.Front, r_83.Rear, r_83.Turn, r_83.Kilos, r_83.Middle, r_83.High, l_85⟩ : T_api_Float) r_4.1) rfl rfl (d_float_Fire N (⟨r_83.Length, r_83.Width, r_83.Front, r_83.Rear, r_83.Turn, r_83.Kilos, r_83.Middle, r_83.High, l_85⟩ : T_api_Float) r_4.1 r_86 hr_86) (b_float_Fire _ _ _ _) rfl ?_
            refine runH 7 [] [6, 7, 14, 20, 22, 23] [] (mkS 189 [(6, .sl (r_5.1.map A_api_Near) none), (7, .int .i64 r_5.2.1), (14, .int .i64 many_42), (20, .int .i64 r_84.1), (22, .int .i64 r_86.2.1), (23, .int .i64 r_86.2.2)]) (⟨[(C_bk_Drum r_84.2), (C_api_Float r_3.1), [.int .i64 r_83.Length, .int .i64 r_83.Width, .int .i64 r_83.Front, .int .i64 r_83.Rear, .int .i64 r_83.Turn, .int .i64 r_83.Kilos, .int .i64 r_83.Middle, .int .i64 r_83.High, .sl (l_85.map A_api_Load) (some 0)]], [(l_85.length, 7), (1, 7)]⟩) (by kernel_rfl) trivial ?_
            refine ExO.nil ?_
            refine Ex.seq ?_
            rcases condI h with ⟨hc_87, h⟩ | ⟨hc_87, h⟩
            · rcases condI h with ⟨hc_88, h⟩ | ⟨hc_88, h⟩
              · rcases condI h with ⟨hc_89, h⟩ | ⟨hc_89, h⟩
                · obtain ⟨r_90, hr_90, h⟩ := Option.bind_eq_some_iff.1 h
                  refine Ex.reg ?_
                  refine runH 16 [(2, .eq (.int .i64 ((r_5.1.length : Nat) : Int))), (4, .eq (.bool true)), (8, .eq (.bool true)), (15, .eq (.bool true))] [186] [AV.int .i64 (((r_5.1.map A_api_Near).length : Nat) : Int) = AV.int .i64 ((r_5.1.length : Nat) : Int), AV.bool (many_42 == ((r_5.1.length : Nat) : Int)) = AV.bool true, AV.bool (r_86.2.2 == 0) = AV.bool true, AV.bool (r_86.2.1 == (IntKind.i64.wrap (r_5.2.1 + r_84.1))) = AV.bool true] (mkS 189 [(186, .bool true)]) (⟨[(C_bk_Drum r_84.2), (C_api_Float r_3.1), [.int .i64 r_83.Length, .int .i64 r_83.Width, .int .i64 r_83.Front, .int .i64 r_83.Rear, .int .i64 r_83.Turn, .int .i64 r_83.Kilos, .int .i64 r_83.Middle, .int .i64 r_83.High, .sl (l_85.map A_api_Load) (some 0)]], [(l_85.length, 7), (1, 7)]⟩) (by kernel_rfl) ⟨lenM _ _, congrArg AV.bool hc_87, congrArg AV.bool hc_88, congrArg AV.bool hc_89, trivial⟩ ?_
                  refine ExO.callL [] [] rfl rfl (a_bl2_awake) rfl rfl (d_bl2_awake N r_90 hr_90) (b_bl2_awake _ _ _ _) rfl ?_
                  refine runH 2 [] [2] [] (mkS 189 [(2, .bool r_90)]) (⟨[(C_bk_Drum r_84.2), (C_api_Float r_3.1), [.int .i64 r_83.Length, .int .i64 r_83.Width, .int .i64 r_83.Front, .int .i64 r_83.Rear, .int .i64 r_83.Turn, .int .i64 r_83.Kilos, .int .i64 r_83.Middle, .int .i64 r_83.High, .sl (l_85.map A_api_Load) (some 0)]], [(l_85.length, 7), (1, 7)]⟩) (by kernel_rfl) trivial ?_
                  refine ExO.nil ?_
                  refine Ex.ret ?_
                  obtain rfl := Option.some.inj h
                  exact ⟨.inr rfl, .bool r_90, by kernel_rfl, by kernel_rfl, by kernel_rfl, by kernel_rfl⟩
                · refine regH 19 [(2, .eq (.int .i64 ((r_5.1.length : Nat) : Int))), (4, .eq (.bool true)), (8, .eq (.bool true)), (15, .eq (.bool false))] [2] [AV.int .i64 (((r_5.1.map A_api_Near).length : Nat) : Int) = AV.int .i64 ((r_5.1.length : Nat) : Int), AV.bool (many_42 == ((r_5.1.length : Nat) : Int)) = AV.bool true, AV.bool (r_86.2.2 == 0) = AV.bool true, AV.bool (r_86.2.1 == (IntKind.i64.wrap (r_5.2.1 + r_84.1))) = AV.bool false] (mkS 189 [(2, .bool false)]) (⟨[(C_bk_Drum r_84.2), (C_api_Float r_3.1), [.int .i64 r_83.Length, .int .i64 r_83.Width, .int .i64 r_83.Front, .int .i64 r_83.Rear, .int .i64 r_83.Turn, .int .i64 r_83.Kilos, .int .i64 r_83.Middle, .int .i64 r_83.High, .sl (l_85.map A_api_Load) (some 0)]], [(l_85.length, 7), (1, 7)]⟩) (by kernel_rfl) ⟨lenM _ _, congrArg AV.bool hc_87, congrArg AV.bool hc_88, congrArg AV.bool hc_89, trivial⟩ rfl ?_
                  refine Ex.ret ?_
                  obtain rfl := Option.some.inj h
                  exact ⟨.inr rfl, .bool false, by kernel_rfl, by kernel_rfl, by kernel_rfl, by kernel_rfl⟩
              · refine regH 19 [(2, .eq (.int .i64 ((r_5.1.length : Nat) : Int))), (4, .eq (.bool true)), (8, .eq (.bool false))] [2] [AV.int .i64 (((r_5.1.map A_api_Near).length : Nat) : Int) = AV.int .i64 ((r_5.1.length : Nat) : Int), AV.bool (many_42 == ((r_5.1.length : Nat) : Int)) = AV.bool true, AV.bool (r_86.2.2 == 0) = AV.bool false] (mkS 189 [(2, .bool false)]) (⟨[(C_bk_Drum r_84.2), (C_api_Float r_3.1), [.int .i64 r_83.Length, .int .i64 r_83.Width, .int .i64 r_83.Front, .int .i64 r_83.Rear, .int .i64 r_83.Turn, .int .i64 r_83.Kilos, .int .i64 r_83.Middle, .int .i64 r_83.High, .sl (l_85.map A_api_Load) (some 0)]], [(l_85.length, 7), (1, 7)]⟩) (by kernel_rfl) ⟨lenM _ _, congrArg AV.bool hc_87, congrArg AV.bool hc_88, trivial⟩ rfl ?_
                refine Ex.ret ?_
                obtain rfl := Option.some.inj h
                exact ⟨.inr rfl, .bool false, by kernel_rfl, by kernel_rfl, by kernel_rfl, by kernel_rfl⟩
            · refine regH 19 [(2, .eq (.int .i64 ((r_5.1.length : Nat) : Int))), (4, .eq (.bool false))] [2] [AV.int .i64 (((r_5.1.map A_api_Near).length : Nat) : Int) = AV.int .i64 ((r_5.1.length : Nat) : Int), AV.bool (many_42 == ((r_5.1.length : Nat) : Int)) = AV.bool false] (mkS 189 [(2, .bool false)]) (⟨[(C_bk_Drum r_84.2), (C_api_Float r_3.1), [.int .i64 r_83.Length, .int .i64 r_83.Width, .int .i64 r_83.Front, .int .i64 r_83.Rear, .int .i64 r_83.Turn, .int .i64 r_83.Kilos, .int .i64 r_83.Middle, .int .i64 r_83.High, .sl (l_85.map A_api_Load) (some 0)]], [(l_85.length, 7), (1, 7)]⟩) (by kernel_rfl) ⟨lenM _ _, congrArg AV.bool hc_87, trivial⟩ rfl ?_
              refine Ex.ret ?_
              obtain rfl := Option.some.inj h
              exact ⟨.inr rfl, .bool false, by kernel_rfl, by kernel_rfl, by kernel_rfl, by kernel_rfl⟩
end Go.Proofs.Ytfcjcjncfniclaa
end
section
namespace Go.Proofs.Ytfcjcjncfniclaa
open Go.RowKit
set_option linter.unusedVariables false
set_option linter.unusedSimpArgs false
set_option maxRecDepth 10000
set_option maxHeartbeats 4000000

theorem getI_ok {α : Type} {l : List α} {i : Nat} (h : i < l.length) : getI l (i : Int) = some l[i] := by
  rw [getI_nat, List.getElem?_eq_getElem h]
theorem nearEq (x y : T_api_Near) : (x.Power == y.Power && (x.Fire == y.Fire && true)) = true ↔ x = y := by
  cases x; cases y; simp
theorem nearNe {x y : T_api_Near} (h : ¬ x = y) : (x.Power == y.Power && (x.Fire == y.Fire && true)) = false := by
  cases hb : (x.Power == y.Power && (x.Fire == y.Fire && true)) with
  | false => rfl
  | true => exact absurd ((nearEq x y).1 hb) h

theorem apart_p (N : Nat) (zs : List Int) (hN : zs.length + 200000 ≤ N) (hz : zs.length < 9223372036854775808) : p_bl2_FloatApart N zs = some true := by
  unfold p_bl2_FloatApart
  obtain ⟨d2, e⟩ := drumOf_p N zs (by omega) (by omega)
  rw [e, Option.bind_some]; clear e
  obtain ⟨f, d3, e, hf⟩ := floatOf_p N d2 8 (by omega) (by omega) (by omega)
  rw [e, Option.bind_some]; clear e
  dsimp only
  obtain ⟨a0, d4, e, p0, _, p1⟩ := roll_p N d3 400 (by omega)
  have p1 := p1 (by omega)
  rw [e, Option.bind_some]; clear e
  dsimp only
  rw [fire_t N f hf.ok a0 p0 (by omega) (by omega), Option.bind_some]
  obtain ⟨q, d5, e, q0, _, q1⟩ := roll_p N d4 200 (by omega)
  have q1 := q1 (by omega)
  rw [e, Option.bind_some]; clear e
  dsimp only
  rw [w64 (x := a0 + q) (by omega) (by omega), fire_t N f hf.ok (a0 + q) (by omega) (by omega) (by omega), Option.bind_some]
  dsimp only
  have hn := hf.n
  have hn2 : f.Loads.length * f.Loads.length ≤ 8 * 8 := Nat.mul_le_mul (by omega) (by omega)
  have hsub := nr_sub (a := a0) (b := a0 + q) (by omega) f.Loads f.Loads.length
  have hla := nr_len a0 f.Loads f.Loads.length
  have hlb := nr_len (a0 + q) f.Loads f.Loads.length
  generalize nr (a0 + q) f.Loads f.Loads.length = b at hsub hlb ⊢
  simp only [letJ_eq, bne_self_eq_false, cond_false]
  refine loop2_T (fun x => x = some true) (fun at' i => ∃ A B : Nat, at' = (A : Int) ∧ i = (B : Int) ∧ B ≤ (nr a0 f.Loads f.Loads.length).length ∧ A ≤ b.length ∧ ((nr a0 f.Loads f.Loads.length).drop B).Sublist (b.drop A)) (fun at' i => (nr a0 f.Loads f.Loads.length).length - i.toNat) ?_ N 0 0 ⟨0, 0, rfl, rfl, Nat.zero_le _, Nat.zero_le _, hsub⟩ (by omega)
  rintro rec _ _ ⟨A, B, rfl, rfl, hB, hA, hs⟩ ih
  by_cases hlt : B < (nr a0 f.Loads f.Loads.length).length
  · simp only [ltD hlt, cond_true]
    rw [List.drop_eq_getElem_cons hlt] at hs
    refine loop1_T (fun x => x = some true) (fun at' => ∃ C : Nat, at' = (C : Int) ∧ C ≤ b.length ∧ ((nr a0 f.Loads f.Loads.length)[B] :: (nr a0 f.Loads f.Loads.length).drop (B + 1)).Sublist (b.drop C)) (fun at' => b.length - at'.toNat) ?_ N (A : Int) ⟨A, rfl, hA, hs⟩ (by omega)
    rintro rec2 _ ⟨C, rfl, hC, hs2⟩ ih2
    have hlt2 : C < b.length := by
      rcases Nat.lt_or_ge C b.length with h | h
      · exact h
      · rw [List.drop_eq_nil_of_le h] at hs2
        have := hs2.length_le
        simp at this
        omega
    simp only [ltD hlt2, cond_true, getI_ok hlt2, getI_ok hlt, Option.bind_some]
    rw [List.drop_eq_getElem_cons hlt2] at hs2
    by_cases heq : b[C] = (nr a0 f.Loads f.Loads.length)[B]
    · rw [(nearEq _ _).2 heq]
      simp only [Bool.not_true, cond_false, show ((C : Int) == ((b.length : Nat) : Int)) = false from beq_eq_false_iff_ne.2 (by omega), nadd1 B (by omega)]
      refine ih _ _ ⟨C, B + 1, rfl, rfl, by omega, hC, ?_⟩ (by omega)
      rw [heq] at hs2
      have h3 := List.cons_sublist_cons.1 hs2
      rw [List.drop_eq_getElem_cons hlt2]
      exact h3.cons _
    · rw [nearNe heq]
      simp only [Bool.not_false, cond_true, nadd1 C (by omega)]
      refine ih2 _ ⟨C + 1, rfl, by omega, ?_⟩ (by omega)
      rcases List.sublist_cons_iff.1 hs2 with h | ⟨r, h1, h2⟩
      · exact h
      · exact absurd (List.cons.inj h1).1.symm heq
  · have hBe : B = (nr a0 f.Loads f.Loads.length).length := by omega
    simp only [show decide ((B : Int) < (((nr a0 f.Loads f.Loads.length).length : Nat) : Int)) = false from decide_eq_false (by omega), cond_false]
    refine st2z' f.Loads.length (fun i => ((nr a0 f.Loads i).length : Int)) rfl (by omega) ?_ ?_
    · intro rec3
      simp only [ltE, cond_false]
      rw [ownFloat_t N f (by omega), Option.bind_some]
      obtain ⟨w, d6, e, w0, _, w1⟩ := roll_p N d5 1000001 (by omega)
      have w1 := w1 (by omega)
      rw [e, Option.bind_some]; clear e
      dsimp only
      rw [pushI_ok (by simp; omega), Option.bind_some]
      have hg : FlOk ⟨f.Length, f.Width, f.Front, f.Rear, f.Turn, f.Kilos, f.Middle, f.High, f.Loads ++ [⟨f.Front, ⟨0, 0⟩, ⟨0, 0⟩, 2, w⟩]⟩ := by
        have o := hf.ok
        refine ⟨o.l1, o.l2, o.w1, o.w2, o.f1, o.f2, o.f3, o.t1, o.t2, o.k1, o.k2, o.m1, o.m2, o.h1, o.h2, by simp; omega, ?_⟩
        intro l hl
        rcases List.mem_append.1 hl with hl | hl
        · exact o.all l hl
        · obtain rfl : l = ⟨f.Front, ⟨0, 0⟩, ⟨0, 0⟩, 2, w⟩ := by simpa using hl
          exact ⟨Int.le_refl _, Int.le_of_lt o.f2, Int.le_refl _, Int.le_refl _, by show (0 : Int) ≤ 100000; decide, Int.le_refl _, Int.le_refl _, by show (0 : Int) ≤ 2000; decide, by show (1 : Int) ≤ 2; decide, by show (2 : Int) ≤ 4; decide, w0, by show w ≤ 1000000; omega, .inr (.inl rfl)⟩
      rw [fire_t N _ hg a0 p0 (by omega) (by omega), Option.bind_some]
      dsimp only
      rw [pw_more _ _ rfl, lw_more _ _ rfl, wrapA, show pw f.Loads f.Loads.length + w - lw f.Loads f.Loads.length = pw f.Loads f.Loads.length - lw f.Loads f.Loads.length + w by omega]
      simp only [beq_self_eq_true, cond_true]
      rfl
    · intro rec3 i hi
      simp only [ltD hi, cond_true, nadd1 i (by omega)]
      refine st2z' f.Loads.length (fun k => if (ldI f.Loads i).Kind = 2 then ((inn a0 f.Loads i (nr a0 f.Loads i) k).length : Int) else ((nr a0 f.Loads i).length : Int)) ?_ (by omega) ?_ ?_
      · split <;> rfl
      · intro rec4
        simp only [ltE, cond_false]
        conv => rhs; unfold nr
        split <;> rfl
      · intro rec4 k hk
        simp only [ltD hk, cond_true, nadd1 k (by omega), getD_ok hi, getD_ok hk, Option.bind_some]
        by_cases h2 : (ldI f.Loads i).Kind = 2
        · rw [show ((f.Loads[i]?.getD default).Kind == 2) = true from beq_iff_eq.2 h2, cond_true, if_pos h2, if_pos h2]
          have hno : ¬ ((ldI f.Loads k).Kind = 4 ∧ dist (ldI f.Loads i) (ldI f.Loads k) < a0) → inn a0 f.Loads i (nr a0 f.Loads i) (k + 1) = inn a0 f.Loads i (nr a0 f.Loads i) k := fun h => by
            conv => lhs; unfold inn
            rw [if_neg h]
          by_cases h4 : (ldI f.Loads k).Kind = 4
          · rw [show ((f.Loads[k]?.getD default).Kind == 4) = true from beq_iff_eq.2 h4, cond_true]
            by_cases h5 : IntKind.i64.wrap ((ldI f.Loads i).At - (ldI f.Loads k).At) < a0
            · rw [show decide (IntKind.i64.wrap ((f.Loads[i]?.getD default).At - (f.Loads[k]?.getD default).At) < a0) = true from decide_eq_true h5, cond_true]
              by_cases h6 : IntKind.i64.wrap ((ldI f.Loads k).At - (ldI f.Loads i).At) < a0
              · rw [show decide (IntKind.i64.wrap ((f.Loads[k]?.getD default).At - (f.Loads[i]?.getD default).At) < a0) = true from decide_eq_true h6, cond_true]
                have hd := (dist_lt _ _ _).2 ⟨h5, h6⟩
                have hat := inn_at a0 f.Loads i k hi hk h2 ⟨h4, hd⟩
                have hlt3 : (inn a0 f.Loads i (nr a0 f.Loads i) k).length < (nr a0 f.Loads f.Loads.length).length := (List.getElem?_eq_some_iff.1 hat).1
                have hyes : inn a0 f.Loads i (nr a0 f.Loads i) (k + 1) = inn a0 f.Loads i (nr a0 f.Loads i) k ++ [⟨(i : Int), (k : Int)⟩] := by
                  conv => lhs; unfold inn
                  rw [if_pos ⟨h4, hd⟩]
                rw [show decide (((inn a0 f.Loads i (nr a0 f.Loads i) k).length : Int) ≥ (((nr a0 f.Loads f.Loads.length).length : Nat) : Int)) = false from decide_eq_false (by omega), cond_false, getI_nat, hat, Option.bind_some]
                simp only [beq_self_eq_true, Bool.and_self, Bool.not_true, cond_false, hyes, List.length_append, List.length_cons, List.length_nil]
                rw [nadd1 _ (by omega)]
              · rw [show decide (IntKind.i64.wrap ((f.Loads[k]?.getD default).At - (f.Loads[i]?.getD default).At) < a0) = false from decide_eq_false h6, cond_false, hno (fun h => h6 ((dist_lt _ _ _).1 h.2).2)]
            · rw [show decide (IntKind.i64.wrap ((f.Loads[i]?.getD default).At - (f.Loads[k]?.getD default).At) < a0) = false from decide_eq_false h5, cond_false, hno (fun h => h5 ((dist_lt _ _ _).1 h.2).1)]
          · rw [show ((f.Loads[k]?.getD default).Kind == 4) = false from beq_eq_false_iff_ne.2 h4, cond_false, hno (fun h => h4 h.1)]
        · rw [show ((f.Loads[i]?.getD default).Kind == 2) = false from beq_eq_false_iff_ne.2 h2, cond_false, if_neg h2, if_neg h2]
theorem apart_m (zs : List Int) (h : zs.length < 9223372036854775808) : Does Try.prog 8 [.sl (zs.map (AV.int .i64)) none] [] fun v _ => v = .bool true :=
  (d_bl2_FloatApart _ zs true (apart_p _ zs (Nat.le_refl _) h)).mono fun v c h => h.1
end Go.Proofs.Ytfcjcjncfniclaa
end
section
namespace Go.Proofs.Ytfcjcjncfniclaa
open Go.RowKit Go.ChangeShapes Go.WideShapes Go.ChangeAt
set_option linter.unusedVariables false
set_option linter.unusedSimpArgs false

def nums (zs : List Int) : AV := .sl (zs.map fun z => .int .i64 z) none
theorem prog_own : ownKnob Try.prog.godebug = none := by kernel_rfl
theorem prog_laid : laidOutB Try.prog = true := by kernel_rfl

namespace floatApart
set_option maxRecDepth 100000 in
theorem lifted (hM : ∀ zs : List Int, (∀ z ∈ zs, (Lit.int .i64 z).wf = true) → zs.length ≤ maxLen → Does Try.prog 8 [nums zs] [] fun v _ => v = .bool true) (os : Os) (started : os.Started) (H : Type) (enc : TypeId × Value → H) :
    ReturnsInHanded {} Try.checked os 8 .any (Rows.floatApartSpec.pre6 enc Try.prog Try.f8 Rows.floatApartRow.domain false) (Rows.floatApartSpec.post enc Try.prog Try.f8 false true false false) := by
  refine returnsInHanded_of_change (C := Try.checked) prog_own started (by kernel_rfl) Try.func8
    (ChangeSpec.witness6 (enc := enc) (C := Try.checked) false ⟨#[], #[.slice none 0 0], []⟩ 8 (by kernel_rfl) (by kernel_rfl) (by kernel_rfl) (by kernel_rfl)) ?_
  intro W base args ds gs before hval0 hW hcnd _
  have hval : ∀ (j : Nat) t v, Try.f8.params[j]? = some t → args[j]? = some v → Value.okWide Try.prog W .any base t v := hval0
  have hW' := hW
  obtain ⟨p, q, hA0, hV, rfl, hfz, hnd⟩ := hW
  have hA : DataW.TrodAll enc Try.prog W 0 (fun _ => true) true Try.f8.params.toList args.toList ds p := hA0
  rw [Try.params8] at hA hval
  obtain ⟨v0, vs0, d0, ds0, p0, q0, hargs, rfl, rfl, h0, r0⟩ := trodAll_cons hA
  obtain ⟨rfl, rfl, rfl⟩ := trodAll_nil r0
  obtain rfl : args = #[v0] := by cases args; simp_all
  obtain ⟨rfl, rfl⟩ := trodVars_none hV
  obtain ⟨a0, len0, cap0, rfl⟩ := okWide_slice Try.underlying29 (hval 0 29 v0 rfl rfl)
  have k0 := h0
  have lt0 : ∀ x ∈ p0, x.block < W.heap.size := by obtain ⟨m, hm⟩ := k0; exact DataW.trod_lt m _ _ _ hm
  obtain ⟨zs, hwf, hlen, hvr⟩ := ints_vr Try.underlying29 Try.underlying3 (by kernel_rfl) h0
  clear hA0 hval0
  refine ((hM zs hwf hlen).law (us := #[.slice a0 len0 cap0]) ⟨rfl, fun i x u hx hu => ?_⟩).mono fun e W' ⟨he, bel⟩ => ?_
  · cases i with
    | zero => simp at hx hu; subst hx; subst hu; exact hvr
    | succ i => simp at hx
  subst he
  exact ⟨_, rfl, _, _, _, [], _, [], hW', trodAll_mk1 (shut_bool Try.underlying4 _), (trodAll_cons_mk (Below.trod prog_laid (by kernel_rfl) (of_decide_eq_true (by kernel_rfl)) k0 bel lt0) trodAll_mk0), rfl, bel.frame _, fun h => by cases h⟩

theorem frame (hM : ∀ zs : List Int, (∀ z ∈ zs, (Lit.int .i64 z).wf = true) → zs.length ≤ maxLen → Does Try.prog 8 [nums zs] [] fun v _ => v = .bool true) : Rows.FloatApartSaid :=
  OpenClaim.holds_of_wide 8 Try.f8 rfl rfl rfl rfl rfl rfl rfl ⟨rfl, rfl, rfl, rfl, rfl⟩ rfl rfl rfl rfl rfl (by kernel_rfl) Try.func8 (by kernel_rfl)
    (of_decide_eq_true (by kernel_rfl)) (by unfold Func.isWrapper; first | (rw [if_pos (by decide +kernel)]; kernel_rfl) | (rw [if_neg (by decide +kernel)]; exact ⟨rfl, rfl⟩))
    (fun os started H enc _ => lifted hM os started H enc)
end floatApart
end Go.Proofs.Ytfcjcjncfniclaa
end
