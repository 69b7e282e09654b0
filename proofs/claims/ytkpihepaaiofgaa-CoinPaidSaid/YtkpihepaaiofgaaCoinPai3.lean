/- Part 4 of what the law needs: own work, put together. -/
import Derived.Test.YtkpihepaaiofgaaCoinPai2
section
namespace Go.Proofs.Ytkpihepaaiofgaa
open Go.RowKit
set_option linter.unusedVariables false
set_option linter.unusedSimpArgs false
set_option maxRecDepth 10000
set_option maxHeartbeats 4000000
attribute [local simp] ren ren1 AV.plain AV.plain1 AV.clean cleanL cleanI cleanBo cleanSt cleanII KL_bk_Drum KL_api_Fund KL_api_Bill KL_api_Ledger A_bk_Drum C_bk_Drum A_api_Fund C_api_Fund A_api_Bill C_api_Bill A_api_Ledger C_api_Ledger back back1 re re1 List.idxOf? List.findIdx? List.findIdx?.go KB_bk_Drum KB_api_Fund KB_api_Bill KB_api_Ledger fadeS fadeV
def p_coin_within (N : Nat) (n_1 : Int) (least_2 : Int) (most_3 : Int) : Option (Bool) := (bif (decide (n_1 ≥ least_2)) then some (decide (n_1 ≤ most_3)) else some false)
def v_coin_within (r : Bool) : AV := .bool r
attribute [local simp] v_coin_within
theorem a_coin_within (n_1 : Int) (least_2 : Int) (most_3 : Int) : [.int .i64 n_1, .int .i64 least_2, .int .i64 most_3].mapM (ren []) = some [.int .i64 n_1, .int .i64 least_2, .int .i64 most_3] := by simp
theorem b_coin_within (r : Bool) (n n2 m : Nat) : back n n2 m (v_coin_within r) = some (v_coin_within r) := by simp
theorem d_coin_within (N : Nat) (n_1 : Int) (least_2 : Int) (most_3 : Int) (r : Bool) (h : p_coin_within N n_1 least_2 most_3 = some r) : Does Try.prog 60 [.int .i64 n_1, .int .i64 least_2, .int .i64 most_3] [] fun v c => v = v_coin_within r ∧ c = [] := by
  unfold p_coin_within at h
  refine Does.ofL comp60 _ _ rfl rfl ?_
  refine Ex.seq ?_
  refine regH 1 [] [0, 1, 2] [] (mkS 15 [(0, .int .i64 n_1), (1, .int .i64 least_2), (2, .int .i64 most_3)]) (⟨[], []⟩) (by kernel_rfl) trivial rfl ?_
  refine Ex.seq ?_
  rcases condI h with ⟨hc_4, h⟩ | ⟨hc_4, h⟩
  · refine regH 9 [(3, .eq (.bool true))] [6] [AV.bool (decide (n_1 ≥ least_2)) = AV.bool true] (mkS 15 [(6, .bool (decide (n_1 ≤ most_3)))]) (⟨[], []⟩) (by kernel_rfl) ⟨congrArg AV.bool hc_4, trivial⟩ rfl ?_
    refine Ex.ret ?_
    obtain rfl := Option.some.inj h
    exact ⟨.inr rfl, .bool (decide (n_1 ≤ most_3)), by kernel_rfl, by kernel_rfl, by kernel_rfl, by kernel_rfl⟩
  · refine regH 9 [(3, .eq (.bool false))] [6] [AV.bool (decide (n_1 ≥ least_2)) = AV.bool false] (mkS 15 [(6, .bool false)]) (⟨[], []⟩) (by kernel_rfl) ⟨congrArg AV.bool hc_4, trivial⟩ rfl ?_
    refine Ex.ret ?_
    obtain rfl := Option.some.inj h
    exact ⟨.inr rfl, .bool false, by kernel_rfl, by kernel_rfl, by kernel_rfl, by kernel_rfl⟩
def p_coin_isDate (N : Nat) (n_1 : Int) : Option (Bool) := ((p_coin_within N n_1 0 3650).bind fun r_2 => some r_2)
def v_coin_isDate (r : Bool) : AV := .bool r
attribute [local simp] v_coin_isDate
theorem a_coin_isDate (n_1 : Int) : [.int .i64 n_1].mapM (ren []) = some [.int .i64 n_1] := by simp
theorem b_coin_isDate (r : Bool) (n n2 m : Nat) : back n n2 m (v_coin_isDate r) = some (v_coin_isDate r) := by simp
theorem d_coin_isDate (N : Nat) (n_1 : Int) (r : Bool) (h : p_coin_isDate N n_1 = some r) : Does Try.prog 65 [.int .i64 n_1] [] fun v c => v = v_coin_isDate r ∧ c = [] := by
  unfold p_coin_isDate at h
  refine Does.ofL comp65 _ _ rfl rfl ?_
  refine Ex.seq ?_
  refine regH 1 [] [0] [] (mkS 5 [(0, .int .i64 n_1)]) (⟨[], []⟩) (by kernel_rfl) trivial rfl ?_
  refine Ex.seq ?_
  obtain ⟨r_2, hr_2, h⟩ := Option.bind_eq_some_iff.1 h
  refine Ex.reg ?_
  refine runH 1 [] [3] [] (mkS 5 [(3, .int .i64 n_1)]) (⟨[], []⟩) (by kernel_rfl) trivial ?_
  refine ExO.callL [] [.int .i64 n_1, .int .i64 0, .int .i64 3650] rfl rfl (a_coin_within n_1 0 3650) rfl rfl (d_coin_within N n_1 0 3650 r_2 hr_2) (b_coin_within _ _ _ _) rfl ?_
  refine runH 1 [] [2] [] (mkS 5 [(2, .bool r_2)]) (⟨[], []⟩) (by kernel_rfl) trivial ?_
  refine ExO.nil ?_
  refine Ex.ret ?_
  obtain rfl := Option.some.inj h
  exact ⟨.inr rfl, .bool r_2, by kernel_rfl, by kernel_rfl, by kernel_rfl, by kernel_rfl⟩
def p_coin_isAmount (N : Nat) (n_1 : Int) : Option (Bool) := ((p_coin_within N n_1 0 1000000000).bind fun r_2 => some r_2)
def v_coin_isAmount (r : Bool) : AV := .bool r
attribute [local simp] v_coin_isAmount
theorem a_coin_isAmount (n_1 : Int) : [.int .i64 n_1].mapM (ren []) = some [.int .i64 n_1] := by simp
theorem b_coin_isAmount (r : Bool) (n n2 m : Nat) : back n n2 m (v_coin_isAmount r) = some (v_coin_isAmount r) := by simp
theorem d_coin_isAmount (N : Nat) (n_1 : Int) (r : Bool) (h : p_coin_isAmount N n_1 = some r) : Does Try.prog 67 [.int .i64 n_1] [] fun v c => v = v_coin_isAmount r ∧ c = [] := by
  unfold p_coin_isAmount at h
  refine Does.ofL comp67 _ _ rfl rfl ?_
  refine Ex.seq ?_
  refine regH 1 [] [0] [] (mkS 5 [(0, .int .i64 n_1)]) (⟨[], []⟩) (by kernel_rfl) trivial rfl ?_
  refine Ex.seq ?_
  obtain ⟨r_2, hr_2, h⟩ := Option.bind_eq_some_iff.1 h
  refine Ex.reg ?_
  refine runH 1 [] [3] [] (mkS 5 [(3, .int .i64 n_1)]) (⟨[], []⟩) (by kernel_rfl) trivial ?_
  refine ExO.callL [] [.int .i64 n_1, .int .i64 0, .int .i64 1000000000] rfl rfl (a_coin_within n_1 0 1000000000) rfl rfl (d_coin_within N n_1 0 1000000000 r_2 hr_2) (b_coin_within _ _ _ _) rfl ?_
  refine runH 1 [] [2] [] (mkS 5 [(2, .bool r_2)]) (⟨[], []⟩) (by kernel_rfl) trivial ?_
  refine ExO.nil ?_
  refine Ex.ret ?_
  obtain rfl := Option.some.inj h
  exact ⟨.inr rfl, .bool r_2, by kernel_rfl, by kernel_rfl, by kernel_rfl, by kernel_rfl⟩
def p_coin_isUse (N : Nat) (n_1 : Int) : Option (Bool) := ((p_coin_within N n_1 0 7).bind fun r_2 => some r_2)
def v_coin_isUse (r : Bool) : AV := .bool r
attribute [local simp] v_coin_isUse
theorem a_coin_isUse (n_1 : Int) : [.int .i64 n_1].mapM (ren []) = some [.int .i64 n_1] := by simp
theorem b_coin_isUse (r : Bool) (n n2 m : Nat) : back n n2 m (v_coin_isUse r) = some (v_coin_isUse r) := by simp
theorem d_coin_isUse (N : Nat) (n_1 : Int) (r : Bool) (h : p_coin_isUse N n_1 = some r) : Does Try.prog 66 [.int .i64 n_1] [] fun v c => v = v_coin_isUse r ∧ c = [] := by
  unfold p_coin_isUse at h
  refine Does.ofL comp66 _ _ rfl rfl ?_
  refine Ex.seq ?_
  refine regH 1 [] [0] [] (mkS 5 [(0, .int .i64 n_1)]) (⟨[], []⟩) (by kernel_rfl) trivial rfl ?_
  refine Ex.seq ?_
  obtain ⟨r_2, hr_2, h⟩ := Option.bind_eq_some_iff.1 h
  refine Ex.reg ?_
  refine runH 1 [] [3] [] (mkS 5 [(3, .int .i64 n_1)]) (⟨[], []⟩) (by kernel_rfl) trivial ?_
  refine ExO.callL [] [.int .i64 n_1, .int .i64 0, .int .i64 7] rfl rfl (a_coin_within n_1 0 7) rfl rfl (d_coin_within N n_1 0 7 r_2 hr_2) (b_coin_within _ _ _ _) rfl ?_
  refine runH 1 [] [2] [] (mkS 5 [(2, .bool r_2)]) (⟨[], []⟩) (by kernel_rfl) trivial ?_
  refine ExO.nil ?_
  refine Ex.ret ?_
  obtain rfl := Option.some.inj h
  exact ⟨.inr rfl, .bool r_2, by kernel_rfl, by kernel_rfl, by kernel_rfl, by kernel_rfl⟩
def p_coin_checkUses (N : Nat) (uses_1 : (List Int)) : Option (Int) := (letJ (fun (_ : Unit) => some 0) (fun k_2 => (loop1 (fun rec_6 (y_5 : Int) => (bif (decide (y_5 < ((uses_1.length : Nat) : Int))) then ((getI uses_1 y_5).bind fun x_10 => ((p_coin_isUse N x_10).bind fun r_11 => (bif (!r_11) then some 2 else (letJ (fun (y_13 : Bool) => (bif y_13 then some 9 else (rec_6 (IntKind.i64.wrap (y_5 + 1))))) (fun k_14 => (bif (decide (y_5 > 0)) then ((getI uses_1 (IntKind.i64.wrap (y_5 - 1))).bind fun x_18 => (k_14 (decide (x_10 ≤ x_18)))) else (k_14 false))))))) else (k_2 ()))) N 0)))
def v_coin_checkUses (r : Int) : AV := .int .i64 r
attribute [local simp] v_coin_checkUses
theorem a_coin_checkUses (uses_1 : (List Int)) : [.sl (uses_1.map (AV.int .i64)) none].mapM (ren []) = some [.sl (uses_1.map (AV.int .i64)) none] := by simp
theorem b_coin_checkUses (r : Int) (n n2 m : Nat) : back n n2 m (v_coin_checkUses r) = some (v_coin_checkUses r) := by simp
theorem d_coin_checkUses (N : Nat) (uses_1 : (List Int)) (r : Int) (h : p_coin_checkUses N uses_1 = some r) : Does Try.prog 97 [.sl (uses_1.map (AV.int .i64)) none] [] fun v c => v = v_coin_checkUses r ∧ c = [] := by
  unfold p_coin_checkUses at h
  refine Does.ofL comp97 _ _ rfl rfl ?_
  refine Ex.seq ?_
  refine regH 1 [] [0] [] (mkS 29 [(0, .sl (uses_1.map (AV.int .i64)) none)]) (⟨[], []⟩) (by kernel_rfl) trivial rfl ?_
  refine Ex.seq ?_
  refine Ex.seq ?_
  refine regH 3 [(1, .eq (.int .i64 ((uses_1.length : Nat) : Int)))] [0, 5, 6, 7] [AV.int .i64 (((uses_1.map (AV.int .i64)).length : Nat) : Int) = AV.int .i64 ((uses_1.length : Nat) : Int)] (mkS 29 [(0, .sl (uses_1.map (AV.int .i64)) none), (5, .sl (uses_1.map (AV.int .i64)) none), (6, .int .i64 ((uses_1.length : Nat) : Int)), (7, .int .i64 0)]) (⟨[], []⟩) (by kernel_rfl) ⟨lenM _ _, trivial⟩ rfl ?_
  obtain ⟨K_3, hK_4, h⟩ := letE h
  refine Ex.blockJ (fun a S => K_3 () = some r ∧ a = mkS 29 [] ∧ S = ⟨[], []⟩) ?_ ?_
  · obtain ⟨B_7, hB_8, h⟩ := loop1I h
    refine Ex.loopF (fun k a S => ∃ (y_5 : Int), loop1 B_7 k y_5 = some r ∧ a = mkS 29 [(0, .sl (uses_1.map (AV.int .i64)) none), (5, .sl (uses_1.map (AV.int .i64)) none), (6, .int .i64 ((uses_1.length : Nat) : Int)), (7, .int .i64 y_5)] ∧ S = ⟨[], []⟩) N ⟨_, _, Forgets.refl _ _ _, 0, h, rfl, rfl⟩ ?_
    rintro k a S ⟨y_5, h, rfl, rfl⟩
    cases k with
    | zero => exact (loop1Z h).elim
    | succ k =>
      replace h := loop1S h hB_8
      refine Ex.seq ?_
      refine regH 1 [] [0, 5, 6, 7, 8] [] (mkS 29 [(0, .sl (uses_1.map (AV.int .i64)) none), (5, .sl (uses_1.map (AV.int .i64)) none), (6, .int .i64 ((uses_1.length : Nat) : Int)), (7, .int .i64 y_5), (8, .bool (decide (y_5 < ((uses_1.length : Nat) : Int))))]) (⟨[], []⟩) (by kernel_rfl) trivial rfl ?_
      refine Ex.seq ?_
      rcases condI h with ⟨hc_9, h⟩ | ⟨hc_9, h⟩
      · refine Ex.condT _ rfl hc_9 ?_
        refine Ex.skip ?_
        refine Ex.seq ?_
        refine Ex.blockK ?_
        refine Ex.seq ?_
        obtain ⟨x_10, hx_10, h⟩ := Option.bind_eq_some_iff.1 h
        refine regH 5 [(1, .rop [.int .i64 x_10])] [0, 3, 4, 5, 6, 7] [LGet (uses_1.map (AV.int .i64)) y_5 1 [.int .i64 x_10]] (mkS 29 [(0, .sl (uses_1.map (AV.int .i64)) none), (3, .int .i64 y_5), (4, .int .i64 x_10), (5, .sl (uses_1.map (AV.int .i64)) none), (6, .int .i64 ((uses_1.length : Nat) : Int)), (7, .int .i64 y_5)]) (⟨[], []⟩) (by kernel_rfl) ⟨LGet.of hx_10 rfl, trivial⟩ rfl ?_
        refine Ex.blockK ?_
        refine Ex.seq ?_
        obtain ⟨r_11, hr_11, h⟩ := Option.bind_eq_some_iff.1 h
        refine Ex.reg ?_
        refine runH 1 [] [0, 3, 4, 5, 6, 7, 13] [] (mkS 29 [(0, .sl (uses_1.map (AV.int .i64)) none), (3, .int .i64 y_5), (4, .int .i64 x_10), (5, .sl (uses_1.map (AV.int .i64)) none), (6, .int .i64 ((uses_1.length : Nat) : Int)), (7, .int .i64 y_5), (13, .int .i64 x_10)]) (⟨[], []⟩) (by kernel_rfl) trivial ?_
        refine ExO.callL [] [.int .i64 x_10] rfl rfl (a_coin_isUse x_10) rfl rfl (d_coin_isUse N x_10 r_11 hr_11) (b_coin_isUse _ _ _ _) rfl ?_
        refine runH 2 [] [0, 3, 4, 5, 6, 7, 12] [] (mkS 29 [(0, .sl (uses_1.map (AV.int .i64)) none), (3, .int .i64 y_5), (4, .int .i64 x_10), (5, .sl (uses_1.map (AV.int .i64)) none), (6, .int .i64 ((uses_1.length : Nat) : Int)), (7, .int .i64 y_5), (12, .bool (!r_11))]) (⟨[], []⟩) (by kernel_rfl) trivial ?_
        refine ExO.nil ?_
        rcases condI h with ⟨hc_12, h⟩ | ⟨hc_12, h⟩
        · refine Ex.condT _ rfl hc_12 ?_
          refine Ex.seq ?_
          refine regH 1 [] [2] [] (mkS 29 [(2, .int .i64 2)]) (⟨[], []⟩) (by kernel_rfl) trivial rfl ?_
          refine Ex.ret ?_
          obtain rfl := Option.some.inj h
          exact ⟨.inr rfl, .int .i64 2, by kernel_rfl, by kernel_rfl, by kernel_rfl, by kernel_rfl⟩
        · refine Ex.condF _ rfl hc_12 ?_
          obtain ⟨K_15, hK_16, h⟩ := letE h
          refine Ex.seqJ (fun a S => ∃ (y_13 : Bool), K_15 y_13 = some r ∧ a = mkS 29 [(0, .sl (uses_1.map (AV.int .i64)) none), (5, .sl (uses_1.map (AV.int .i64)) none), (6, .int .i64 ((uses_1.length : Nat) : Int)), (7, .int .i64 y_5), (16, .bool y_13)] ∧ S = ⟨[], []⟩) ?_ ?_
          · rcases condI h with ⟨hc_17, h⟩ | ⟨hc_17, h⟩
            · obtain ⟨x_18, hx_18, h⟩ := Option.bind_eq_some_iff.1 h
              refine regH 12 [(2, .eq (.bool true)), (7, .rop [.int .i64 x_18])] [0, 5, 6, 7, 16] [AV.bool (decide (y_5 > 0)) = AV.bool true, LGet (uses_1.map (AV.int .i64)) (IntKind.i64.wrap (y_5 - 1)) 1 [.int .i64 x_18]] (mkS 29 [(0, .sl (uses_1.map (AV.int .i64)) none), (5, .sl (uses_1.map (AV.int .i64)) none), (6, .int .i64 ((uses_1.length : Nat) : Int)), (7, .int .i64 y_5), (16, .bool (decide (x_10 ≤ x_18)))]) (⟨[], []⟩) (by kernel_rfl) ⟨congrArg AV.bool hc_17, LGet.of hx_18 rfl, trivial⟩ rfl ?_
              (try simp only [reduceCtorEq, AEx.ex.injEq, Nat.reduceEqDiff, if_true, if_false])
              exact ⟨_, _, Forgets.refl _ _ _, (decide (x_10 ≤ x_18)), h, rfl, rfl⟩
            · refine regH 12 [(2, .eq (.bool false))] [0, 5, 6, 7, 16] [AV.bool (decide (y_5 > 0)) = AV.bool false] (mkS 29 [(0, .sl (uses_1.map (AV.int .i64)) none), (5, .sl (uses_1.map (AV.int .i64)) none), (6, .int .i64 ((uses_1.length : Nat) : Int)), (7, .int .i64 y_5), (16, .bool false)]) (⟨[], []⟩) (by kernel_rfl) ⟨congrArg AV.bool hc_17, trivial⟩ rfl ?_
              (try simp only [reduceCtorEq, AEx.ex.injEq, Nat.reduceEqDiff, if_true, if_false])
              exact ⟨_, _, Forgets.refl _ _ _, false, h, rfl, rfl⟩
          · rintro a S ⟨y_13, h, rfl, rfl⟩
            subst hK_16
            rcases condI h with ⟨hc_19, h⟩ | ⟨hc_19, h⟩
            · refine Ex.condT _ rfl hc_19 ?_
              refine Ex.seq ?_
              refine regH 1 [] [2] [] (mkS 29 [(2, .int .i64 9)]) (⟨[], []⟩) (by kernel_rfl) trivial rfl ?_
              refine Ex.ret ?_
              obtain rfl := Option.some.inj h
              exact ⟨.inr rfl, .int .i64 9, by kernel_rfl, by kernel_rfl, by kernel_rfl, by kernel_rfl⟩
            · refine Ex.condF _ rfl hc_19 ?_
              refine Ex.skip ?_
              refine regH 2 [] [0, 5, 6, 7] [] (mkS 29 [(0, .sl (uses_1.map (AV.int .i64)) none), (5, .sl (uses_1.map (AV.int .i64)) none), (6, .int .i64 ((uses_1.length : Nat) : Int)), (7, .int .i64 (IntKind.i64.wrap (y_5 + 1)))]) (⟨[], []⟩) (by kernel_rfl) trivial rfl ?_
              dsimp only
              exact ⟨_, _, Forgets.refl _ _ _, k, Nat.lt_succ_self k, (IntKind.i64.wrap (y_5 + 1)), h, rfl, rfl⟩
      · refine Ex.condF _ rfl hc_9 ?_
        refine Ex.exit ?_
        (try simp only [reduceCtorEq, AEx.ex.injEq, Nat.reduceEqDiff, if_true, if_false])
        exact ⟨_, _, forgetK [], h, rfl, rfl⟩
  · rintro a S ⟨h, rfl, rfl⟩
    subst hK_4
    refine Ex.seq ?_
    refine regH 1 [] [2] [] (mkS 29 [(2, .int .i64 0)]) (⟨[], []⟩) (by kernel_rfl) trivial rfl ?_
    refine Ex.ret ?_
    obtain rfl := Option.some.inj h
    exact ⟨.inr rfl, .int .i64 0, by kernel_rfl, by kernel_rfl, by kernel_rfl, by kernel_rfl⟩
def p_coin_checkFund (N : Nat) (f_1 : T_api_Fund) : Option (Int) := (letJ (fun (y_2 : Bool) => (bif y_2 then some 2 else (bif (decide (f_1.Day > f_1.Until)) then some 9 else ((p_coin_isAmount N f_1.Amount).bind fun r_11 => (bif (!r_11) then some 2 else (bif (decide (((f_1.Uses.length : Nat) : Int) > 8)) then some 5 else ((p_coin_checkUses N f_1.Uses).bind fun r_14 => some r_14))))))) (fun k_3 => ((p_coin_isDate N f_1.Day).bind fun r_6 => (bif (!r_6) then (k_3 true) else ((p_coin_isDate N f_1.Until).bind fun r_8 => (k_3 (!r_8)))))))
def v_coin_checkFund (r : Int) : AV := .int .i64 r
attribute [local simp] v_coin_checkFund
theorem a_coin_checkFund (f_1 : T_api_Fund) : [(A_api_Fund f_1)].mapM (ren []) = some [(A_api_Fund f_1)] := by simp
theorem b_coin_checkFund (r : Int) (n n2 m : Nat) : back n n2 m (v_coin_checkFund r) = some (v_coin_checkFund r) := by simp
theorem d_coin_checkFund (N : Nat) (f_1 : T_api_Fund) (r : Int) (h : p_coin_checkFund N f_1 = some r) : Does Try.prog 64 [(A_api_Fund f_1)] [] fun v c => v = v_coin_checkFund r ∧ c = [] := by
  unfold p_coin_checkFund at h
  refine Does.ofL comp64 _ _ rfl rfl ?_
  refine Ex.seq ?_
  refine regH 2 [] [1] [] (mkS 33 [(1, .ptr 0 0)]) (⟨[(C_api_Fund f_1)], []⟩) (by kernel_rfl) trivial rfl ?_
  refine Ex.seq ?_
  refine Ex.blockK ?_
  obtain ⟨K_4, hK_5, h⟩ := letE h
  refine Ex.seqJ (fun a S => ∃ (y_2 : Bool), K_4 y_2 = some r ∧ a = mkS 33 [(1, .ptr 0 0), (3, .bool y_2)] ∧ S = ⟨[(C_api_Fund f_1)], []⟩) ?_ ?_
  · obtain ⟨r_6, hr_6, h⟩ := Option.bind_eq_some_iff.1 h
    refine Ex.reg ?_
    refine runH 2 [] [1, 5] [] (mkS 33 [(1, .ptr 0 0), (5, .int .i64 f_1.Day)]) (⟨[(C_api_Fund f_1)], []⟩) (by kernel_rfl) trivial ?_
    refine ExO.callL [] [.int .i64 f_1.Day] rfl rfl (a_coin_isDate f_1.Day) rfl rfl (d_coin_isDate N f_1.Day r_6 hr_6) (b_coin_isDate _ _ _ _) rfl ?_
    rcases condI h with ⟨hc_7, h⟩ | ⟨hc_7, h⟩
    · refine runH 8 [(1, .eq (.bool true))] [1, 3] [AV.bool (!r_6) = AV.bool true] (mkS 33 [(1, .ptr 0 0), (3, .bool true)]) (⟨[(C_api_Fund f_1)], []⟩) (by kernel_rfl) ⟨congrArg AV.bool hc_7, trivial⟩ ?_
      refine ExO.nil ?_
      (try simp only [reduceCtorEq, AEx.ex.injEq, Nat.reduceEqDiff, if_true, if_false])
      exact ⟨_, _, Forgets.refl _ _ _, true, h, rfl, rfl⟩
    · obtain ⟨r_8, hr_8, h⟩ := Option.bind_eq_some_iff.1 h
      refine runH 4 [(1, .eq (.bool false))] [1, 8, 10] [AV.bool (!r_6) = AV.bool false] (mkS 33 [(1, .ptr 0 0), (8, .bool false), (10, .int .i64 f_1.Until)]) (⟨[(C_api_Fund f_1)], []⟩) (by kernel_rfl) ⟨congrArg AV.bool hc_7, trivial⟩ ?_
      refine ExO.callL [] [.int .i64 f_1.Until] rfl rfl (a_coin_isDate f_1.Until) rfl rfl (d_coin_isDate N f_1.Until r_8 hr_8) (b_coin_isDate _ _ _ _) rfl ?_
      refine runH 3 [] [1, 3] [] (mkS 33 [(1, .ptr 0 0), (3, .bool (!r_8))]) (⟨[(C_api_Fund f_1)], []⟩) (by kernel_rfl) trivial ?_
      refine ExO.nil ?_
      (try simp only [reduceCtorEq, AEx.ex.injEq, Nat.reduceEqDiff, if_true, if_false])
      exact ⟨_, _, Forgets.refl _ _ _, (!r_8), h, rfl, rfl⟩
  · rintro a S ⟨y_2, h, rfl, rfl⟩
    subst hK_5
    rcases condI h with ⟨hc_9, h⟩ | ⟨hc_9, h⟩
    · refine Ex.condT _ rfl hc_9 ?_
      refine Ex.seq ?_
      refine regH 1 [] [2] [] (mkS 33 [(2, .int .i64 2)]) (⟨[(C_api_Fund f_1)], []⟩) (by kernel_rfl) trivial rfl ?_
      refine Ex.ret ?_
      obtain rfl := Option.some.inj h
      exact ⟨.inr rfl, .int .i64 2, by kernel_rfl, by kernel_rfl, by kernel_rfl, by kernel_rfl⟩
    · refine Ex.condF _ rfl hc_9 ?_
      refine Ex.seq ?_
      refine regH 6 [] [1, 14] [] (mkS 33 [(1, .ptr 0 0), (14, .bool (decide (f_1.Day > f_1.Until)))]) (⟨[(C_api_Fund f_1)], []⟩) (by kernel_rfl) trivial rfl ?_
      rcases condI h with ⟨hc_10, h⟩ | ⟨hc_10, h⟩
      · refine Ex.condT _ rfl hc_10 ?_
        refine Ex.seq ?_
        refine regH 1 [] [2] [] (mkS 33 [(2, .int .i64 9)]) (⟨[(C_api_Fund f_1)], []⟩) (by kernel_rfl) trivial rfl ?_
        refine Ex.ret ?_
        obtain rfl := Option.some.inj h
        exact ⟨.inr rfl, .int .i64 9, by kernel_rfl, by kernel_rfl, by kernel_rfl, by kernel_rfl⟩
      · refine Ex.condF _ rfl hc_10 ?_
        refine Ex.seq ?_
        obtain ⟨r_11, hr_11, h⟩ := Option.bind_eq_some_iff.1 h
        refine Ex.reg ?_
        refine runH 2 [] [1, 22] [] (mkS 33 [(1, .ptr 0 0), (22, .int .i64 f_1.Amount)]) (⟨[(C_api_Fund f_1)], []⟩) (by kernel_rfl) trivial ?_
        refine ExO.callL [] [.int .i64 f_1.Amount] rfl rfl (a_coin_isAmount f_1.Amount) rfl rfl (d_coin_isAmount N f_1.Amount r_11 hr_11) (b_coin_isAmount _ _ _ _) rfl ?_
        refine runH 2 [] [1, 20] [] (mkS 33 [(1, .ptr 0 0), (20, .bool (!r_11))]) (⟨[(C_api_Fund f_1)], []⟩) (by kernel_rfl) trivial ?_
        refine ExO.nil ?_
        rcases condI h with ⟨hc_12, h⟩ | ⟨hc_12, h⟩
        · refine Ex.condT _ rfl hc_12 ?_
          refine Ex.seq ?_
          refine regH 1 [] [2] [] (mkS 33 [(2, .int .i64 2)]) (⟨[(C_api_Fund f_1)], []⟩) (by kernel_rfl) trivial rfl ?_
          refine Ex.ret ?_
          obtain rfl := Option.some.inj h
          exact ⟨.inr rfl, .int .i64 2, by kernel_rfl, by kernel_rfl, by kernel_rfl, by kernel_rfl⟩
        · refine Ex.condF _ rfl hc_12 ?_
          refine Ex.seq ?_
          refine regH 5 [(2, .eq (.int .i64 ((f_1.Uses.length : Nat) : Int)))] [1, 25] [AV.int .i64 (((f_1.Uses.map (AV.int .i64)).length : Nat) : Int) = AV.int .i64 ((f_1.Uses.length : Nat) : Int)] (mkS 33 [(1, .ptr 0 0), (25, .bool (decide (((f_1.Uses.length : Nat) : Int) > 8)))]) (⟨[(C_api_Fund f_1)], []⟩) (by kernel_rfl) ⟨lenM _ _, trivial⟩ rfl ?_
          rcases condI h with ⟨hc_13, h⟩ | ⟨hc_13, h⟩
          · refine Ex.condT _ rfl hc_13 ?_
            refine Ex.seq ?_
            refine regH 1 [] [2] [] (mkS 33 [(2, .int .i64 5)]) (⟨[(C_api_Fund f_1)], []⟩) (by kernel_rfl) trivial rfl ?_
            refine Ex.ret ?_
            obtain rfl := Option.some.inj h
            exact ⟨.inr rfl, .int .i64 5, by kernel_rfl, by kernel_rfl, by kernel_rfl, by kernel_rfl⟩
          · refine Ex.condF _ rfl hc_13 ?_
            refine Ex.skip ?_
            refine Ex.seq ?_
            obtain ⟨r_14, hr_14, h⟩ := Option.bind_eq_some_iff.1 h
            refine Ex.reg ?_
            refine runH 2 [] [31] [] (mkS 33 [(31, .sl (f_1.Uses.map (AV.int .i64)) none)]) (⟨[(C_api_Fund f_1)], []⟩) (by kernel_rfl) trivial ?_
            refine ExO.callL [] [.sl (f_1.Uses.map (AV.int .i64)) none] rfl rfl (a_coin_checkUses f_1.Uses) rfl rfl (d_coin_checkUses N f_1.Uses r_14 hr_14) (b_coin_checkUses _ _ _ _) rfl ?_
            refine runH 1 [] [2] [] (mkS 33 [(2, .int .i64 r_14)]) (⟨[(C_api_Fund f_1)], []⟩) (by kernel_rfl) trivial ?_
            refine ExO.nil ?_
            refine Ex.ret ?_
            obtain rfl := Option.some.inj h
            exact ⟨.inr rfl, .int .i64 r_14, by kernel_rfl, by kernel_rfl, by kernel_rfl, by kernel_rfl⟩
def p_coin_Check (N : Nat) (l_1 : T_api_Ledger) : Option (Int) := (bif (decide (((l_1.Funds.length : Nat) : Int) > 8)) then some 5 else (letJ (fun (_ : Unit) => (bif (decide (((l_1.Bills.length : Nat) : Int) > 8)) then some 5 else (letJ (fun (_ : Unit) => some 0) (fun k_15 => (loop1 (fun rec_19 (y_18 : Int) => (bif (decide (y_18 < ((l_1.Bills.length : Nat) : Int))) then ((getI l_1.Bills y_18).bind fun x_23 => (letJ (fun (y_24 : Bool) => (bif y_24 then some 2 else (rec_19 (IntKind.i64.wrap (y_18 + 1))))) (fun k_25 => ((p_coin_isDate N x_23.Day).bind fun r_28 => (bif (!r_28) then (k_25 true) else ((p_coin_isUse N x_23.Use).bind fun r_30 => (bif (!r_30) then (k_25 true) else ((p_coin_isAmount N x_23.Amount).bind fun r_32 => (k_25 (!r_32)))))))))) else (k_15 ()))) N 0))))) (fun k_3 => (loop1 (fun rec_7 (y_6 : Int) => (bif (decide (y_6 < ((l_1.Funds.length : Nat) : Int))) then ((getI l_1.Funds y_6).bind fun x_11 => ((p_coin_checkFund N x_11).bind fun r_12 => (bif (r_12 != 0) then some r_12 else (rec_7 (IntKind.i64.wrap (y_6 + 1)))))) else (k_3 ()))) N 0))))
def v_coin_Check (r : Int) : AV := .int .i64 r
attribute [local simp] v_coin_Check
theorem a_coin_Check (l_1 : T_api_Ledger) : [(A_api_Ledger l_1)].mapM (ren []) = some [(A_api_Ledger l_1)] := by simp
theorem b_coin_Check (r : Int) (n n2 m : Nat) : back n n2 m (v_coin_Check r) = some (v_coin_Check r) := by simp
theorem d_coin_Check (N : Nat) (l_1 : T_api_Ledger) (r : Int) (h : p_coin_Check N l_1 = some r) : Does Try.prog 26 [(A_api_Ledger l_1)] [] fun v c => v = v_coin_Check r ∧ c = [] := by
  unfold p_coin_Check at h
  refine Does.ofL comp26 _ _ rfl rfl ?_
  refine Ex.seq ?_
  refine regH 2 [] [1] [] (mkS 53 [(1, .ptr 0 0)]) (⟨[(C_api_Ledger l_1)], []⟩) (by kernel_rfl) trivial rfl ?_
  refine Ex.seq ?_
  refine Ex.seq ?_
  refine regH 4 [(2, .eq (.int .i64 ((l_1.Funds.length : Nat) : Int)))] [1, 11] [AV.int .i64 (((l_1.Funds.map A_api_Fund).length : Nat) : Int) = AV.int .i64 ((l_1.Funds.length : Nat) : Int)] (mkS 53 [(1, .ptr 0 0), (11, .bool (decide (((l_1.Funds.length : Nat) : Int) > 8)))]) (⟨[(C_api_Ledger l_1)], []⟩) (by kernel_rfl) ⟨lenM _ _, trivial⟩ rfl ?_
  rcases condI h with ⟨hc_2, h⟩ | ⟨hc_2, h⟩
  · refine Ex.condT _ rfl hc_2 ?_
    refine Ex.seq ?_
    refine regH 1 [] [2] [] (mkS 53 [(2, .int .i64 5)]) (⟨[(C_api_Ledger l_1)], []⟩) (by kernel_rfl) trivial rfl ?_
    refine Ex.ret ?_
    obtain rfl := Option.some.inj h
    exact ⟨.inr rfl, .int .i64 5, by kernel_rfl, by kernel_rfl, by kernel_rfl, by kernel_rfl⟩
  · refine Ex.condF _ rfl hc_2 ?_
    refine Ex.skip ?_
    refine Ex.seq ?_
    refine Ex.seq ?_
    refine regH 4 [(2, .eq (.int .i64 ((l_1.Funds.length : Nat) : Int)))] [1, 13, 14, 15] [AV.int .i64 (((l_1.Funds.map A_api_Fund).length : Nat) : Int) = AV.int .i64 ((l_1.Funds.length : Nat) : Int)] (mkS 53 [(1, .ptr 0 0), (13, .sl (l_1.Funds.map A_api_Fund) none), (14, .int .i64 ((l_1.Funds.length : Nat) : Int)), (15, .int .i64 0)]) (⟨[(C_api_Ledger l_1)], []⟩) (by kernel_rfl) ⟨lenM _ _, trivial⟩ rfl ?_
    obtain ⟨K_4, hK_5, h⟩ := letE h
    refine Ex.blockJ (fun a S => K_4 () = some r ∧ a = mkS 53 [(1, .ptr 0 0)] ∧ S = ⟨[(C_api_Ledger l_1)], []⟩) ?_ ?_
    · obtain ⟨B_8, hB_9, h⟩ := loop1I h
      refine Ex.loopF (fun k a S => ∃ (y_6 : Int), loop1 B_8 k y_6 = some r ∧ a = mkS 53 [(1, .ptr 0 0), (13, .sl (l_1.Funds.map A_api_Fund) none), (14, .int .i64 ((l_1.Funds.length : Nat) : Int)), (15, .int .i64 y_6)] ∧ S = ⟨[(C_api_Ledger l_1)], []⟩) N ⟨_, _, Forgets.refl _ _ _, 0, h, rfl, rfl⟩ ?_
      rintro k a S ⟨y_6, h, rfl, rfl⟩
      cases k with
      | zero => exact (loop1Z h).elim
      | succ k =>
        replace h := loop1S h hB_9
        refine Ex.seq ?_
        refine regH 1 [] [1, 13, 14, 15, 16] [] (mkS 53 [(1, .ptr 0 0), (13, .sl (l_1.Funds.map A_api_Fund) none), (14, .int .i64 ((l_1.Funds.length : Nat) : Int)), (15, .int .i64 y_6), (16, .bool (decide (y_6 < ((l_1.Funds.length : Nat) : Int))))]) (⟨[(C_api_Ledger l_1)], []⟩) (by kernel_rfl) trivial rfl ?_
        refine Ex.seq ?_
        rcases condI h with ⟨hc_10, h⟩ | ⟨hc_10, h⟩
        · refine Ex.condT _ rfl hc_10 ?_
          refine Ex.skip ?_
          refine Ex.seq ?_
          refine Ex.blockK ?_
          refine Ex.seq ?_
          obtain ⟨x_11, hx_11, h⟩ := Option.bind_eq_some_iff.1 h
          refine regH 4 [(0, .rop (C_api_Fund x_11))] [1, 4, 13, 14, 15] [LGet (l_1.Funds.map A_api_Fund) y_6 4 (C_api_Fund x_11)] (mkS 53 [(1, .ptr 0 0), (4, .ptr 1 0), (13, .sl (l_1.Funds.map A_api_Fund) none), (14, .int .i64 ((l_1.Funds.length : Nat) : Int)), (15, .int .i64 y_6)]) (⟨[(C_api_Ledger l_1), (C_api_Fund x_11)], []⟩) (by kernel_rfl) ⟨LGet.of hx_11 rfl, trivial⟩ rfl ?_
          refine Ex.seq ?_
          obtain ⟨r_12, hr_12, h⟩ := Option.bind_eq_some_iff.1 h
          refine Ex.reg ?_
          refine runH 1 [] [1, 13, 14, 15, 19] [] (mkS 53 [(1, .ptr 0 0), (13, .sl (l_1.Funds.map A_api_Fund) none), (14, .int .i64 ((l_1.Funds.length : Nat) : Int)), (15, .int .i64 y_6), (19, (A_api_Fund x_11))]) (⟨[(C_api_Ledger l_1), (C_api_Fund x_11)], []⟩) (by kernel_rfl) trivial ?_
          refine ExO.callL [] [(A_api_Fund x_11)] rfl rfl (a_coin_checkFund x_11) rfl rfl (d_coin_checkFund N x_11 r_12 hr_12) (b_coin_checkFund _ _ _ _) rfl ?_
          refine runH 1 [] [1, 5, 13, 14, 15] [] (mkS 53 [(1, .ptr 0 0), (5, .int .i64 r_12), (13, .sl (l_1.Funds.map A_api_Fund) none), (14, .int .i64 ((l_1.Funds.length : Nat) : Int)), (15, .int .i64 y_6)]) (⟨[(C_api_Ledger l_1), (C_api_Fund x_11)], []⟩) (by kernel_rfl) trivial ?_
          refine ExO.nil ?_
          refine Ex.seq ?_
          refine regH 2 [] [1, 5, 13, 14, 15, 22] [] (mkS 53 [(1, .ptr 0 0), (5, .int .i64 r_12), (13, .sl (l_1.Funds.map A_api_Fund) none), (14, .int .i64 ((l_1.Funds.length : Nat) : Int)), (15, .int .i64 y_6), (22, .bool (r_12 != 0))]) (⟨[(C_api_Ledger l_1), (C_api_Fund x_11)], []⟩) (by kernel_rfl) trivial rfl ?_
          rcases condI h with ⟨hc_13, h⟩ | ⟨hc_13, h⟩
          · refine Ex.condT _ rfl hc_13 ?_
            refine Ex.seq ?_
            refine regH 2 [] [2] [] (mkS 53 [(2, .int .i64 r_12)]) (⟨[(C_api_Ledger l_1), (C_api_Fund x_11)], []⟩) (by kernel_rfl) trivial rfl ?_
            refine Ex.ret ?_
            obtain rfl := Option.some.inj h
            exact ⟨.inr rfl, .int .i64 r_12, by kernel_rfl, by kernel_rfl, by kernel_rfl, by kernel_rfl⟩
          · refine Ex.condF _ rfl hc_13 ?_
            refine Ex.skip ?_
            refine regH 2 [] [1, 13, 14, 15] [] (mkS 53 [(1, .ptr 0 0), (13, .sl (l_1.Funds.map A_api_Fund) none), (14, .int .i64 ((l_1.Funds.length : Nat) : Int)), (15, .int .i64 (IntKind.i64.wrap (y_6 + 1)))]) (⟨[(C_api_Ledger l_1), (C_api_Fund x_11)], []⟩) (by kernel_rfl) trivial rfl ?_
            dsimp only
            exact ⟨_, _, forgetA (m := 53) 1 [] [(1, .ptr 0 0), (13, .sl (l_1.Funds.map A_api_Fund) none), (14, .int .i64 ((l_1.Funds.length : Nat) : Int)), (15, .int .i64 (IntKind.i64.wrap (y_6 + 1)))] [(C_api_Ledger l_1)] [] (by simp [setAll]) (by simp) ⟨rfl, (reN (KL_api_Fund _)), rfl, rfl, trivial⟩ (by simp) rfl (by decide), k, Nat.lt_succ_self k, (IntKind.i64.wrap (y_6 + 1)), h, rfl, rfl⟩
        · refine Ex.condF _ rfl hc_10 ?_
          refine Ex.exit ?_
          (try simp only [reduceCtorEq, AEx.ex.injEq, Nat.reduceEqDiff, if_true, if_false])
          exact ⟨_, _, forgetK [1], h, rfl, rfl⟩
    · rintro a S ⟨h, rfl, rfl⟩
      subst hK_5
      refine Ex.seq ?_
      refine Ex.seq ?_
      refine regH 4 [(2, .eq (.int .i64 ((l_1.Bills.length : Nat) : Int)))] [1, 28] [AV.int .i64 (((l_1.Bills.map A_api_Bill).length : Nat) : Int) = AV.int .i64 ((l_1.Bills.length : Nat) : Int)] (mkS 53 [(1, .ptr 0 0), (28, .bool (decide (((l_1.Bills.length : Nat) : Int) > 8)))]) (⟨[(C_api_Ledger l_1)], []⟩) (by kernel_rfl) ⟨lenM _ _, trivial⟩ rfl ?_
      rcases condI h with ⟨hc_14, h⟩ | ⟨hc_14, h⟩
      · refine Ex.condT _ rfl hc_14 ?_
        refine Ex.seq ?_
        refine regH 1 [] [2] [] (mkS 53 [(2, .int .i64 5)]) (⟨[(C_api_Ledger l_1)], []⟩) (by kernel_rfl) trivial rfl ?_
        refine Ex.ret ?_
        obtain rfl := Option.some.inj h
        exact ⟨.inr rfl, .int .i64 5, by kernel_rfl, by kernel_rfl, by kernel_rfl, by kernel_rfl⟩
      · refine Ex.condF _ rfl hc_14 ?_
        refine Ex.skip ?_
        refine Ex.seq ?_
        refine Ex.seq ?_
        refine regH 4 [(2, .eq (.int .i64 ((l_1.Bills.length : Nat) : Int)))] [30, 31, 32] [AV.int .i64 (((l_1.Bills.map A_api_Bill).length : Nat) : Int) = AV.int .i64 ((l_1.Bills.length : Nat) : Int)] (mkS 53 [(30, .sl (l_1.Bills.map A_api_Bill) none), (31, .int .i64 ((l_1.Bills.length : Nat) : Int)), (32, .int .i64 0)]) (⟨[(C_api_Ledger l_1)], []⟩) (by kernel_rfl) ⟨lenM _ _, trivial⟩ rfl ?_
        obtain ⟨K_16, hK_17, h⟩ := letE h
        refine Ex.blockJ (fun a S => K_16 () = some r ∧ a = mkS 53 [] ∧ S = ⟨[], []⟩) ?_ ?_
        · obtain ⟨B_20, hB_21, h⟩ := loop1I h
          refine Ex.loopF (fun k a S => ∃ (y_18 : Int), loop1 B_20 k y_18 = some r ∧ a = mkS 53 [(30, .sl (l_1.Bills.map A_api_Bill) none), (31, .int .i64 ((l_1.Bills.length : Nat) : Int)), (32, .int .i64 y_18)] ∧ S = ⟨[], []⟩) N ⟨_, _, forgetA (m := 53) 0 [] [(30, .sl (l_1.Bills.map A_api_Bill) none), (31, .int .i64 ((l_1.Bills.length : Nat) : Int)), (32, .int .i64 0)] [] [] (by simp [setAll]) (by simp) ⟨(reN (KL_api_Bill _)), rfl, rfl, trivial⟩ (by simp) rfl (by decide), 0, h, rfl, rfl⟩ ?_
          rintro k a S ⟨y_18, h, rfl, rfl⟩
          cases k with
          | zero => exact (loop1Z h).elim
          | succ k =>
            replace h := loop1S h hB_21
            refine Ex.seq ?_
            refine regH 1 [] [30, 31, 32, 33] [] (mkS 53 [(30, .sl (l_1.Bills.map A_api_Bill) none), (31, .int .i64 ((l_1.Bills.length : Nat) : Int)), (32, .int .i64 y_18), (33, .bool (decide (y_18 < ((l_1.Bills.length : Nat) : Int))))]) (⟨[], []⟩) (by kernel_rfl) trivial rfl ?_
            refine Ex.seq ?_
            rcases condI h with ⟨hc_22, h⟩ | ⟨hc_22, h⟩
            · refine Ex.condT _ rfl hc_22 ?_
              refine Ex.skip ?_
              refine Ex.seq ?_
              refine Ex.blockK ?_
              refine Ex.seq ?_
              obtain ⟨x_23, hx_23, h⟩ := Option.bind_eq_some_iff.1 h
              refine regH 4 [(0, .rop (C_api_Bill x_23))] [7, 30, 31, 32] [LGet (l_1.Bills.map A_api_Bill) y_18 3 (C_api_Bill x_23)] (mkS 53 [(7, .ptr 0 0), (30, .sl (l_1.Bills.map A_api_Bill) none), (31, .int .i64 ((l_1.Bills.length : Nat) : Int)), (32, .int .i64 y_18)]) (⟨[(C_api_Bill x_23)], []⟩) (by kernel_rfl) ⟨LGet.of hx_23 rfl, trivial⟩ rfl ?_
              obtain ⟨K_26, hK_27, h⟩ := letE h
              refine Ex.seqJ (fun a S => ∃ (y_24 : Bool), K_26 y_24 = some r ∧ a = mkS 53 [(30, .sl (l_1.Bills.map A_api_Bill) none), (31, .int .i64 ((l_1.Bills.length : Nat) : Int)), (32, .int .i64 y_18), (51, .bool y_24)] ∧ S = ⟨[], []⟩) ?_ ?_
              · obtain ⟨r_28, hr_28, h⟩ := Option.bind_eq_some_iff.1 h
                refine Ex.reg ?_
                refine runH 2 [] [7, 30, 31, 32, 37] [] (mkS 53 [(7, .ptr 0 0), (30, .sl (l_1.Bills.map A_api_Bill) none), (31, .int .i64 ((l_1.Bills.length : Nat) : Int)), (32, .int .i64 y_18), (37, .int .i64 x_23.Day)]) (⟨[(C_api_Bill x_23)], []⟩) (by kernel_rfl) trivial ?_
                refine ExO.callL [] [.int .i64 x_23.Day] rfl rfl (a_coin_isDate x_23.Day) rfl rfl (d_coin_isDate N x_23.Day r_28 hr_28) (b_coin_isDate _ _ _ _) rfl ?_
                rcases condI h with ⟨hc_29, h⟩ | ⟨hc_29, h⟩
                · refine runH 13 [(1, .eq (.bool true))] [30, 31, 32, 51] [AV.bool (!r_28) = AV.bool true] (mkS 53 [(30, .sl (l_1.Bills.map A_api_Bill) none), (31, .int .i64 ((l_1.Bills.length : Nat) : Int)), (32, .int .i64 y_18), (51, .bool true)]) (⟨[(C_api_Bill x_23)], []⟩) (by kernel_rfl) ⟨congrArg AV.bool hc_29, trivial⟩ ?_
                  refine ExO.nil ?_
                  (try simp only [reduceCtorEq, AEx.ex.injEq, Nat.reduceEqDiff, if_true, if_false])
                  exact ⟨_, _, forgetA (m := 53) 0 [] [(30, .sl (l_1.Bills.map A_api_Bill) none), (31, .int .i64 ((l_1.Bills.length : Nat) : Int)), (32, .int .i64 y_18), (51, .bool true)] [] [] (by simp [setAll]) (by simp) ⟨(reN (KL_api_Bill _)), rfl, rfl, rfl, trivial⟩ (by simp) rfl (by decide), true, h, rfl, rfl⟩
                · obtain ⟨r_30, hr_30, h⟩ := Option.bind_eq_some_iff.1 h
                  refine runH 4 [(1, .eq (.bool false))] [7, 30, 31, 32, 40, 42] [AV.bool (!r_28) = AV.bool false] (mkS 53 [(7, .ptr 0 0), (30, .sl (l_1.Bills.map A_api_Bill) none), (31, .int .i64 ((l_1.Bills.length : Nat) : Int)), (32, .int .i64 y_18), (40, .bool false), (42, .int .i64 x_23.Use)]) (⟨[(C_api_Bill x_23)], []⟩) (by kernel_rfl) ⟨congrArg AV.bool hc_29, trivial⟩ ?_
                  refine ExO.callL [] [.int .i64 x_23.Use] rfl rfl (a_coin_isUse x_23.Use) rfl rfl (d_coin_isUse N x_23.Use r_30 hr_30) (b_coin_isUse _ _ _ _) rfl ?_
                  rcases condI h with ⟨hc_31, h⟩ | ⟨hc_31, h⟩
                  · refine runH 8 [(2, .eq (.bool true))] [30, 31, 32, 51] [AV.bool (!r_30) = AV.bool true] (mkS 53 [(30, .sl (l_1.Bills.map A_api_Bill) none), (31, .int .i64 ((l_1.Bills.length : Nat) : Int)), (32, .int .i64 y_18), (51, .bool true)]) (⟨[(C_api_Bill x_23)], []⟩) (by kernel_rfl) ⟨congrArg AV.bool hc_31, trivial⟩ ?_
                    refine ExO.nil ?_
                    (try simp only [reduceCtorEq, AEx.ex.injEq, Nat.reduceEqDiff, if_true, if_false])
                    exact ⟨_, _, forgetA (m := 53) 0 [] [(30, .sl (l_1.Bills.map A_api_Bill) none), (31, .int .i64 ((l_1.Bills.length : Nat) : Int)), (32, .int .i64 y_18), (51, .bool true)] [] [] (by simp [setAll]) (by simp) ⟨(reN (KL_api_Bill _)), rfl, rfl, rfl, trivial⟩ (by simp) rfl (by decide), true, h, rfl, rfl⟩
                  · obtain ⟨r_32, hr_32, h⟩ := Option.bind_eq_some_iff.1 h
                    refine runH 5 [(2, .eq (.bool false))] [30, 31, 32, 46, 48] [AV.bool (!r_30) = AV.bool false] (mkS 53 [(30, .sl (l_1.Bills.map A_api_Bill) none), (31, .int .i64 ((l_1.Bills.length : Nat) : Int)), (32, .int .i64 y_18), (46, .bool false), (48, .int .i64 x_23.Amount)]) (⟨[(C_api_Bill x_23)], []⟩) (by kernel_rfl) ⟨congrArg AV.bool hc_31, trivial⟩ ?_
                    refine ExO.callL [] [.int .i64 x_23.Amount] rfl rfl (a_coin_isAmount x_23.Amount) rfl rfl (d_coin_isAmount N x_23.Amount r_32 hr_32) (b_coin_isAmount _ _ _ _) rfl ?_
                    refine runH 2 [] [30, 31, 32, 51] [] (mkS 53 [(30, .sl (l_1.Bills.map A_api_Bill) none), (31, .int .i64 ((l_1.Bills.length : Nat) : Int)), (32, .int .i64 y_18), (51, .bool (!r_32))]) (⟨[(C_api_Bill x_23)], []⟩) (by kernel_rfl) trivial ?_
                    refine ExO.nil ?_
                    (try simp only [reduceCtorEq, AEx.ex.injEq, Nat.reduceEqDiff, if_true, if_false])
                    exact ⟨_, _, forgetA (m := 53) 0 [] [(30, .sl (l_1.Bills.map A_api_Bill) none), (31, .int .i64 ((l_1.Bills.length : Nat) : Int)), (32, .int .i64 y_18), (51, .bool (!r_32))] [] [] (by simp [setAll]) (by simp) ⟨(reN (KL_api_Bill _)), rfl, rfl, rfl, trivial⟩ (by simp) rfl (by decide), (!r_32), h, rfl, rfl⟩
              · rintro a S ⟨y_24, h, rfl, rfl⟩
                subst hK_27
                rcases condI h with ⟨hc_33, h⟩ | ⟨hc_33, h⟩
                · refine Ex.condT _ rfl hc_33 ?_
                  refine Ex.seq ?_
                  refine regH 1 [] [2] [] (mkS 53 [(2, .int .i64 2)]) (⟨[], []⟩) (by kernel_rfl) trivial rfl ?_
                  refine Ex.ret ?_
                  obtain rfl := Option.some.inj h
                  exact ⟨.inr rfl, .int .i64 2, by kernel_rfl, by kernel_rfl, by kernel_rfl, by kernel_rfl⟩
                · refine Ex.condF _ rfl hc_33 ?_
                  refine Ex.skip ?_
                  refine regH 2 [] [30, 31, 32] [] (mkS 53 [(30, .sl (l_1.Bills.map A_api_Bill) none), (31, .int .i64 ((l_1.Bills.length : Nat) : Int)), (32, .int .i64 (IntKind.i64.wrap (y_18 + 1)))]) (⟨[], []⟩) (by kernel_rfl) trivial rfl ?_
                  dsimp only
                  exact ⟨_, _, Forgets.refl _ _ _, k, Nat.lt_succ_self k, (IntKind.i64.wrap (y_18 + 1)), h, rfl, rfl⟩
            · refine Ex.condF _ rfl hc_22 ?_
              refine Ex.exit ?_
              (try simp only [reduceCtorEq, AEx.ex.injEq, Nat.reduceEqDiff, if_true, if_false])
              exact ⟨_, _, forgetK [], h, rfl, rfl⟩
        · rintro a S ⟨h, rfl, rfl⟩
          subst hK_17
          refine Ex.seq ?_
          refine regH 1 [] [2] [] (mkS 53 [(2, .int .i64 0)]) (⟨[], []⟩) (by kernel_rfl) trivial rfl ?_
          refine Ex.ret ?_
          obtain rfl := Option.some.inj h
          exact ⟨.inr rfl, .int .i64 0, by kernel_rfl, by kernel_rfl, by kernel_rfl, by kernel_rfl⟩
def p_slices_Values_int_int (N : Nat) (s_1 : (List Int)) : Option ((List Int)) := some s_1
def v_slices_Values_int_int (r : (List Int)) : AV := .fn 115 [] [.rop [.sl (r.map (AV.int .i64)) none]]
attribute [local simp] v_slices_Values_int_int
theorem a_slices_Values_int_int (s_1 : (List Int)) : [.sl (s_1.map (AV.int .i64)) none].mapM (ren []) = some [.sl (s_1.map (AV.int .i64)) none] := by simp
theorem b_slices_Values_int_int (r : (List Int)) (n n2 m : Nat) : back n n2 m (v_slices_Values_int_int r) = some (v_slices_Values_int_int r) := by simp
theorem d_slices_Values_int_int (N : Nat) (s_1 : (List Int)) (r : (List Int)) (h : p_slices_Values_int_int N s_1 = some r) : Does Try.prog 99 [.sl (s_1.map (AV.int .i64)) none] [] fun v c => v = v_slices_Values_int_int r ∧ c = [] := by
  unfold p_slices_Values_int_int at h
  refine Does.ofL comp99 _ _ rfl rfl ?_
  refine Ex.seq ?_
  refine regH 2 [] [1] [] (mkS 4 [(1, .ptr 0 0)]) (⟨[[.sl (s_1.map (AV.int .i64)) none]], []⟩) (by kernel_rfl) trivial rfl ?_
  refine Ex.seq ?_
  refine regH 2 [] [2] [] (mkS 4 [(2, .fn 115 [] [.ptr 0 0])]) (⟨[[.sl (s_1.map (AV.int .i64)) none]], []⟩) (by kernel_rfl) trivial rfl ?_
  refine Ex.forget (forgetK [2]) ?_
  refine Ex.castA (a2 := mkS 4 [(2, .fn 115 [] [.ptr 0 0])]) (S2 := ⟨[[.sl (s_1.map (AV.int .i64)) none]], []⟩) (by kernel_rfl) (by kernel_rfl) ?_
  obtain rfl := Option.some.inj h
  refine Ex.forget (chillP 2 0 [.sl (s_1.map (AV.int .i64)) none] _ rfl rfl) ?_
  refine Ex.castA (a2 := mkS 4 [(2, .fn 115 [] [.rop [.sl (s_1.map (AV.int .i64)) none]])]) (S2 := ⟨[[]], []⟩) (by kernel_rfl) (by kernel_rfl) ?_
  refine Ex.ret ?_
  exact ⟨.inr rfl, .fn 115 [] [.rop [.sl (s_1.map (AV.int .i64)) none]], by kernel_rfl, by kernel_rfl, by kernel_rfl, by kernel_rfl⟩
def p_coin_total_1 (N : Nat) (n_1 : Int) : Option (Int) := some n_1
def v_coin_total_1 (r : Int) : AV := .int .i64 r
attribute [local simp] v_coin_total_1
theorem b_coin_total_1 (r : Int) (n n2 m : Nat) : back n n2 m (v_coin_total_1 r) = some (v_coin_total_1 r) := by simp
theorem d_coin_total_1 (N : Nat) (n_1 : Int) (r : Int) (h : p_coin_total_1 N n_1 = some r) : Does Try.prog 100 [.int .i64 n_1] [] fun v c => v = v_coin_total_1 r ∧ c = [] := by
  unfold p_coin_total_1 at h
  refine Does.ofL comp100 _ _ rfl rfl ?_
  refine Ex.seq ?_
  refine regH 1 [] [0] [] (mkS 4 [(0, .int .i64 n_1)]) (⟨[], []⟩) (by kernel_rfl) trivial rfl ?_
  refine Ex.seq ?_
  refine regH 2 [] [2] [] (mkS 4 [(2, .int .i64 n_1)]) (⟨[], []⟩) (by kernel_rfl) trivial rfl ?_
  refine Ex.ret ?_
  obtain rfl := Option.some.inj h
  exact ⟨.inr rfl, .int .i64 n_1, by kernel_rfl, by kernel_rfl, by kernel_rfl, by kernel_rfl⟩
def p_coin_sum_int_slices_Values_int_int_1r_coin_total_1 (N : Nat) (a_1 : (List Int)) : Option (Int) := (letJ (fun (b_9 : Int) => some b_9) (fun k_10 => (letJ (fun (b_13 : Int) => (k_10 b_13)) (fun k_14 => (loop2 (fun rec_19 (y_17 : Int) (b_18 : Int) => (bif (decide (y_17 < ((a_1.length : Nat) : Int))) then ((getI a_1 y_17).bind fun x_23 => (letJ (fun (b_32 : Int) => (rec_19 (IntKind.i64.wrap (y_17 + 1)) b_32)) (fun k_33 => ((p_coin_total_1 N x_23).bind fun r_36 => (k_33 (IntKind.i64.wrap (b_18 + r_36))))))) else (k_14 b_18))) N 0 0)))))
def v_coin_sum_int_slices_Values_int_int_1r_coin_total_1 (r : Int) : AV := .int .i64 r
attribute [local simp] v_coin_sum_int_slices_Values_int_int_1r_coin_total_1
theorem b_coin_sum_int_slices_Values_int_int_1r_coin_total_1 (r : Int) (n n2 m : Nat) : back n n2 m (v_coin_sum_int_slices_Values_int_int_1r_coin_total_1 r) = some (v_coin_sum_int_slices_Values_int_int_1r_coin_total_1 r) := by simp
theorem d_coin_sum_int_slices_Values_int_int_1r_coin_total_1 (N : Nat) (a_1 : (List Int)) (r : Int) (h : p_coin_sum_int_slices_Values_int_int_1r_coin_total_1 N a_1 = some r) : Does Try.prog 98 [.fn 115 [] [.rop [.sl (a_1.map (AV.int .i64)) none]], .fn 100 [] []] [] fun v c => v = v_coin_sum_int_slices_Values_int_int_1r_coin_total_1 r ∧ c = [] := by
  unfold p_coin_sum_int_slices_Values_int_int_1r_coin_total_1 at h
  refine Does.ofL comp98 _ _ rfl rfl ?_
  refine Ex.seq ?_
  refine regH 2 [] [0, 3, 4] [] (mkS 15 [(0, .fn 115 [] [.rop [.sl (a_1.map (AV.int .i64)) none]]), (3, .ptr 0 0), (4, .int .i64 0)]) (⟨[[.fn 100 [] []]], []⟩) (by kernel_rfl) trivial rfl ?_
  refine Ex.seq ?_
  refine regH 2 [] [0, 3, 4, 5] [] (mkS 15 [(0, .fn 115 [] [.rop [.sl (a_1.map (AV.int .i64)) none]]), (3, .ptr 0 0), (4, .int .i64 0), (5, .ptr 1 0)]) (⟨[[.fn 100 [] []], [.int .i64 0]], []⟩) (by kernel_rfl) trivial rfl ?_
  refine Ex.seq ?_
  refine Ex.seq ?_
  refine regH 1 [] [3, 4, 5, 7] [] (mkS 15 [(3, .ptr 0 0), (4, .int .i64 0), (5, .ptr 1 0), (7, .fn 115 [] [.rop [.sl (a_1.map (AV.int .i64)) none]])]) (⟨[[.fn 100 [] []], [.int .i64 0]], []⟩) (by kernel_rfl) trivial rfl ?_
  refine Ex.blockK ?_
  obtain ⟨K_11, hK_12, h⟩ := letE h
  refine Ex.rangeJ (fun k S => (k = 0 ∧ ∃ (b_9 : Int), K_11 b_9 = some r ∧ S = ⟨[[.fn 100 [] []], [.int .i64 b_9]], [(0, 0)]⟩)) 115 [.rop [.sl (a_1.map (AV.int .i64)) none]] _ rfl comp115 rfl (by simp [setAll]) (by exact trivial) (mkS 16 [(1, .rop [.sl (a_1.map (AV.int .i64)) none]), (2, .tup []), (3, .tup []), (4, .tup []), (5, .tup []), (6, .tup []), (7, .tup []), (8, .tup []), (9, .tup []), (10, .tup []), (11, .tup []), (12, .tup []), (13, .tup []), (14, .tup []), (15, .tup [])]) (⟨[[.fn 100 [] []], [.int .i64 0]], [(0, 0)]⟩) (fun _ => by kernel_rfl) (by kernel_rfl) ?_ ?_
  · intro cx_3 Lp_2 hcn_4 hcm_5 hLt_6 hL_7 hup_8
    refine Ex.castA (a2 := mkS 16 [(0, .yld Lp_2.l 0), (1, .rop [.sl (a_1.map (AV.int .i64)) none]), (2, .tup []), (3, .tup []), (4, .tup []), (5, .tup []), (6, .tup []), (7, .tup []), (8, .tup []), (9, .tup []), (10, .tup []), (11, .tup []), (12, .tup []), (13, .tup []), (14, .tup []), (15, .tup [])]) (S2 := ⟨[[.fn 100 [] []], [.int .i64 0]], [(0, 0)]⟩) (by kernel_rfl) rfl ?_
    refine Ex.seq ?_
    refine regH 3 [(1, .eq (.int .i64 ((a_1.length : Nat) : Int)))] [0, 5, 6, 7] [AV.int .i64 (((a_1.map (AV.int .i64)).length : Nat) : Int) = AV.int .i64 ((a_1.length : Nat) : Int)] (mkS 16 [(0, .yld Lp_2.l 0), (5, .sl (a_1.map (AV.int .i64)) none), (6, .int .i64 ((a_1.length : Nat) : Int)), (7, .int .i64 0)]) (⟨[[.fn 100 [] []], [.int .i64 0]], [(0, 0)]⟩) (by kernel_rfl) ⟨lenM _ _, trivial⟩ rfl ?_
    obtain ⟨K_15, hK_16, h⟩ := letE h
    refine Ex.blockJ (fun a S => ∃ (b_13 : Int), K_15 b_13 = some r ∧ a = mkS 16 [] ∧ S = ⟨[[.fn 100 [] []], [.int .i64 b_13]], [(0, 0)]⟩) ?_ ?_
    · obtain ⟨B_20, hB_21, h⟩ := loop2I h
      refine Ex.loopF (fun k a S => ∃ (y_17 : Int), ∃ (b_18 : Int), loop2 B_20 k y_17 b_18 = some r ∧ a = mkS 16 [(0, .yld Lp_2.l 0), (5, .sl (a_1.map (AV.int .i64)) none), (6, .int .i64 ((a_1.length : Nat) : Int)), (7, .int .i64 y_17)] ∧ S = ⟨[[.fn 100 [] []], [.int .i64 b_18]], [(0, 0)]⟩) N ⟨_, _, Forgets.refl _ _ _, 0, 0, h, rfl, rfl⟩ ?_
      rintro k a S ⟨y_17, b_18, h, rfl, rfl⟩
      cases k with
      | zero => exact (loop2Z h).elim
      | succ k =>
        replace h := loop2S h hB_21
        refine Ex.seq ?_
        refine regH 1 [] [0, 5, 6, 7, 8] [] (mkS 16 [(0, .yld Lp_2.l 0), (5, .sl (a_1.map (AV.int .i64)) none), (6, .int .i64 ((a_1.length : Nat) : Int)), (7, .int .i64 y_17), (8, .bool (decide (y_17 < ((a_1.length : Nat) : Int))))]) (⟨[[.fn 100 [] []], [.int .i64 b_18]], [(0, 0)]⟩) (by kernel_rfl) trivial rfl ?_
        refine Ex.seq ?_
        rcases condI h with ⟨hc_22, h⟩ | ⟨hc_22, h⟩
        · refine Ex.condT _ rfl hc_22 ?_
          refine Ex.skip ?_
          refine Ex.seq ?_
          refine Ex.blockK ?_
          refine Ex.seq ?_
          obtain ⟨x_23, hx_23, h⟩ := Option.bind_eq_some_iff.1 h
          refine regH 3 [(0, .rop [.int .i64 x_23])] [0, 4, 5, 6, 7] [LGet (a_1.map (AV.int .i64)) y_17 1 [.int .i64 x_23]] (mkS 16 [(0, .yld Lp_2.l 0), (4, .int .i64 x_23), (5, .sl (a_1.map (AV.int .i64)) none), (6, .int .i64 ((a_1.length : Nat) : Int)), (7, .int .i64 y_17)]) (⟨[[.fn 100 [] []], [.int .i64 b_18]], [(0, 0)]⟩) (by kernel_rfl) ⟨LGet.of hx_23 rfl, trivial⟩ rfl ?_
          refine Ex.seq ?_
          refine Ex.regI ?_
          refine runI 2 [] [0, 5, 6, 7, 11, 12] [] (mkS 16 [(0, .yld Lp_2.l 0), (5, .sl (a_1.map (AV.int .i64)) none), (6, .int .i64 ((a_1.length : Nat) : Int)), (7, .int .i64 y_17), (11, .yld Lp_2.l 0), (12, .int .i64 x_23)]) (⟨[[.fn 100 [] []], [.int .i64 b_18]], [(0, 0)]⟩) (by kernel_rfl) trivial ?_
          obtain ⟨K_34, hK_35, h⟩ := letE h
          refine ExI.yieldT 0 hLt_6 hL_7 [.int .i64 x_23] rfl rfl rfl (by kernel_rfl) rfl rfl (leC hcn_4 (by simp [setAll])) ?_
          intro ca_24 cb_25 ha_26 hb_27 hma_28 hmb_29 hup_30 hbz_31
          refine Ex.castA (a2 := mkS 15 [(3, .ptr 0 0), (4, .int .i64 0), (5, .ptr 1 0), (7, .fn 115 [] [.rop [.sl (a_1.map (AV.int .i64)) none]]), (8, .int .i64 x_23)]) (S2 := ⟨[[.fn 100 [] []], [.int .i64 b_18]], [(0, 0)]⟩) (by kernel_rfl) (by kernel_rfl) ?_
          refine Ex.two (fun z S => (z = AEx.norm ∧ ∃ (b_32 : Int), K_34 b_32 = some r ∧ S = ⟨[[.fn 100 [] []], [.int .i64 b_32]], [(0, 0)]⟩)) ?_ ?_
          · refine regH 1 [] [3, 5, 6] [] (mkS 15 [(3, .ptr 0 0), (5, .ptr 1 0), (6, .int .i64 x_23)]) (⟨[[.fn 100 [] []], [.int .i64 b_18]], [(0, 0)]⟩) (by kernel_rfl) trivial rfl ?_
            refine ⟨rfl, rfl, ?_⟩
            refine Ex.blockK ?_
            obtain ⟨r_36, hr_36, h⟩ := Option.bind_eq_some_iff.1 h
            have hT_37 : DoesA Try.prog [⟨100, [.int .i64 x_23], [], (v_coin_total_1 r_36), []⟩] ∧ ConsA [⟨100, [.int .i64 x_23], [], (v_coin_total_1 r_36), []⟩] := ⟨⟨(d_coin_total_1 N x_23 r_36 hr_36), rfl, trivial⟩, ⟨trivial, trivial⟩⟩
            refine Ex.drawE (a1 := mkS 15 [(3, .ptr 0 0), (5, .ptr 1 0), (6, .int .i64 x_23), (9, .int .i64 b_18), (10, .fn 100 [] []), (11, .int .i64 x_23), (12, .int .i64 r_36)]) (tabO_ok hT_37.1) [] [] [] ?_ ?_
            · refine drS [0, 1] 3 [] [] (mkS 15 [(3, .ptr 0 0), (5, .ptr 1 0), (6, .int .i64 x_23), (9, .int .i64 b_18), (10, .fn 100 [] []), (11, .int .i64 x_23)]) (by simp) (by kernel_rfl) trivial (by kernel_rfl) ?_
              refine drC hT_37.2 0 _ [.int .i64 x_23] (v_coin_total_1 r_36) rfl rfl rfl rfl rfl (fun _ => rfl) rfl (by simp; try rfl) (fun _ => b_coin_total_1 _ _ _ _) ?_
              exact DrO.nil rfl
            · dsimp only [List.getLastD_cons, List.getLastD_nil]
              refine runH 2 [] [] [] (mkS 15 []) (⟨[[.fn 100 [] []], [.int .i64 (IntKind.i64.wrap (b_18 + r_36))]], [(0, 0)]⟩) (by kernel_rfl) trivial ?_
              refine ExO.nil ?_
              (try simp only [reduceCtorEq, AEx.ex.injEq, Nat.reduceEqDiff, if_true, if_false])
              exact ⟨_, _, Forgets.refl _ _ _, ⟨by first | rfl | trivial, (IntKind.i64.wrap (b_18 + r_36)), h, rfl⟩⟩
          · rintro z a2 S (⟨rfl, b_32, h, rfl⟩)
            subst hK_35
            refine runI 1 [] [0, 5, 6, 7, 14] [] (mkS 16 [(0, .yld Lp_2.l 0), (5, .sl (a_1.map (AV.int .i64)) none), (6, .int .i64 ((a_1.length : Nat) : Int)), (7, .int .i64 y_17), (14, .bool false)]) (⟨[[.fn 100 [] []], [.int .i64 b_32]], [(0, 0)]⟩) (by kernel_rfl) trivial ?_
            refine ExI.nil ?_
            refine Ex.cond (b := false) rfl ?_
            refine Ex.skip ?_
            refine regH 2 [] [0, 5, 6, 7] [] (mkS 16 [(0, .yld Lp_2.l 0), (5, .sl (a_1.map (AV.int .i64)) none), (6, .int .i64 ((a_1.length : Nat) : Int)), (7, .int .i64 (IntKind.i64.wrap (y_17 + 1)))]) (⟨[[.fn 100 [] []], [.int .i64 b_32]], [(0, 0)]⟩) (by kernel_rfl) trivial rfl ?_
            dsimp only
            exact ⟨_, _, Forgets.refl _ _ _, k, Nat.lt_succ_self k, (IntKind.i64.wrap (y_17 + 1)), b_32, h, rfl, rfl⟩
        · refine Ex.condF _ rfl hc_22 ?_
          refine Ex.exit ?_
          (try simp only [reduceCtorEq, AEx.ex.injEq, Nat.reduceEqDiff, if_true, if_false])
          exact ⟨_, _, forgetK [], b_18, h, rfl, rfl⟩
    · rintro a S ⟨b_13, h, rfl, rfl⟩
      subst hK_16
      exact ⟨_, _, Forgets.refl _ _ _, .inl rfl, 0, rfl, ⟨by first | rfl | trivial, b_13, h, rfl⟩⟩
  · rintro k S (⟨rfl, b_9, h, rfl⟩)
    subst hK_12
    refine Ex.seq ?_
    refine regH 2 [] [4] [] (mkS 15 [(4, .int .i64 b_9)]) (⟨[[.fn 100 [] []], [.int .i64 b_9]], [(0, 0)]⟩) (by kernel_rfl) trivial rfl ?_
    refine Ex.ret ?_
    obtain rfl := Option.some.inj h
    exact ⟨.inr rfl, .int .i64 b_9, by kernel_rfl, by kernel_rfl, by kernel_rfl, by kernel_rfl⟩
def p_coin_total (N : Nat) (numbers_1 : (List Int)) : Option (Int) := ((p_slices_Values_int_int N numbers_1).bind fun r_2 => ((p_coin_sum_int_slices_Values_int_int_1r_coin_total_1 N r_2).bind fun r_3 => some r_3))
def v_coin_total (r : Int) : AV := .int .i64 r
attribute [local simp] v_coin_total
theorem a_coin_total (numbers_1 : (List Int)) : [.sl (numbers_1.map (AV.int .i64)) none].mapM (ren []) = some [.sl (numbers_1.map (AV.int .i64)) none] := by simp
theorem b_coin_total (r : Int) (n n2 m : Nat) : back n n2 m (v_coin_total r) = some (v_coin_total r) := by simp
theorem d_coin_total (N : Nat) (numbers_1 : (List Int)) (r : Int) (h : p_coin_total N numbers_1 = some r) : Does Try.prog 70 [.sl (numbers_1.map (AV.int .i64)) none] [] fun v c => v = v_coin_total r ∧ c = [] := by
  unfold p_coin_total at h
  refine Does.ofL comp70 _ _ rfl rfl ?_
  refine Ex.seq ?_
  refine regH 1 [] [0] [] (mkS 6 [(0, .sl (numbers_1.map (AV.int .i64)) none)]) (⟨[], []⟩) (by kernel_rfl) trivial rfl ?_
  refine Ex.seq ?_
  obtain ⟨r_2, hr_2, h⟩ := Option.bind_eq_some_iff.1 h
  refine Ex.reg ?_
  refine runH 1 [] [3] [] (mkS 6 [(3, .sl (numbers_1.map (AV.int .i64)) none)]) (⟨[], []⟩) (by kernel_rfl) trivial ?_
  refine ExO.callL [] [.sl (numbers_1.map (AV.int .i64)) none] rfl rfl (a_slices_Values_int_int numbers_1) rfl rfl (d_slices_Values_int_int N numbers_1 r_2 hr_2) (b_slices_Values_int_int _ _ _ _) rfl ?_
  obtain ⟨r_3, hr_3, h⟩ := Option.bind_eq_some_iff.1 h
  refine ExO.callL [] [.fn 115 [] [.rop [.sl (r_2.map (AV.int .i64)) none]], .fn 100 [] []] rfl rfl (by simp; try rfl) rfl rfl (d_coin_sum_int_slices_Values_int_int_1r_coin_total_1 N r_2 r_3 hr_3) (b_coin_sum_int_slices_Values_int_int_1r_coin_total_1 _ _ _ _) rfl ?_
  refine runH 1 [] [2] [] (mkS 6 [(2, .int .i64 r_3)]) (⟨[], []⟩) (by kernel_rfl) trivial ?_
  refine ExO.nil ?_
  refine Ex.ret ?_
  obtain rfl := Option.some.inj h
  exact ⟨.inr rfl, .int .i64 r_3, by kernel_rfl, by kernel_rfl, by kernel_rfl, by kernel_rfl⟩
def p_coin_checkRaffle (N : Nat) (tickets_1 : (List Int)) (secrets_2 : (List Int)) : Option (Int) := (bif (decide (((tickets_1.length : Nat) : Int) > 12)) then some 5 else (letJ (fun (_ : Unit) => (bif (((secrets_2.length : Nat) : Int) != ((tickets_1.length : Nat) : Int)) then some 1 else (letJ (fun (_ : Unit) => ((p_coin_total N tickets_1).bind fun r_27 => (bif (r_27 == 0) then some 4 else some 0))) (fun k_16 => (loop1 (fun rec_20 (y_19 : Int) => (bif (decide (y_19 < ((secrets_2.length : Nat) : Int))) then ((getI secrets_2 y_19).bind fun x_24 => ((p_coin_within N x_24 0 1000000000).bind fun r_25 => (bif (!r_25) then some 2 else (rec_20 (IntKind.i64.wrap (y_19 + 1)))))) else (k_16 ()))) N 0))))) (fun k_4 => (loop1 (fun rec_8 (y_7 : Int) => (bif (decide (y_7 < ((tickets_1.length : Nat) : Int))) then ((getI tickets_1 y_7).bind fun x_12 => ((p_coin_within N x_12 0 1000).bind fun r_13 => (bif (!r_13) then some 2 else (rec_8 (IntKind.i64.wrap (y_7 + 1)))))) else (k_4 ()))) N 0))))
def v_coin_checkRaffle (r : Int) : AV := .int .i64 r
attribute [local simp] v_coin_checkRaffle
theorem a_coin_checkRaffle (tickets_1 : (List Int)) (secrets_2 : (List Int)) : [.sl (tickets_1.map (AV.int .i64)) none, .sl (secrets_2.map (AV.int .i64)) none].mapM (ren []) = some [.sl (tickets_1.map (AV.int .i64)) none, .sl (secrets_2.map (AV.int .i64)) none] := by simp
theorem b_coin_checkRaffle (r : Int) (n n2 m : Nat) : back n n2 m (v_coin_checkRaffle r) = some (v_coin_checkRaffle r) := by simp
theorem d_coin_checkRaffle (N : Nat) (tickets_1 : (List Int)) (secrets_2 : (List Int)) (r : Int) (h : p_coin_checkRaffle N tickets_1 secrets_2 = some r) : Does Try.prog 69 [.sl (tickets_1.map (AV.int .i64)) none, .sl (secrets_2.map (AV.int .i64)) none] [] fun v c => v = v_coin_checkRaffle r ∧ c = [] := by
  unfold p_coin_checkRaffle at h
  refine Does.ofL comp69 _ _ rfl rfl ?_
  refine Ex.seq ?_
  refine regH 1 [] [0, 1] [] (mkS 40 [(0, .sl (tickets_1.map (AV.int .i64)) none), (1, .sl (secrets_2.map (AV.int .i64)) none)]) (⟨[], []⟩) (by kernel_rfl) trivial rfl ?_
  refine Ex.seq ?_
  refine Ex.seq ?_
  refine regH 3 [(1, .eq (.int .i64 ((tickets_1.length : Nat) : Int)))] [0, 1, 11] [AV.int .i64 (((tickets_1.map (AV.int .i64)).length : Nat) : Int) = AV.int .i64 ((tickets_1.length : Nat) : Int)] (mkS 40 [(0, .sl (tickets_1.map (AV.int .i64)) none), (1, .sl (secrets_2.map (AV.int .i64)) none), (11, .bool (decide (((tickets_1.length : Nat) : Int) > 12)))]) (⟨[], []⟩) (by kernel_rfl) ⟨lenM _ _, trivial⟩ rfl ?_
  rcases condI h with ⟨hc_3, h⟩ | ⟨hc_3, h⟩
  · refine Ex.condT _ rfl hc_3 ?_
    refine Ex.seq ?_
    refine regH 1 [] [4] [] (mkS 40 [(4, .int .i64 5)]) (⟨[], []⟩) (by kernel_rfl) trivial rfl ?_
    refine Ex.ret ?_
    obtain rfl := Option.some.inj h
    exact ⟨.inr rfl, .int .i64 5, by kernel_rfl, by kernel_rfl, by kernel_rfl, by kernel_rfl⟩
  · refine Ex.condF _ rfl hc_3 ?_
    refine Ex.skip ?_
    refine Ex.seq ?_
    refine Ex.seq ?_
    refine regH 3 [(1, .eq (.int .i64 ((tickets_1.length : Nat) : Int)))] [0, 1, 12, 13, 14] [AV.int .i64 (((tickets_1.map (AV.int .i64)).length : Nat) : Int) = AV.int .i64 ((tickets_1.length : Nat) : Int)] (mkS 40 [(0, .sl (tickets_1.map (AV.int .i64)) none), (1, .sl (secrets_2.map (AV.int .i64)) none), (12, .sl (tickets_1.map (AV.int .i64)) none), (13, .int .i64 ((tickets_1.length : Nat) : Int)), (14, .int .i64 0)]) (⟨[], []⟩) (by kernel_rfl) ⟨lenM _ _, trivial⟩ rfl ?_
    obtain ⟨K_5, hK_6, h⟩ := letE h
    refine Ex.blockJ (fun a S => K_5 () = some r ∧ a = mkS 40 [(0, .sl (tickets_1.map (AV.int .i64)) none), (1, .sl (secrets_2.map (AV.int .i64)) none)] ∧ S = ⟨[], []⟩) ?_ ?_
    · obtain ⟨B_9, hB_10, h⟩ := loop1I h
      refine Ex.loopF (fun k a S => ∃ (y_7 : Int), loop1 B_9 k y_7 = some r ∧ a = mkS 40 [(0, .sl (tickets_1.map (AV.int .i64)) none), (1, .sl (secrets_2.map (AV.int .i64)) none), (12, .sl (tickets_1.map (AV.int .i64)) none), (13, .int .i64 ((tickets_1.length : Nat) : Int)), (14, .int .i64 y_7)] ∧ S = ⟨[], []⟩) N ⟨_, _, Forgets.refl _ _ _, 0, h, rfl, rfl⟩ ?_
      rintro k a S ⟨y_7, h, rfl, rfl⟩
      cases k with
      | zero => exact (loop1Z h).elim
      | succ k =>
        replace h := loop1S h hB_10
        refine Ex.seq ?_
        refine regH 1 [] [0, 1, 12, 13, 14, 15] [] (mkS 40 [(0, .sl (tickets_1.map (AV.int .i64)) none), (1, .sl (secrets_2.map (AV.int .i64)) none), (12, .sl (tickets_1.map (AV.int .i64)) none), (13, .int .i64 ((tickets_1.length : Nat) : Int)), (14, .int .i64 y_7), (15, .bool (decide (y_7 < ((tickets_1.length : Nat) : Int))))]) (⟨[], []⟩) (by kernel_rfl) trivial rfl ?_
        refine Ex.seq ?_
        rcases condI h with ⟨hc_11, h⟩ | ⟨hc_11, h⟩
        · refine Ex.condT _ rfl hc_11 ?_
          refine Ex.skip ?_
          refine Ex.seq ?_
          refine Ex.blockK ?_
          refine Ex.seq ?_
          obtain ⟨x_12, hx_12, h⟩ := Option.bind_eq_some_iff.1 h
          refine regH 3 [(0, .rop [.int .i64 x_12])] [0, 1, 6, 12, 13, 14] [LGet (tickets_1.map (AV.int .i64)) y_7 1 [.int .i64 x_12]] (mkS 40 [(0, .sl (tickets_1.map (AV.int .i64)) none), (1, .sl (secrets_2.map (AV.int .i64)) none), (6, .int .i64 x_12), (12, .sl (tickets_1.map (AV.int .i64)) none), (13, .int .i64 ((tickets_1.length : Nat) : Int)), (14, .int .i64 y_7)]) (⟨[], []⟩) (by kernel_rfl) ⟨LGet.of hx_12 rfl, trivial⟩ rfl ?_
          refine Ex.seq ?_
          obtain ⟨r_13, hr_13, h⟩ := Option.bind_eq_some_iff.1 h
          refine Ex.reg ?_
          refine runH 1 [] [0, 1, 12, 13, 14, 18] [] (mkS 40 [(0, .sl (tickets_1.map (AV.int .i64)) none), (1, .sl (secrets_2.map (AV.int .i64)) none), (12, .sl (tickets_1.map (AV.int .i64)) none), (13, .int .i64 ((tickets_1.length : Nat) : Int)), (14, .int .i64 y_7), (18, .int .i64 x_12)]) (⟨[], []⟩) (by kernel_rfl) trivial ?_
          refine ExO.callL [] [.int .i64 x_12, .int .i64 0, .int .i64 1000] rfl rfl (a_coin_within x_12 0 1000) rfl rfl (d_coin_within N x_12 0 1000 r_13 hr_13) (b_coin_within _ _ _ _) rfl ?_
          refine runH 1 [] [0, 1, 12, 13, 14, 20] [] (mkS 40 [(0, .sl (tickets_1.map (AV.int .i64)) none), (1, .sl (secrets_2.map (AV.int .i64)) none), (12, .sl (tickets_1.map (AV.int .i64)) none), (13, .int .i64 ((tickets_1.length : Nat) : Int)), (14, .int .i64 y_7), (20, .bool (!r_13))]) (⟨[], []⟩) (by kernel_rfl) trivial ?_
          refine ExO.nil ?_
          rcases condI h with ⟨hc_14, h⟩ | ⟨hc_14, h⟩
          · refine Ex.condT _ rfl hc_14 ?_
            refine Ex.seq ?_
            refine regH 1 [] [4] [] (mkS 40 [(4, .int .i64 2)]) (⟨[], []⟩) (by kernel_rfl) trivial rfl ?_
            refine Ex.ret ?_
            obtain rfl := Option.some.inj h
            exact ⟨.inr rfl, .int .i64 2, by kernel_rfl, by kernel_rfl, by kernel_rfl, by kernel_rfl⟩
          · refine Ex.condF _ rfl hc_14 ?_
            refine Ex.skip ?_
            refine regH 2 [] [0, 1, 12, 13, 14] [] (mkS 40 [(0, .sl (tickets_1.map (AV.int .i64)) none), (1, .sl (secrets_2.map (AV.int .i64)) none), (12, .sl (tickets_1.map (AV.int .i64)) none), (13, .int .i64 ((tickets_1.length : Nat) : Int)), (14, .int .i64 (IntKind.i64.wrap (y_7 + 1)))]) (⟨[], []⟩) (by kernel_rfl) trivial rfl ?_
            dsimp only
            exact ⟨_, _, Forgets.refl _ _ _, k, Nat.lt_succ_self k, (IntKind.i64.wrap (y_7 + 1)), h, rfl, rfl⟩
        · refine Ex.condF _ rfl hc_11 ?_
          refine Ex.exit ?_
          (try simp only [reduceCtorEq, AEx.ex.injEq, Nat.reduceEqDiff, if_true, if_false])
          exact ⟨_, _, forgetK [0, 1], h, rfl, rfl⟩
    · rintro a S ⟨h, rfl, rfl⟩
      subst hK_6
      refine Ex.seq ?_
      refine Ex.seq ?_
      refine regH 5 [(1, .eq (.int .i64 ((secrets_2.length : Nat) : Int))), (3, .eq (.int .i64 ((tickets_1.length : Nat) : Int)))] [0, 1, 26] [AV.int .i64 (((secrets_2.map (AV.int .i64)).length : Nat) : Int) = AV.int .i64 ((secrets_2.length : Nat) : Int), AV.int .i64 (((tickets_1.map (AV.int .i64)).length : Nat) : Int) = AV.int .i64 ((tickets_1.length : Nat) : Int)] (mkS 40 [(0, .sl (tickets_1.map (AV.int .i64)) none), (1, .sl (secrets_2.map (AV.int .i64)) none), (26, .bool (((secrets_2.length : Nat) : Int) != ((tickets_1.length : Nat) : Int)))]) (⟨[], []⟩) (by kernel_rfl) ⟨lenM _ _, lenM _ _, trivial⟩ rfl ?_
      rcases condI h with ⟨hc_15, h⟩ | ⟨hc_15, h⟩
      · refine Ex.condT _ rfl hc_15 ?_
        refine Ex.seq ?_
        refine regH 1 [] [4] [] (mkS 40 [(4, .int .i64 1)]) (⟨[], []⟩) (by kernel_rfl) trivial rfl ?_
        refine Ex.ret ?_
        obtain rfl := Option.some.inj h
        exact ⟨.inr rfl, .int .i64 1, by kernel_rfl, by kernel_rfl, by kernel_rfl, by kernel_rfl⟩
      · refine Ex.condF _ rfl hc_15 ?_
        refine Ex.skip ?_
        refine Ex.seq ?_
        refine Ex.seq ?_
        refine regH 3 [(1, .eq (.int .i64 ((secrets_2.length : Nat) : Int)))] [0, 27, 28, 29] [AV.int .i64 (((secrets_2.map (AV.int .i64)).length : Nat) : Int) = AV.int .i64 ((secrets_2.length : Nat) : Int)] (mkS 40 [(0, .sl (tickets_1.map (AV.int .i64)) none), (27, .sl (secrets_2.map (AV.int .i64)) none), (28, .int .i64 ((secrets_2.length : Nat) : Int)), (29, .int .i64 0)]) (⟨[], []⟩) (by kernel_rfl) ⟨lenM _ _, trivial⟩ rfl ?_
        obtain ⟨K_17, hK_18, h⟩ := letE h
        refine Ex.blockJ (fun a S => K_17 () = some r ∧ a = mkS 40 [(0, .sl (tickets_1.map (AV.int .i64)) none)] ∧ S = ⟨[], []⟩) ?_ ?_
        · obtain ⟨B_21, hB_22, h⟩ := loop1I h
          refine Ex.loopF (fun k a S => ∃ (y_19 : Int), loop1 B_21 k y_19 = some r ∧ a = mkS 40 [(0, .sl (tickets_1.map (AV.int .i64)) none), (27, .sl (secrets_2.map (AV.int .i64)) none), (28, .int .i64 ((secrets_2.length : Nat) : Int)), (29, .int .i64 y_19)] ∧ S = ⟨[], []⟩) N ⟨_, _, Forgets.refl _ _ _, 0, h, rfl, rfl⟩ ?_
          rintro k a S ⟨y_19, h, rfl, rfl⟩
          cases k with
          | zero => exact (loop1Z h).elim
          | succ k =>
            replace h := loop1S h hB_22
            refine Ex.seq ?_
            refine regH 1 [] [0, 27, 28, 29, 30] [] (mkS 40 [(0, .sl (tickets_1.map (AV.int .i64)) none), (27, .sl (secrets_2.map (AV.int .i64)) none), (28, .int .i64 ((secrets_2.length : Nat) : Int)), (29, .int .i64 y_19), (30, .bool (decide (y_19 < ((secrets_2.length : Nat) : Int))))]) (⟨[], []⟩) (by kernel_rfl) trivial rfl ?_
            refine Ex.seq ?_
            rcases condI h with ⟨hc_23, h⟩ | ⟨hc_23, h⟩
            · refine Ex.condT _ rfl hc_23 ?_
              refine Ex.skip ?_
              refine Ex.seq ?_
              refine Ex.blockK ?_
              refine Ex.seq ?_
              obtain ⟨x_24, hx_24, h⟩ := Option.bind_eq_some_iff.1 h
              refine regH 3 [(0, .rop [.int .i64 x_24])] [0, 8, 27, 28, 29] [LGet (secrets_2.map (AV.int .i64)) y_19 1 [.int .i64 x_24]] (mkS 40 [(0, .sl (tickets_1.map (AV.int .i64)) none), (8, .int .i64 x_24), (27, .sl (secrets_2.map (AV.int .i64)) none), (28, .int .i64 ((secrets_2.length : Nat) : Int)), (29, .int .i64 y_19)]) (⟨[], []⟩) (by kernel_rfl) ⟨LGet.of hx_24 rfl, trivial⟩ rfl ?_
              refine Ex.seq ?_
              obtain ⟨r_25, hr_25, h⟩ := Option.bind_eq_some_iff.1 h
              refine Ex.reg ?_
              refine runH 1 [] [0, 27, 28, 29, 33] [] (mkS 40 [(0, .sl (tickets_1.map (AV.int .i64)) none), (27, .sl (secrets_2.map (AV.int .i64)) none), (28, .int .i64 ((secrets_2.length : Nat) : Int)), (29, .int .i64 y_19), (33, .int .i64 x_24)]) (⟨[], []⟩) (by kernel_rfl) trivial ?_
              refine ExO.callL [] [.int .i64 x_24, .int .i64 0, .int .i64 1000000000] rfl rfl (a_coin_within x_24 0 1000000000) rfl rfl (d_coin_within N x_24 0 1000000000 r_25 hr_25) (b_coin_within _ _ _ _) rfl ?_
              refine runH 1 [] [0, 27, 28, 29, 35] [] (mkS 40 [(0, .sl (tickets_1.map (AV.int .i64)) none), (27, .sl (secrets_2.map (AV.int .i64)) none), (28, .int .i64 ((secrets_2.length : Nat) : Int)), (29, .int .i64 y_19), (35, .bool (!r_25))]) (⟨[], []⟩) (by kernel_rfl) trivial ?_
              refine ExO.nil ?_
              rcases condI h with ⟨hc_26, h⟩ | ⟨hc_26, h⟩
              · refine Ex.condT _ rfl hc_26 ?_
                refine Ex.seq ?_
                refine regH 1 [] [4] [] (mkS 40 [(4, .int .i64 2)]) (⟨[], []⟩) (by kernel_rfl) trivial rfl ?_
                refine Ex.ret ?_
                obtain rfl := Option.some.inj h
                exact ⟨.inr rfl, .int .i64 2, by kernel_rfl, by kernel_rfl, by kernel_rfl, by kernel_rfl⟩
              · refine Ex.condF _ rfl hc_26 ?_
                refine Ex.skip ?_
                refine regH 2 [] [0, 27, 28, 29] [] (mkS 40 [(0, .sl (tickets_1.map (AV.int .i64)) none), (27, .sl (secrets_2.map (AV.int .i64)) none), (28, .int .i64 ((secrets_2.length : Nat) : Int)), (29, .int .i64 (IntKind.i64.wrap (y_19 + 1)))]) (⟨[], []⟩) (by kernel_rfl) trivial rfl ?_
                dsimp only
                exact ⟨_, _, Forgets.refl _ _ _, k, Nat.lt_succ_self k, (IntKind.i64.wrap (y_19 + 1)), h, rfl, rfl⟩
            · refine Ex.condF _ rfl hc_23 ?_
              refine Ex.exit ?_
              (try simp only [reduceCtorEq, AEx.ex.injEq, Nat.reduceEqDiff, if_true, if_false])
              exact ⟨_, _, forgetK [0], h, rfl, rfl⟩
        · rintro a S ⟨h, rfl, rfl⟩
          subst hK_18
          refine Ex.seq ?_
          refine Ex.seq ?_
          obtain ⟨r_27, hr_27, h⟩ := Option.bind_eq_some_iff.1 h
          refine Ex.reg ?_
          refine runH 1 [] [37] [] (mkS 40 [(37, .sl (tickets_1.map (AV.int .i64)) none)]) (⟨[], []⟩) (by kernel_rfl) trivial ?_
          refine ExO.callL [] [.sl (tickets_1.map (AV.int .i64)) none] rfl rfl (a_coin_total tickets_1) rfl rfl (d_coin_total N tickets_1 r_27 hr_27) (b_coin_total _ _ _ _) rfl ?_
          refine runH 1 [] [39] [] (mkS 40 [(39, .bool (r_27 == 0))]) (⟨[], []⟩) (by kernel_rfl) trivial ?_
          refine ExO.nil ?_
          rcases condI h with ⟨hc_28, h⟩ | ⟨hc_28, h⟩
          · refine Ex.condT _ rfl hc_28 ?_
            refine Ex.seq ?_
            refine regH 1 [] [4] [] (mkS 40 [(4, .int .i64 4)]) (⟨[], []⟩) (by kernel_rfl) trivial rfl ?_
            refine Ex.ret ?_
            obtain rfl := Option.some.inj h
            exact ⟨.inr rfl, .int .i64 4, by kernel_rfl, by kernel_rfl, by kernel_rfl, by kernel_rfl⟩
          · refine Ex.condF _ rfl hc_28 ?_
            refine Ex.skip ?_
            refine Ex.seq ?_
            refine regH 1 [] [4] [] (mkS 40 [(4, .int .i64 0)]) (⟨[], []⟩) (by kernel_rfl) trivial rfl ?_
            refine Ex.ret ?_
            obtain rfl := Option.some.inj h
            exact ⟨.inr rfl, .int .i64 0, by kernel_rfl, by kernel_rfl, by kernel_rfl, by kernel_rfl⟩
def p_coin_holderOf (N : Nat) (tickets_1 : (List Int)) (ticket_2 : Int) : Option (Int) := (letJ (fun (holder_3 : Int) => some holder_3) (fun k_4 => (loop2 (fun rec_9 (ticket_7 : Int) (holder_8 : Int) => ((getI tickets_1 holder_8).bind fun x_12 => (bif (decide (ticket_7 ≥ x_12)) then ((getI tickets_1 holder_8).bind fun x_14 => (rec_9 (IntKind.i64.wrap (ticket_7 - x_14)) (IntKind.i64.wrap (holder_8 + 1)))) else (k_4 holder_8)))) N ticket_2 0)))
def v_coin_holderOf (r : Int) : AV := .int .i64 r
attribute [local simp] v_coin_holderOf
theorem a_coin_holderOf (tickets_1 : (List Int)) (ticket_2 : Int) : [.sl (tickets_1.map (AV.int .i64)) none, .int .i64 ticket_2].mapM (ren []) = some [.sl (tickets_1.map (AV.int .i64)) none, .int .i64 ticket_2] := by simp
theorem b_coin_holderOf (r : Int) (n n2 m : Nat) : back n n2 m (v_coin_holderOf r) = some (v_coin_holderOf r) := by simp
theorem d_coin_holderOf (N : Nat) (tickets_1 : (List Int)) (ticket_2 : Int) (r : Int) (h : p_coin_holderOf N tickets_1 ticket_2 = some r) : Does Try.prog 71 [.sl (tickets_1.map (AV.int .i64)) none, .int .i64 ticket_2] [] fun v c => v = v_coin_holderOf r ∧ c = [] := by
  unfold p_coin_holderOf at h
  refine Does.ofL comp71 _ _ rfl rfl ?_
  refine Ex.seq ?_
  refine regH 1 [] [0, 1] [] (mkS 21 [(0, .sl (tickets_1.map (AV.int .i64)) none), (1, .int .i64 ticket_2)]) (⟨[], []⟩) (by kernel_rfl) trivial rfl ?_
  refine Ex.seq ?_
  refine regH 1 [] [0, 1, 5] [] (mkS 21 [(0, .sl (tickets_1.map (AV.int .i64)) none), (1, .int .i64 ticket_2), (5, .int .i64 0)]) (⟨[], []⟩) (by kernel_rfl) trivial rfl ?_
  refine Ex.seq ?_
  obtain ⟨K_5, hK_6, h⟩ := letE h
  refine Ex.blockJ (fun a S => ∃ (holder_3 : Int), K_5 holder_3 = some r ∧ a = mkS 21 [(5, .int .i64 holder_3)] ∧ S = ⟨[], []⟩) ?_ ?_
  · obtain ⟨B_10, hB_11, h⟩ := loop2I h
    refine Ex.loopF (fun k a S => ∃ (ticket_7 : Int), ∃ (holder_8 : Int), loop2 B_10 k ticket_7 holder_8 = some r ∧ a = mkS 21 [(0, .sl (tickets_1.map (AV.int .i64)) none), (1, .int .i64 ticket_7), (5, .int .i64 holder_8)] ∧ S = ⟨[], []⟩) N ⟨_, _, Forgets.refl _ _ _, ticket_2, 0, h, rfl, rfl⟩ ?_
    rintro k a S ⟨ticket_7, holder_8, h, rfl, rfl⟩
    cases k with
    | zero => exact (loop2Z h).elim
    | succ k =>
      replace h := loop2S h hB_11
      refine Ex.seq ?_
      refine Ex.seq ?_
      obtain ⟨x_12, hx_12, h⟩ := Option.bind_eq_some_iff.1 h
      refine regH 6 [(3, .rop [.int .i64 x_12])] [0, 1, 5, 11] [LGet (tickets_1.map (AV.int .i64)) holder_8 1 [.int .i64 x_12]] (mkS 21 [(0, .sl (tickets_1.map (AV.int .i64)) none), (1, .int .i64 ticket_7), (5, .int .i64 holder_8), (11, .bool (decide (ticket_7 ≥ x_12)))]) (⟨[], []⟩) (by kernel_rfl) ⟨LGet.of hx_12 rfl, trivial⟩ rfl ?_
      rcases condI h with ⟨hc_13, h⟩ | ⟨hc_13, h⟩
      · refine Ex.condT _ rfl hc_13 ?_
        refine Ex.skip ?_
        refine Ex.blockK ?_
        refine Ex.seq ?_
        obtain ⟨x_14, hx_14, h⟩ := Option.bind_eq_some_iff.1 h
        refine regH 7 [(3, .rop [.int .i64 x_14])] [0, 1, 5] [LGet (tickets_1.map (AV.int .i64)) holder_8 1 [.int .i64 x_14]] (mkS 21 [(0, .sl (tickets_1.map (AV.int .i64)) none), (1, .int .i64 (IntKind.i64.wrap (ticket_7 - x_14))), (5, .int .i64 holder_8)]) (⟨[], []⟩) (by kernel_rfl) ⟨LGet.of hx_14 rfl, trivial⟩ rfl ?_
        refine regH 3 [] [0, 1, 5] [] (mkS 21 [(0, .sl (tickets_1.map (AV.int .i64)) none), (1, .int .i64 (IntKind.i64.wrap (ticket_7 - x_14))), (5, .int .i64 (IntKind.i64.wrap (holder_8 + 1)))]) (⟨[], []⟩) (by kernel_rfl) trivial rfl ?_
        dsimp only
        exact ⟨_, _, Forgets.refl _ _ _, k, Nat.lt_succ_self k, (IntKind.i64.wrap (ticket_7 - x_14)), (IntKind.i64.wrap (holder_8 + 1)), h, rfl, rfl⟩
      · refine Ex.condF _ rfl hc_13 ?_
        refine Ex.exit ?_
        (try simp only [reduceCtorEq, AEx.ex.injEq, Nat.reduceEqDiff, if_true, if_false])
        exact ⟨_, _, forgetK [5], holder_8, h, rfl, rfl⟩
  · rintro a S ⟨holder_3, h, rfl, rfl⟩
    subst hK_6
    refine Ex.seq ?_
    refine regH 2 [] [4] [] (mkS 21 [(4, .int .i64 holder_3)]) (⟨[], []⟩) (by kernel_rfl) trivial rfl ?_
    refine Ex.ret ?_
    obtain rfl := Option.some.inj h
    exact ⟨.inr rfl, .int .i64 holder_3, by kernel_rfl, by kernel_rfl, by kernel_rfl, by kernel_rfl⟩
def p_coin_Draw (N : Nat) (tickets_1 : (List Int)) (secrets_2 : (List Int)) : Option (Int × Int × Int) := ((p_coin_checkRaffle N tickets_1 secrets_2).bind fun r_3 => (bif (r_3 != 0) then some (0, 0, r_3) else ((p_coin_total N secrets_2).bind fun r_5 => ((p_coin_total N tickets_1).bind fun r_6 => ((nzI r_6).bind fun u_7 => ((p_coin_holderOf N tickets_1 (Int.tmod r_5 r_6)).bind fun r_8 => some ((Int.tmod r_5 r_6), r_8, 0)))))))
def v_coin_Draw (r : Int × Int × Int) : AV := .tup [.int .i64 r.1, .int .i64 r.2.1, .int .i64 r.2.2]
attribute [local simp] v_coin_Draw
theorem a_coin_Draw (tickets_1 : (List Int)) (secrets_2 : (List Int)) : [.sl (tickets_1.map (AV.int .i64)) none, .sl (secrets_2.map (AV.int .i64)) none].mapM (ren []) = some [.sl (tickets_1.map (AV.int .i64)) none, .sl (secrets_2.map (AV.int .i64)) none] := by simp
theorem b_coin_Draw (r : Int × Int × Int) (n n2 m : Nat) : back n n2 m (v_coin_Draw r) = some (v_coin_Draw r) := by simp
theorem d_coin_Draw (N : Nat) (tickets_1 : (List Int)) (secrets_2 : (List Int)) (r : Int × Int × Int) (h : p_coin_Draw N tickets_1 secrets_2 = some r) : Does Try.prog 32 [.sl (tickets_1.map (AV.int .i64)) none, .sl (secrets_2.map (AV.int .i64)) none] [] fun v c => v = v_coin_Draw r ∧ c = [] := by
  unfold p_coin_Draw at h
  refine Does.ofL comp32 _ _ rfl rfl ?_
  refine Ex.seq ?_
  refine regH 3 [] [0, 1] [] (mkS 23 [(0, .sl (tickets_1.map (AV.int .i64)) none), (1, .sl (secrets_2.map (AV.int .i64)) none)]) (⟨[], []⟩) (by kernel_rfl) trivial rfl ?_
  refine Ex.seq ?_
  refine Ex.seq ?_
  obtain ⟨r_3, hr_3, h⟩ := Option.bind_eq_some_iff.1 h
  refine Ex.reg ?_
  refine runH 2 [] [0, 1, 8, 9] [] (mkS 23 [(0, .sl (tickets_1.map (AV.int .i64)) none), (1, .sl (secrets_2.map (AV.int .i64)) none), (8, .sl (tickets_1.map (AV.int .i64)) none), (9, .sl (secrets_2.map (AV.int .i64)) none)]) (⟨[], []⟩) (by kernel_rfl) trivial ?_
  refine ExO.callL [] [.sl (tickets_1.map (AV.int .i64)) none, .sl (secrets_2.map (AV.int .i64)) none] rfl rfl (a_coin_checkRaffle tickets_1 secrets_2) rfl rfl (d_coin_checkRaffle N tickets_1 secrets_2 r_3 hr_3) (b_coin_checkRaffle _ _ _ _) rfl ?_
  refine runH 1 [] [0, 1, 7] [] (mkS 23 [(0, .sl (tickets_1.map (AV.int .i64)) none), (1, .sl (secrets_2.map (AV.int .i64)) none), (7, .int .i64 r_3)]) (⟨[], []⟩) (by kernel_rfl) trivial ?_
  refine ExO.nil ?_
  refine Ex.seq ?_
  refine regH 2 [] [0, 1, 7, 12] [] (mkS 23 [(0, .sl (tickets_1.map (AV.int .i64)) none), (1, .sl (secrets_2.map (AV.int .i64)) none), (7, .int .i64 r_3), (12, .bool (r_3 != 0))]) (⟨[], []⟩) (by kernel_rfl) trivial rfl ?_
  rcases condI h with ⟨hc_4, h⟩ | ⟨hc_4, h⟩
  · refine Ex.condT _ rfl hc_4 ?_
    refine Ex.seq ?_
    refine regH 4 [] [4, 5, 6] [] (mkS 23 [(4, .int .i64 0), (5, .int .i64 0), (6, .int .i64 r_3)]) (⟨[], []⟩) (by kernel_rfl) trivial rfl ?_
    refine Ex.ret ?_
    obtain rfl := Option.some.inj h
    exact ⟨.inr rfl, .tup [.int .i64 0, .int .i64 0, .int .i64 r_3], by kernel_rfl, by kernel_rfl, by kernel_rfl, by kernel_rfl⟩
  · refine Ex.condF _ rfl hc_4 ?_
    refine Ex.skip ?_
    refine Ex.seq ?_
    obtain ⟨r_5, hr_5, h⟩ := Option.bind_eq_some_iff.1 h
    refine Ex.reg ?_
    refine runH 1 [] [0, 14] [] (mkS 23 [(0, .sl (tickets_1.map (AV.int .i64)) none), (14, .sl (secrets_2.map (AV.int .i64)) none)]) (⟨[], []⟩) (by kernel_rfl) trivial ?_
    refine ExO.callL [] [.sl (secrets_2.map (AV.int .i64)) none] rfl rfl (a_coin_total secrets_2) rfl rfl (d_coin_total N secrets_2 r_5 hr_5) (b_coin_total _ _ _ _) rfl ?_
    obtain ⟨r_6, hr_6, h⟩ := Option.bind_eq_some_iff.1 h
    refine runH 1 [] [0, 15, 16] [] (mkS 23 [(0, .sl (tickets_1.map (AV.int .i64)) none), (15, .int .i64 r_5), (16, .sl (tickets_1.map (AV.int .i64)) none)]) (⟨[], []⟩) (by kernel_rfl) trivial ?_
    refine ExO.callL [] [.sl (tickets_1.map (AV.int .i64)) none] rfl rfl (a_coin_total tickets_1) rfl rfl (d_coin_total N tickets_1 r_6 hr_6) (b_coin_total _ _ _ _) rfl ?_
    obtain ⟨u_7, hu_7, h⟩ := Option.bind_eq_some_iff.1 h
    refine runH 2 [(0, .bin (.int .i64 (Int.tmod r_5 r_6)))] [0, 4] [binA .rem (.int .i64 r_5) (.int .i64 r_6) = some (.int .i64 (Int.tmod r_5 r_6))] (mkS 23 [(0, .sl (tickets_1.map (AV.int .i64)) none), (4, .int .i64 (Int.tmod r_5 r_6))]) (⟨[], []⟩) (by kernel_rfl) ⟨binR hu_7, trivial⟩ ?_
    refine ExO.nil ?_
    refine Ex.seq ?_
    obtain ⟨r_8, hr_8, h⟩ := Option.bind_eq_some_iff.1 h
    refine Ex.reg ?_
    refine runH 3 [] [19, 20, 21] [] (mkS 23 [(19, .int .i64 (Int.tmod r_5 r_6)), (20, .sl (tickets_1.map (AV.int .i64)) none), (21, .int .i64 (Int.tmod r_5 r_6))]) (⟨[], []⟩) (by kernel_rfl) trivial ?_
    refine ExO.callL [] [.sl (tickets_1.map (AV.int .i64)) none, .int .i64 (Int.tmod r_5 r_6)] rfl rfl (a_coin_holderOf tickets_1 (Int.tmod r_5 r_6)) rfl rfl (d_coin_holderOf N tickets_1 (Int.tmod r_5 r_6) r_8 hr_8) (b_coin_holderOf _ _ _ _) rfl ?_
    refine runH 3 [] [4, 5, 6] [] (mkS 23 [(4, .int .i64 (Int.tmod r_5 r_6)), (5, .int .i64 r_8), (6, .int .i64 0)]) (⟨[], []⟩) (by kernel_rfl) trivial ?_
    refine ExO.nil ?_
    refine Ex.ret ?_
    obtain rfl := Option.some.inj h
    exact ⟨.inr rfl, .tup [.int .i64 (Int.tmod r_5 r_6), .int .i64 r_8, .int .i64 0], by kernel_rfl, by kernel_rfl, by kernel_rfl, by kernel_rfl⟩
def v_slices_Values_api_Fund_api_Fund (r : (List T_api_Fund)) : AV := .fn 107 [] [.rop [.sl (r.map A_api_Fund) none]]
attribute [local simp] v_slices_Values_api_Fund_api_Fund
def v_coin_amountUntil (r : Int) : AV := .int .i64 r
attribute [local simp] v_coin_amountUntil
def v_slices_Values_api_Bill_api_Bill (r : (List T_api_Bill)) : AV := .fn 108 [] [.rop [.sl (r.map A_api_Bill) none]]
attribute [local simp] v_slices_Values_api_Bill_api_Bill
def v_coin_Balance_1 (r : Int) : AV := .int .i64 r
attribute [local simp] v_coin_Balance_1
def v_coin_sum_api_Fund_api_Fund_1r_coin_Balance_1 (r : Int) : AV := .int .i64 r
attribute [local simp] v_coin_sum_api_Fund_api_Fund_1r_coin_Balance_1
def v_coin_Balance_2 (r : Int) : AV := .int .i64 r
attribute [local simp] v_coin_Balance_2
def v_coin_sum_api_Bill_api_Bill_1r_coin_Balance_2 (r : Int) : AV := .int .i64 r
attribute [local simp] v_coin_sum_api_Bill_api_Bill_1r_coin_Balance_2
def v_coin_Balance (r : Int × Int) : AV := .tup [.int .i64 r.1, .int .i64 r.2]
attribute [local simp] v_coin_Balance
def p_math_bits_TrailingZeros8 (N : Nat) (x_1 : Int) : Option (Int) := ((idxB (ByteArray.mk #[8, 0, 1, 0, 2, 0, 1, 0, 3, 0, 1, 0, 2, 0, 1, 0, 4, 0, 1, 0, 2, 0, 1, 0, 3, 0, 1, 0, 2, 0, 1, 0, 5, 0, 1, 0, 2, 0, 1, 0, 3, 0, 1, 0, 2, 0, 1, 0, 4, 0, 1, 0, 2, 0, 1, 0, 3, 0, 1, 0, 2, 0, 1, 0, 6, 0, 1, 0, 2, 0, 1, 0, 3, 0, 1, 0, 2, 0, 1, 0, 4, 0, 1, 0, 2, 0, 1, 0, 3, 0, 1, 0, 2, 0, 1, 0, 5, 0, 1, 0, 2, 0, 1, 0, 3, 0, 1, 0, 2, 0, 1, 0, 4, 0, 1, 0, 2, 0, 1, 0, 3, 0, 1, 0, 2, 0, 1, 0, 7, 0, 1, 0, 2, 0, 1, 0, 3, 0, 1, 0, 2, 0, 1, 0, 4, 0, 1, 0, 2, 0, 1, 0, 3, 0, 1, 0, 2, 0, 1, 0, 5, 0, 1, 0, 2, 0, 1, 0, 3, 0, 1, 0, 2, 0, 1, 0, 4, 0, 1, 0, 2, 0, 1, 0, 3, 0, 1, 0, 2, 0, 1, 0, 6, 0, 1, 0, 2, 0, 1, 0, 3, 0, 1, 0, 2, 0, 1, 0, 4, 0, 1, 0, 2, 0, 1, 0, 3, 0, 1, 0, 2, 0, 1, 0, 5, 0, 1, 0, 2, 0, 1, 0, 3, 0, 1, 0, 2, 0, 1, 0, 4, 0, 1, 0, 2, 0, 1, 0, 3, 0, 1, 0, 2, 0, 1, 0]) x_1).bind fun c_2 => some (IntKind.i64.wrap c_2))
def v_math_bits_TrailingZeros8 (r : Int) : AV := .int .i64 r
attribute [local simp] v_math_bits_TrailingZeros8
theorem a_math_bits_TrailingZeros8 (x_1 : Int) : [.int .u8 x_1].mapM (ren []) = some [.int .u8 x_1] := by simp
theorem b_math_bits_TrailingZeros8 (r : Int) (n n2 m : Nat) : back n n2 m (v_math_bits_TrailingZeros8 r) = some (v_math_bits_TrailingZeros8 r) := by simp
theorem d_math_bits_TrailingZeros8 (N : Nat) (x_1 : Int) (r : Int) (h : p_math_bits_TrailingZeros8 N x_1 = some r) : Does Try.prog 92 [.int .u8 x_1] [] fun v c => v = v_math_bits_TrailingZeros8 r ∧ c = [] := by
  unfold p_math_bits_TrailingZeros8 at h
  refine Does.ofL comp92 _ _ rfl rfl ?_
  refine Ex.seq ?_
  refine regH 1 [] [0] [] (mkS 6 [(0, .int .u8 x_1)]) (⟨[], []⟩) (by kernel_rfl) trivial rfl ?_
  refine Ex.seq ?_
  obtain ⟨c_2, hc_2, h⟩ := Option.bind_eq_some_iff.1 h
  refine regH 4 [(1, .ix c_2)] [2] [LIdx (ByteArray.mk #[8, 0, 1, 0, 2, 0, 1, 0, 3, 0, 1, 0, 2, 0, 1, 0, 4, 0, 1, 0, 2, 0, 1, 0, 3, 0, 1, 0, 2, 0, 1, 0, 5, 0, 1, 0, 2, 0, 1, 0, 3, 0, 1, 0, 2, 0, 1, 0, 4, 0, 1, 0, 2, 0, 1, 0, 3, 0, 1, 0, 2, 0, 1, 0, 6, 0, 1, 0, 2, 0, 1, 0, 3, 0, 1, 0, 2, 0, 1, 0, 4, 0, 1, 0, 2, 0, 1, 0, 3, 0, 1, 0, 2, 0, 1, 0, 5, 0, 1, 0, 2, 0, 1, 0, 3, 0, 1, 0, 2, 0, 1, 0, 4, 0, 1, 0, 2, 0, 1, 0, 3, 0, 1, 0, 2, 0, 1, 0, 7, 0, 1, 0, 2, 0, 1, 0, 3, 0, 1, 0, 2, 0, 1, 0, 4, 0, 1, 0, 2, 0, 1, 0, 3, 0, 1, 0, 2, 0, 1, 0, 5, 0, 1, 0, 2, 0, 1, 0, 3, 0, 1, 0, 2, 0, 1, 0, 4, 0, 1, 0, 2, 0, 1, 0, 3, 0, 1, 0, 2, 0, 1, 0, 6, 0, 1, 0, 2, 0, 1, 0, 3, 0, 1, 0, 2, 0, 1, 0, 4, 0, 1, 0, 2, 0, 1, 0, 3, 0, 1, 0, 2, 0, 1, 0, 5, 0, 1, 0, 2, 0, 1, 0, 3, 0, 1, 0, 2, 0, 1, 0, 4, 0, 1, 0, 2, 0, 1, 0, 3, 0, 1, 0, 2, 0, 1, 0]) x_1 c_2] (mkS 6 [(2, .int .i64 (IntKind.i64.wrap c_2))]) (⟨[], []⟩) (by kernel_rfl) ⟨idxB.of hc_2, trivial⟩ rfl ?_
  refine Ex.ret ?_
  obtain rfl := Option.some.inj h
  exact ⟨.inr rfl, .int .i64 (IntKind.i64.wrap c_2), by kernel_rfl, by kernel_rfl, by kernel_rfl, by kernel_rfl⟩
def p_coin_set_numbers (N : Nat) (s_1 : Int) : Option (Int) := some s_1
def v_coin_set_numbers (r : Int) : AV := .fn 91 [] [.rop [.int .u8 r]]
attribute [local simp] v_coin_set_numbers
theorem a_coin_set_numbers (s_1 : Int) : [.int .u8 s_1].mapM (ren []) = some [.int .u8 s_1] := by simp
theorem b_coin_set_numbers (r : Int) (n n2 m : Nat) : back n n2 m (v_coin_set_numbers r) = some (v_coin_set_numbers r) := by simp
theorem d_coin_set_numbers (N : Nat) (s_1 : Int) (r : Int) (h : p_coin_set_numbers N s_1 = some r) : Does Try.prog 59 [.int .u8 s_1] [] fun v c => v = v_coin_set_numbers r ∧ c = [] := by
  unfold p_coin_set_numbers at h
  refine Does.ofL comp59 _ _ rfl rfl ?_
  refine Ex.seq ?_
  refine regH 2 [] [1] [] (mkS 4 [(1, .ptr 0 0)]) (⟨[[.int .u8 s_1]], []⟩) (by kernel_rfl) trivial rfl ?_
  refine Ex.seq ?_
  refine regH 2 [] [2] [] (mkS 4 [(2, .fn 91 [] [.ptr 0 0])]) (⟨[[.int .u8 s_1]], []⟩) (by kernel_rfl) trivial rfl ?_
  refine Ex.forget (forgetK [2]) ?_
  refine Ex.castA (a2 := mkS 4 [(2, .fn 91 [] [.ptr 0 0])]) (S2 := ⟨[[.int .u8 s_1]], []⟩) (by kernel_rfl) (by kernel_rfl) ?_
  obtain rfl := Option.some.inj h
  refine Ex.forget (chillP 2 0 [.int .u8 s_1] _ rfl rfl) ?_
  refine Ex.castA (a2 := mkS 4 [(2, .fn 91 [] [.rop [.int .u8 s_1]])]) (S2 := ⟨[[]], []⟩) (by kernel_rfl) (by kernel_rfl) ?_
  refine Ex.ret ?_
  exact ⟨.inr rfl, .fn 91 [] [.rop [.int .u8 s_1]], by kernel_rfl, by kernel_rfl, by kernel_rfl, by kernel_rfl⟩
structure T_coin_claim where
  amount_ : Int
  payers_ : Int
  deriving Inhabited
def C_coin_claim (x : T_coin_claim) : List AV := [.int .i64 x.amount_, .int .u8 x.payers_]
attribute [local simp] C_coin_claim
def A_coin_claim (x : T_coin_claim) : AV := .agg (C_coin_claim x)
attribute [local simp] A_coin_claim
theorem KC_coin_claim (x : T_coin_claim) : cleanL (C_coin_claim x) = true := by simp
theorem KA_coin_claim (x : T_coin_claim) : (A_coin_claim x).clean = true := KC_coin_claim x
theorem KL_coin_claim (l : List T_coin_claim) : cleanL (l.map A_coin_claim) = true := cleanM KA_coin_claim l
attribute [local simp] KL_coin_claim
theorem KB_coin_claim (x : T_coin_claim) (n : Nat) (σ : List Nat) : (C_coin_claim x).mapM (re n σ) = some (C_coin_claim x) := by simp
def p_coin_claims_amount (N : Nat) (c_1 : (List T_coin_claim)) (bill_2 : Int) : Option (Int) := ((getI c_1 bill_2).bind fun x_3 => some x_3.amount_)
def v_coin_claims_amount (r : Int) : AV := .int .i64 r
attribute [local simp] v_coin_claims_amount
theorem b_coin_claims_amount (r : Int) (n n2 m : Nat) : back n n2 m (v_coin_claims_amount r) = some (v_coin_claims_amount r) := by simp
theorem d_coin_claims_amount (N : Nat) (c_1 : (List T_coin_claim)) (bill_2 : Int) (r : Int) (h : p_coin_claims_amount N c_1 bill_2 = some r) : Does Try.prog 112 [.sl (c_1.map A_coin_claim) none, .int .i64 bill_2] [] fun v c => v = v_coin_claims_amount r ∧ c = [] := by
  unfold p_coin_claims_amount at h
  refine Does.ofL comp112 _ _ rfl rfl ?_
  refine Ex.seq ?_
  refine regH 1 [] [0, 1] [] (mkS 10 [(0, .sl (c_1.map A_coin_claim) none), (1, .int .i64 bill_2)]) (⟨[], []⟩) (by kernel_rfl) trivial rfl ?_
  refine Ex.seq ?_
  obtain ⟨x_3, hx_3, h⟩ := Option.bind_eq_some_iff.1 h
  refine regH 6 [(2, .rop (C_coin_claim x_3))] [4] [LGet (c_1.map A_coin_claim) bill_2 2 (C_coin_claim x_3)] (mkS 10 [(4, .int .i64 x_3.amount_)]) (⟨[], []⟩) (by kernel_rfl) ⟨LGet.of hx_3 rfl, trivial⟩ rfl ?_
  refine Ex.ret ?_
  obtain rfl := Option.some.inj h
  exact ⟨.inr rfl, .int .i64 x_3.amount_, by kernel_rfl, by kernel_rfl, by kernel_rfl, by kernel_rfl⟩
structure T_V8_i64 where
  a0 : Int
  a1 : Int
  a2 : Int
  a3 : Int
  a4 : Int
  a5 : Int
  a6 : Int
  a7 : Int
  deriving Inhabited
def C_V8_i64 (x : T_V8_i64) : List AV := [.int .i64 x.a0, .int .i64 x.a1, .int .i64 x.a2, .int .i64 x.a3, .int .i64 x.a4, .int .i64 x.a5, .int .i64 x.a6, .int .i64 x.a7]
attribute [local simp] C_V8_i64
def A_V8_i64 (x : T_V8_i64) : AV := .agg (C_V8_i64 x)
attribute [local simp] A_V8_i64
theorem KC_V8_i64 (x : T_V8_i64) : cleanL (C_V8_i64 x) = true := by simp
theorem KA_V8_i64 (x : T_V8_i64) : (A_V8_i64 x).clean = true := KC_V8_i64 x
theorem KL_V8_i64 (l : List T_V8_i64) : cleanL (l.map A_V8_i64) = true := cleanM KA_V8_i64 l
attribute [local simp] KL_V8_i64
theorem KB_V8_i64 (x : T_V8_i64) (n : Nat) (σ : List Nat) : (C_V8_i64 x).mapM (re n σ) = some (C_V8_i64 x) := by simp
def T_V8_i64.l (x : T_V8_i64) : List Int := [x.a0, x.a1, x.a2, x.a3, x.a4, x.a5, x.a6, x.a7]
def T_V8_i64.ofl (l : List Int) : T_V8_i64 := ⟨l[0]?.getD default, l[1]?.getD default, l[2]?.getD default, l[3]?.getD default, l[4]?.getD default, l[5]?.getD default, l[6]?.getD default, l[7]?.getD default⟩
theorem T_V8_i64.l_ofl (l : List Int) (h : l.length = 8) : (T_V8_i64.ofl l).l = l := by
  obtain ⟨a0, l0, rfl, h0⟩ := lenS h
  obtain ⟨a1, l1, rfl, h1⟩ := lenS h0
  obtain ⟨a2, l2, rfl, h2⟩ := lenS h1
  obtain ⟨a3, l3, rfl, h3⟩ := lenS h2
  obtain ⟨a4, l4, rfl, h4⟩ := lenS h3
  obtain ⟨a5, l5, rfl, h5⟩ := lenS h4
  obtain ⟨a6, l6, rfl, h6⟩ := lenS h5
  obtain ⟨a7, l7, rfl, h7⟩ := lenS h6
  obtain rfl := List.eq_nil_of_length_eq_zero h7; rfl
def p_coin_purse_of (N : Nat) (p_1 : T_V8_i64) (fund_2 : Int) : Option (Int) := ((idxI fund_2 8).bind fun u_3 => ((p_1.l[Int.toNat fund_2]?).bind fun x_4 => some x_4))
def v_coin_purse_of (r : Int) : AV := .int .i64 r
attribute [local simp] v_coin_purse_of
theorem b_coin_purse_of (r : Int) (n n2 m : Nat) : back n n2 m (v_coin_purse_of r) = some (v_coin_purse_of r) := by simp
theorem d_coin_purse_of (N : Nat) (p_1 : T_V8_i64) (fund_2 : Int) (r : Int) (h : p_coin_purse_of N p_1 fund_2 = some r) : Does Try.prog 113 [(A_V8_i64 p_1), .int .i64 fund_2] [] fun v c => v = v_coin_purse_of r ∧ c = [] := by
  unfold p_coin_purse_of at h
  refine Does.ofL comp113 _ _ rfl rfl ?_
  refine Ex.seq ?_
  refine regH 2 [] [1, 2] [] (mkS 8 [(1, .int .i64 fund_2), (2, .ptr 0 0)]) (⟨[(C_V8_i64 p_1)], []⟩) (by kernel_rfl) trivial rfl ?_
  refine Ex.seq ?_
  obtain ⟨u_3, hu_3, h⟩ := Option.bind_eq_some_iff.1 h
  obtain ⟨x_4, hx_4, h⟩ := Option.bind_eq_some_iff.1 h
  refine regH 4 [(1, .adr), (2, .ld (.int .i64 x_4))] [4] [0 ≤ fund_2 ∧ fund_2 < ((8 : Nat) : Int), takeCells (C_V8_i64 p_1) (0 + Int.toNat fund_2 * 1) none = some (.int .i64 x_4)] (mkS 8 [(4, .int .i64 x_4)]) (⟨[(C_V8_i64 p_1)], []⟩) (by kernel_rfl) ⟨idxI.of hu_3, ldArr (f := (AV.int .i64)) p_1.l (C_V8_i64 p_1) 0 0 8 fund_2 x_4 (.int .i64 x_4) (fun _ => rfl) (by kernel_rfl) rfl hu_3 hx_4 rfl, trivial⟩ rfl ?_
  refine Ex.ret ?_
  obtain rfl := Option.some.inj h
  exact ⟨.inr rfl, .int .i64 x_4, by kernel_rfl, by kernel_rfl, by kernel_rfl, by kernel_rfl⟩
def p_coin_sum_int_coin_set_numbers_1r_coin_claims_amount (N : Nat) (a_1 : Int) (a_2 : (List T_coin_claim)) : Option (Int) := (letJ (fun (b_10 : Int) => some b_10) (fun k_11 => (letJ (fun (b_14 : Int) => (k_11 b_14)) (fun k_15 => (loop2 (fun rec_20 (rest_18 : Int) (b_19 : Int) => (bif (rest_18 != 0) then ((p_math_bits_TrailingZeros8 N rest_18).bind fun r_24 => (letJ (fun (b_33 : Int) => ((some (IntKind.u8.wrap (((BitVec.ofInt (IntKind.bits .u8) rest_18 &&& BitVec.ofInt (IntKind.bits .u8) (IntKind.u8.wrap (rest_18 - 1))).toNat : Nat) : Int))).bind fun n_39 => (rec_20 n_39 b_33))) (fun k_34 => ((p_coin_claims_amount N a_2 r_24).bind fun r_37 => (k_34 (IntKind.i64.wrap (b_19 + r_37))))))) else (k_15 b_19))) N a_1 0)))))
def v_coin_sum_int_coin_set_numbers_1r_coin_claims_amount (r : Int) : AV := .int .i64 r
attribute [local simp] v_coin_sum_int_coin_set_numbers_1r_coin_claims_amount
theorem b_coin_sum_int_coin_set_numbers_1r_coin_claims_amount (r : Int) (n n2 m : Nat) : back n n2 m (v_coin_sum_int_coin_set_numbers_1r_coin_claims_amount r) = some (v_coin_sum_int_coin_set_numbers_1r_coin_claims_amount r) := by simp
theorem d_coin_sum_int_coin_set_numbers_1r_coin_claims_amount (N : Nat) (a_1 : Int) (a_2 : (List T_coin_claim)) (r : Int) (h : p_coin_sum_int_coin_set_numbers_1r_coin_claims_amount N a_1 a_2 = some r) : Does Try.prog 98 [.fn 91 [] [.rop [.int .u8 a_1]], .fn 112 [.sl (a_2.map A_coin_claim) none] []] [] fun v c => v = v_coin_sum_int_coin_set_numbers_1r_coin_claims_amount r ∧ c = [] := by
  unfold p_coin_sum_int_coin_set_numbers_1r_coin_claims_amount at h
  refine Does.ofL comp98 _ _ rfl rfl ?_
  refine Ex.seq ?_
  refine regH 2 [] [0, 3, 4] [] (mkS 15 [(0, .fn 91 [] [.rop [.int .u8 a_1]]), (3, .ptr 0 0), (4, .int .i64 0)]) (⟨[[.fn 112 [.sl (a_2.map A_coin_claim) none] []]], []⟩) (by kernel_rfl) trivial rfl ?_
  refine Ex.seq ?_
  refine regH 2 [] [0, 3, 4, 5] [] (mkS 15 [(0, .fn 91 [] [.rop [.int .u8 a_1]]), (3, .ptr 0 0), (4, .int .i64 0), (5, .ptr 1 0)]) (⟨[[.fn 112 [.sl (a_2.map A_coin_claim) none] []], [.int .i64 0]], []⟩) (by kernel_rfl) trivial rfl ?_
  refine Ex.seq ?_
  refine Ex.seq ?_
  refine regH 1 [] [3, 4, 5, 7] [] (mkS 15 [(3, .ptr 0 0), (4, .int .i64 0), (5, .ptr 1 0), (7, .fn 91 [] [.rop [.int .u8 a_1]])]) (⟨[[.fn 112 [.sl (a_2.map A_coin_claim) none] []], [.int .i64 0]], []⟩) (by kernel_rfl) trivial rfl ?_
  refine Ex.blockK ?_
  obtain ⟨K_12, hK_13, h⟩ := letE h
  refine Ex.rangeJ (fun k S => (k = 0 ∧ ∃ (b_10 : Int), K_12 b_10 = some r ∧ S = ⟨[[.fn 112 [.sl (a_2.map A_coin_claim) none] []], [.int .i64 b_10]], [(0, 0)]⟩)) 91 [.rop [.int .u8 a_1]] _ rfl comp91 rfl (by simp [setAll]) (by exact trivial) (mkS 16 [(1, .rop [.int .u8 a_1]), (2, .tup []), (3, .tup []), (4, .tup []), (5, .tup []), (6, .tup []), (7, .tup []), (8, .tup []), (9, .tup []), (10, .tup []), (11, .tup []), (12, .tup []), (13, .tup []), (14, .tup []), (15, .tup [])]) (⟨[[.fn 112 [.sl (a_2.map A_coin_claim) none] []], [.int .i64 0]], [(0, 0)]⟩) (fun _ => by kernel_rfl) (by kernel_rfl) ?_ ?_
  · intro cx_4 Lp_3 hcn_5 hcm_6 hLt_7 hL_8 hup_9
    refine Ex.castA (a2 := mkS 16 [(0, .yld Lp_3.l 0), (1, .rop [.int .u8 a_1]), (2, .tup []), (3, .tup []), (4, .tup []), (5, .tup []), (6, .tup []), (7, .tup []), (8, .tup []), (9, .tup []), (10, .tup []), (11, .tup []), (12, .tup []), (13, .tup []), (14, .tup []), (15, .tup [])]) (S2 := ⟨[[.fn 112 [.sl (a_2.map A_coin_claim) none] []], [.int .i64 0]], [(0, 0)]⟩) (by kernel_rfl) rfl ?_
    refine Ex.seq ?_
    refine regH 2 [] [0, 3] [] (mkS 16 [(0, .yld Lp_3.l 0), (3, .int .u8 a_1)]) (⟨[[.fn 112 [.sl (a_2.map A_coin_claim) none] []], [.int .i64 0]], [(0, 0)]⟩) (by kernel_rfl) trivial rfl ?_
    obtain ⟨K_16, hK_17, h⟩ := letE h
    refine Ex.blockJ (fun a S => ∃ (b_14 : Int), K_16 b_14 = some r ∧ a = mkS 16 [] ∧ S = ⟨[[.fn 112 [.sl (a_2.map A_coin_claim) none] []], [.int .i64 b_14]], [(0, 0)]⟩) ?_ ?_
    · obtain ⟨B_21, hB_22, h⟩ := loop2I h
      refine Ex.loopF (fun k a S => ∃ (rest_18 : Int), ∃ (b_19 : Int), loop2 B_21 k rest_18 b_19 = some r ∧ a = mkS 16 [(0, .yld Lp_3.l 0), (3, .int .u8 rest_18)] ∧ S = ⟨[[.fn 112 [.sl (a_2.map A_coin_claim) none] []], [.int .i64 b_19]], [(0, 0)]⟩) N ⟨_, _, Forgets.refl _ _ _, a_1, 0, h, rfl, rfl⟩ ?_
      rintro k a S ⟨rest_18, b_19, h, rfl, rfl⟩
      cases k with
      | zero => exact (loop2Z h).elim
      | succ k =>
        replace h := loop2S h hB_22
        refine Ex.seq ?_
        refine Ex.seq ?_
        refine regH 2 [] [0, 3, 6] [] (mkS 16 [(0, .yld Lp_3.l 0), (3, .int .u8 rest_18), (6, .bool (rest_18 != 0))]) (⟨[[.fn 112 [.sl (a_2.map A_coin_claim) none] []], [.int .i64 b_19]], [(0, 0)]⟩) (by kernel_rfl) trivial rfl ?_
        rcases condI h with ⟨hc_23, h⟩ | ⟨hc_23, h⟩
        · refine Ex.condT _ rfl hc_23 ?_
          refine Ex.skip ?_
          refine Ex.seq ?_
          refine Ex.blockK ?_
          refine Ex.seq ?_
          obtain ⟨r_24, hr_24, h⟩ := Option.bind_eq_some_iff.1 h
          refine Ex.regI ?_
          refine runI 2 [] [0, 3, 11, 12] [] (mkS 16 [(0, .yld Lp_3.l 0), (3, .int .u8 rest_18), (11, .yld Lp_3.l 0), (12, .int .u8 rest_18)]) (⟨[[.fn 112 [.sl (a_2.map A_coin_claim) none] []], [.int .i64 b_19]], [(0, 0)]⟩) (by kernel_rfl) trivial ?_
          refine ExI.one ?_
          refine ExO.callL [] [.int .u8 rest_18] rfl rfl (a_math_bits_TrailingZeros8 rest_18) rfl rfl (d_math_bits_TrailingZeros8 N rest_18 r_24 hr_24) (b_math_bits_TrailingZeros8 _ _ _ _) rfl ?_
          refine ExO.nil ?_
          obtain ⟨K_35, hK_36, h⟩ := letE h
          refine ExI.yieldT 0 hLt_7 hL_8 [.int .i64 r_24] rfl rfl rfl (by kernel_rfl) rfl rfl (leC hcn_5 (by simp [setAll])) ?_
          intro ca_25 cb_26 ha_27 hb_28 hma_29 hmb_30 hup_31 hbz_32
          refine Ex.castA (a2 := mkS 15 [(3, .ptr 0 0), (4, .int .i64 0), (5, .ptr 1 0), (7, .fn 91 [] [.rop [.int .u8 a_1]]), (8, .int .i64 r_24)]) (S2 := ⟨[[.fn 112 [.sl (a_2.map A_coin_claim) none] []], [.int .i64 b_19]], [(0, 0)]⟩) (by kernel_rfl) (by kernel_rfl) ?_
          refine Ex.two (fun z S => (z = AEx.norm ∧ ∃ (b_33 : Int), K_35 b_33 = some r ∧ S = ⟨[[.fn 112 [.sl (a_2.map A_coin_claim) none] []], [.int .i64 b_33]], [(0, 0)]⟩)) ?_ ?_
          · refine regH 1 [] [3, 5, 6] [] (mkS 15 [(3, .ptr 0 0), (5, .ptr 1 0), (6, .int .i64 r_24)]) (⟨[[.fn 112 [.sl (a_2.map A_coin_claim) none] []], [.int .i64 b_19]], [(0, 0)]⟩) (by kernel_rfl) trivial rfl ?_
            refine ⟨rfl, rfl, ?_⟩
            refine Ex.blockK ?_
            obtain ⟨r_37, hr_37, h⟩ := Option.bind_eq_some_iff.1 h
            have hT_38 : DoesA Try.prog [⟨112, [.sl (a_2.map A_coin_claim) none, .int .i64 r_24], [], (v_coin_claims_amount r_37), []⟩] ∧ ConsA [⟨112, [.sl (a_2.map A_coin_claim) none, .int .i64 r_24], [], (v_coin_claims_amount r_37), []⟩] := ⟨⟨(d_coin_claims_amount N a_2 r_24 r_37 hr_37), rfl, trivial⟩, ⟨trivial, trivial⟩⟩
            refine Ex.drawE (a1 := mkS 15 [(3, .ptr 0 0), (5, .ptr 1 0), (6, .int .i64 r_24), (9, .int .i64 b_19), (10, .fn 112 [.sl (a_2.map A_coin_claim) none] []), (11, .int .i64 r_24), (12, .int .i64 r_37)]) (tabO_ok hT_38.1) [] [] [] ?_ ?_
            · refine drS [0, 1] 3 [] [] (mkS 15 [(3, .ptr 0 0), (5, .ptr 1 0), (6, .int .i64 r_24), (9, .int .i64 b_19), (10, .fn 112 [.sl (a_2.map A_coin_claim) none] []), (11, .int .i64 r_24)]) (by simp) (by kernel_rfl) trivial (by kernel_rfl) ?_
              refine drC hT_38.2 0 _ [.sl (a_2.map A_coin_claim) none, .int .i64 r_24] (v_coin_claims_amount r_37) rfl rfl rfl rfl rfl (fun _ => rfl) rfl (by simp; try rfl) (fun _ => b_coin_claims_amount _ _ _ _) ?_
              exact DrO.nil rfl
            · dsimp only [List.getLastD_cons, List.getLastD_nil]
              refine runH 2 [] [] [] (mkS 15 []) (⟨[[.fn 112 [.sl (a_2.map A_coin_claim) none] []], [.int .i64 (IntKind.i64.wrap (b_19 + r_37))]], [(0, 0)]⟩) (by kernel_rfl) trivial ?_
              refine ExO.nil ?_
              (try simp only [reduceCtorEq, AEx.ex.injEq, Nat.reduceEqDiff, if_true, if_false])
              exact ⟨_, _, Forgets.refl _ _ _, ⟨by first | rfl | trivial, (IntKind.i64.wrap (b_19 + r_37)), h, rfl⟩⟩
          · rintro z a2 S (⟨rfl, b_33, h, rfl⟩)
            subst hK_36
            refine runI 1 [] [0, 3, 15] [] (mkS 16 [(0, .yld Lp_3.l 0), (3, .int .u8 rest_18), (15, .bool false)]) (⟨[[.fn 112 [.sl (a_2.map A_coin_claim) none] []], [.int .i64 b_33]], [(0, 0)]⟩) (by kernel_rfl) trivial ?_
            refine ExI.nil ?_
            refine Ex.cond (b := false) rfl ?_
            refine Ex.skip ?_
            obtain ⟨n_39, hn_39, h⟩ := Option.bind_eq_some_iff.1 h
            refine regH 5 [(3, .eq (.int .u8 n_39))] [0, 3] [AV.int .u8 (IntKind.u8.wrap (((BitVec.ofInt (IntKind.bits .u8) rest_18 &&& BitVec.ofInt (IntKind.bits .u8) (IntKind.u8.wrap (rest_18 - 1))).toNat : Nat) : Int)) = AV.int .u8 n_39] (mkS 16 [(0, .yld Lp_3.l 0), (3, .int .u8 n_39)]) (⟨[[.fn 112 [.sl (a_2.map A_coin_claim) none] []], [.int .i64 b_33]], [(0, 0)]⟩) (by kernel_rfl) ⟨congrArg (AV.int .u8) (Option.some.inj hn_39), trivial⟩ rfl ?_
            dsimp only
            exact ⟨_, _, Forgets.refl _ _ _, k, Nat.lt_succ_self k, n_39, b_33, h, rfl, rfl⟩
        · refine Ex.condF _ rfl hc_23 ?_
          refine Ex.exit ?_
          (try simp only [reduceCtorEq, AEx.ex.injEq, Nat.reduceEqDiff, if_true, if_false])
          exact ⟨_, _, forgetK [], b_19, h, rfl, rfl⟩
    · rintro a S ⟨b_14, h, rfl, rfl⟩
      subst hK_17
      exact ⟨_, _, Forgets.refl _ _ _, .inl rfl, 0, rfl, ⟨by first | rfl | trivial, b_14, h, rfl⟩⟩
  · rintro k S (⟨rfl, b_10, h, rfl⟩)
    subst hK_13
    refine Ex.seq ?_
    refine regH 2 [] [4] [] (mkS 15 [(4, .int .i64 b_10)]) (⟨[[.fn 112 [.sl (a_2.map A_coin_claim) none] []], [.int .i64 b_10]], [(0, 0)]⟩) (by kernel_rfl) trivial rfl ?_
    refine Ex.ret ?_
    obtain rfl := Option.some.inj h
    exact ⟨.inr rfl, .int .i64 b_10, by kernel_rfl, by kernel_rfl, by kernel_rfl, by kernel_rfl⟩
def p_coin_sum_int_coin_set_numbers_1r_coin_purse_of (N : Nat) (a_1 : Int) (a_2 : T_V8_i64) : Option (Int) := (letJ (fun (b_10 : Int) => some b_10) (fun k_11 => (letJ (fun (b_14 : Int) => (k_11 b_14)) (fun k_15 => (loop2 (fun rec_20 (rest_18 : Int) (b_19 : Int) => (bif (rest_18 != 0) then ((p_math_bits_TrailingZeros8 N rest_18).bind fun r_24 => (letJ (fun (b_33 : Int) => ((some (IntKind.u8.wrap (((BitVec.ofInt (IntKind.bits .u8) rest_18 &&& BitVec.ofInt (IntKind.bits .u8) (IntKind.u8.wrap (rest_18 - 1))).toNat : Nat) : Int))).bind fun n_39 => (rec_20 n_39 b_33))) (fun k_34 => ((p_coin_purse_of N a_2 r_24).bind fun r_37 => (k_34 (IntKind.i64.wrap (b_19 + r_37))))))) else (k_15 b_19))) N a_1 0)))))
def v_coin_sum_int_coin_set_numbers_1r_coin_purse_of (r : Int) : AV := .int .i64 r
attribute [local simp] v_coin_sum_int_coin_set_numbers_1r_coin_purse_of
theorem b_coin_sum_int_coin_set_numbers_1r_coin_purse_of (r : Int) (n n2 m : Nat) : back n n2 m (v_coin_sum_int_coin_set_numbers_1r_coin_purse_of r) = some (v_coin_sum_int_coin_set_numbers_1r_coin_purse_of r) := by simp
theorem d_coin_sum_int_coin_set_numbers_1r_coin_purse_of (N : Nat) (a_1 : Int) (a_2 : T_V8_i64) (r : Int) (h : p_coin_sum_int_coin_set_numbers_1r_coin_purse_of N a_1 a_2 = some r) : Does Try.prog 98 [.fn 91 [] [.rop [.int .u8 a_1]], .fn 113 [(A_V8_i64 a_2)] []] [] fun v c => v = v_coin_sum_int_coin_set_numbers_1r_coin_purse_of r ∧ c = [] := by
  unfold p_coin_sum_int_coin_set_numbers_1r_coin_purse_of at h
  refine Does.ofL comp98 _ _ rfl rfl ?_
  refine Ex.seq ?_
  refine regH 2 [] [0, 3, 4] [] (mkS 15 [(0, .fn 91 [] [.rop [.int .u8 a_1]]), (3, .ptr 0 0), (4, .int .i64 0)]) (⟨[[.fn 113 [(A_V8_i64 a_2)] []]], []⟩) (by kernel_rfl) trivial rfl ?_
  refine Ex.seq ?_
  refine regH 2 [] [0, 3, 4, 5] [] (mkS 15 [(0, .fn 91 [] [.rop [.int .u8 a_1]]), (3, .ptr 0 0), (4, .int .i64 0), (5, .ptr 1 0)]) (⟨[[.fn 113 [(A_V8_i64 a_2)] []], [.int .i64 0]], []⟩) (by kernel_rfl) trivial rfl ?_
  refine Ex.seq ?_
  refine Ex.seq ?_
  refine regH 1 [] [3, 4, 5, 7] [] (mkS 15 [(3, .ptr 0 0), (4, .int .i64 0), (5, .ptr 1 0), (7, .fn 91 [] [.rop [.int .u8 a_1]])]) (⟨[[.fn 113 [(A_V8_i64 a_2)] []], [.int .i64 0]], []⟩) (by kernel_rfl) trivial rfl ?_
  refine Ex.blockK ?_
  obtain ⟨K_12, hK_13, h⟩ := letE h
  refine Ex.rangeJ (fun k S => (k = 0 ∧ ∃ (b_10 : Int), K_12 b_10 = some r ∧ S = ⟨[[.fn 113 [(A_V8_i64 a_2)] []], [.int .i64 b_10]], [(0, 0)]⟩)) 91 [.rop [.int .u8 a_1]] _ rfl comp91 rfl (by simp [setAll]) (by exact trivial) (mkS 16 [(1, .rop [.int .u8 a_1]), (2, .tup []), (3, .tup []), (4, .tup []), (5, .tup []), (6, .tup []), (7, .tup []), (8, .tup []), (9, .tup []), (10, .tup []), (11, .tup []), (12, .tup []), (13, .tup []), (14, .tup []), (15, .tup [])]) (⟨[[.fn 113 [(A_V8_i64 a_2)] []], [.int .i64 0]], [(0, 0)]⟩) (fun _ => by kernel_rfl) (by kernel_rfl) ?_ ?_
  · intro cx_4 Lp_3 hcn_5 hcm_6 hLt_7 hL_8 hup_9
    refine Ex.castA (a2 := mkS 16 [(0, .yld Lp_3.l 0), (1, .rop [.int .u8 a_1]), (2, .tup []), (3, .tup []), (4, .tup []), (5, .tup []), (6, .tup []), (7, .tup []), (8, .tup []), (9, .tup []), (10, .tup []), (11, .tup []), (12, .tup []), (13, .tup []), (14, .tup []), (15, .tup [])]) (S2 := ⟨[[.fn 113 [(A_V8_i64 a_2)] []], [.int .i64 0]], [(0, 0)]⟩) (by kernel_rfl) rfl ?_
    refine Ex.seq ?_
    refine regH 2 [] [0, 3] [] (mkS 16 [(0, .yld Lp_3.l 0), (3, .int .u8 a_1)]) (⟨[[.fn 113 [(A_V8_i64 a_2)] []], [.int .i64 0]], [(0, 0)]⟩) (by kernel_rfl) trivial rfl ?_
    obtain ⟨K_16, hK_17, h⟩ := letE h
    refine Ex.blockJ (fun a S => ∃ (b_14 : Int), K_16 b_14 = some r ∧ a = mkS 16 [] ∧ S = ⟨[[.fn 113 [(A_V8_i64 a_2)] []], [.int .i64 b_14]], [(0, 0)]⟩) ?_ ?_
    · obtain ⟨B_21, hB_22, h⟩ := loop2I h
      refine Ex.loopF (fun k a S => ∃ (rest_18 : Int), ∃ (b_19 : Int), loop2 B_21 k rest_18 b_19 = some r ∧ a = mkS 16 [(0, .yld Lp_3.l 0), (3, .int .u8 rest_18)] ∧ S = ⟨[[.fn 113 [(A_V8_i64 a_2)] []], [.int .i64 b_19]], [(0, 0)]⟩) N ⟨_, _, Forgets.refl _ _ _, a_1, 0, h, rfl, rfl⟩ ?_
      rintro k a S ⟨rest_18, b_19, h, rfl, rfl⟩
      cases k with
      | zero => exact (loop2Z h).elim
      | succ k =>
        replace h := loop2S h hB_22
        refine Ex.seq ?_
        refine Ex.seq ?_
        refine regH 2 [] [0, 3, 6] [] (mkS 16 [(0, .yld Lp_3.l 0), (3, .int .u8 rest_18), (6, .bool (rest_18 != 0))]) (⟨[[.fn 113 [(A_V8_i64 a_2)] []], [.int .i64 b_19]], [(0, 0)]⟩) (by kernel_rfl) trivial rfl ?_
        rcases condI h with ⟨hc_23, h⟩ | ⟨hc_23, h⟩
        · refine Ex.condT _ rfl hc_23 ?_
          refine Ex.skip ?_
          refine Ex.seq ?_
          refine Ex.blockK ?_
          refine Ex.seq ?_
          obtain ⟨r_24, hr_24, h⟩ := Option.bind_eq_some_iff.1 h
          refine Ex.regI ?_
          refine runI 2 [] [0, 3, 11, 12] [] (mkS 16 [(0, .yld Lp_3.l 0), (3, .int .u8 rest_18), (11, .yld Lp_3.l 0), (12, .int .u8 rest_18)]) (⟨[[.fn 113 [(A_V8_i64 a_2)] []], [.int .i64 b_19]], [(0, 0)]⟩) (by kernel_rfl) trivial ?_
          refine ExI.one ?_
          refine ExO.callL [] [.int .u8 rest_18] rfl rfl (a_math_bits_TrailingZeros8 rest_18) rfl rfl (d_math_bits_TrailingZeros8 N rest_18 r_24 hr_24) (b_math_bits_TrailingZeros8 _ _ _ _) rfl ?_
          refine ExO.nil ?_
          obtain ⟨K_35, hK_36, h⟩ := letE h
          refine ExI.yieldT 0 hLt_7 hL_8 [.int .i64 r_24] rfl rfl rfl (by kernel_rfl) rfl rfl (leC hcn_5 (by simp [setAll])) ?_
          intro ca_25 cb_26 ha_27 hb_28 hma_29 hmb_30 hup_31 hbz_32
          refine Ex.castA (a2 := mkS 15 [(3, .ptr 0 0), (4, .int .i64 0), (5, .ptr 1 0), (7, .fn 91 [] [.rop [.int .u8 a_1]]), (8, .int .i64 r_24)]) (S2 := ⟨[[.fn 113 [(A_V8_i64 a_2)] []], [.int .i64 b_19]], [(0, 0)]⟩) (by kernel_rfl) (by kernel_rfl) ?_
          refine Ex.two (fun z S => (z = AEx.norm ∧ ∃ (b_33 : Int), K_35 b_33 = some r ∧ S = ⟨[[.fn 113 [(A_V8_i64 a_2)] []], [.int .i64 b_33]], [(0, 0)]⟩)) ?_ ?_
          · refine regH 1 [] [3, 5, 6] [] (mkS 15 [(3, .ptr 0 0), (5, .ptr 1 0), (6, .int .i64 r_24)]) (⟨[[.fn 113 [(A_V8_i64 a_2)] []], [.int .i64 b_19]], [(0, 0)]⟩) (by kernel_rfl) trivial rfl ?_
            refine ⟨rfl, rfl, ?_⟩
            refine Ex.blockK ?_
            obtain ⟨r_37, hr_37, h⟩ := Option.bind_eq_some_iff.1 h
            have hT_38 : DoesA Try.prog [⟨113, [(A_V8_i64 a_2), .int .i64 r_24], [], (v_coin_purse_of r_37), []⟩] ∧ ConsA [⟨113, [(A_V8_i64 a_2), .int .i64 r_24], [], (v_coin_purse_of r_37), []⟩] := ⟨⟨(d_coin_purse_of N a_2 r_24 r_37 hr_37), rfl, trivial⟩, ⟨trivial, trivial⟩⟩
            refine Ex.drawE (a1 := mkS 15 [(3, .ptr 0 0), (5, .ptr 1 0), (6, .int .i64 r_24), (9, .int .i64 b_19), (10, .fn 113 [(A_V8_i64 a_2)] []), (11, .int .i64 r_24), (12, .int .i64 r_37)]) (tabO_ok hT_38.1) [] [] [] ?_ ?_
            · refine drS [0, 1] 3 [] [] (mkS 15 [(3, .ptr 0 0), (5, .ptr 1 0), (6, .int .i64 r_24), (9, .int .i64 b_19), (10, .fn 113 [(A_V8_i64 a_2)] []), (11, .int .i64 r_24)]) (by simp) (by kernel_rfl) trivial (by kernel_rfl) ?_
              refine drC hT_38.2 0 _ [(A_V8_i64 a_2), .int .i64 r_24] (v_coin_purse_of r_37) rfl rfl rfl rfl rfl (fun _ => rfl) rfl (by simp; try rfl) (fun _ => b_coin_purse_of _ _ _ _) ?_
              exact DrO.nil rfl
            · dsimp only [List.getLastD_cons, List.getLastD_nil]
              refine runH 2 [] [] [] (mkS 15 []) (⟨[[.fn 113 [(A_V8_i64 a_2)] []], [.int .i64 (IntKind.i64.wrap (b_19 + r_37))]], [(0, 0)]⟩) (by kernel_rfl) trivial ?_
              refine ExO.nil ?_
              (try simp only [reduceCtorEq, AEx.ex.injEq, Nat.reduceEqDiff, if_true, if_false])
              exact ⟨_, _, Forgets.refl _ _ _, ⟨by first | rfl | trivial, (IntKind.i64.wrap (b_19 + r_37)), h, rfl⟩⟩
          · rintro z a2 S (⟨rfl, b_33, h, rfl⟩)
            subst hK_36
            refine runI 1 [] [0, 3, 15] [] (mkS 16 [(0, .yld Lp_3.l 0), (3, .int .u8 rest_18), (15, .bool false)]) (⟨[[.fn 113 [(A_V8_i64 a_2)] []], [.int .i64 b_33]], [(0, 0)]⟩) (by kernel_rfl) trivial ?_
            refine ExI.nil ?_
            refine Ex.cond (b := false) rfl ?_
            refine Ex.skip ?_
            obtain ⟨n_39, hn_39, h⟩ := Option.bind_eq_some_iff.1 h
            refine regH 5 [(3, .eq (.int .u8 n_39))] [0, 3] [AV.int .u8 (IntKind.u8.wrap (((BitVec.ofInt (IntKind.bits .u8) rest_18 &&& BitVec.ofInt (IntKind.bits .u8) (IntKind.u8.wrap (rest_18 - 1))).toNat : Nat) : Int)) = AV.int .u8 n_39] (mkS 16 [(0, .yld Lp_3.l 0), (3, .int .u8 n_39)]) (⟨[[.fn 113 [(A_V8_i64 a_2)] []], [.int .i64 b_33]], [(0, 0)]⟩) (by kernel_rfl) ⟨congrArg (AV.int .u8) (Option.some.inj hn_39), trivial⟩ rfl ?_
            dsimp only
            exact ⟨_, _, Forgets.refl _ _ _, k, Nat.lt_succ_self k, n_39, b_33, h, rfl, rfl⟩
        · refine Ex.condF _ rfl hc_23 ?_
          refine Ex.exit ?_
          (try simp only [reduceCtorEq, AEx.ex.injEq, Nat.reduceEqDiff, if_true, if_false])
          exact ⟨_, _, forgetK [], b_19, h, rfl, rfl⟩
    · rintro a S ⟨b_14, h, rfl, rfl⟩
      subst hK_17
      exact ⟨_, _, Forgets.refl _ _ _, .inl rfl, 0, rfl, ⟨by first | rfl | trivial, b_14, h, rfl⟩⟩
  · rintro k S (⟨rfl, b_10, h, rfl⟩)
    subst hK_13
    refine Ex.seq ?_
    refine regH 2 [] [4] [] (mkS 15 [(4, .int .i64 b_10)]) (⟨[[.fn 113 [(A_V8_i64 a_2)] []], [.int .i64 b_10]], [(0, 0)]⟩) (by kernel_rfl) trivial rfl ?_
    refine Ex.ret ?_
    obtain rfl := Option.some.inj h
    exact ⟨.inr rfl, .int .i64 b_10, by kernel_rfl, by kernel_rfl, by kernel_rfl, by kernel_rfl⟩
theorem k_coin_set_numbers (N : Nat) (s_1 : Int) (s_1z : Int) (r s : Int) (hr : p_coin_set_numbers N s_1 = some r) (hs : p_coin_set_numbers N s_1z = some s) : ConsR ⟨59, [.int .u8 s_1], [], v_coin_set_numbers r, []⟩ ⟨59, [.int .u8 s_1z], [], v_coin_set_numbers s, []⟩ := by
  intro _ h1 h2
  have h1 : ([.int .u8 s_1] : List AV) = [.int .u8 s_1z] := h1
  have h2 : ([] : List (List AV)) = [] := h2
  obtain rfl : s_1 = s_1z := (intInj _) _ _ (List.cons.inj h1).1
  rw [hr] at hs; cases hs; exact ⟨rfl, rfl⟩
def p_coin_claims_lack (N : Nat) (c_1 : (List T_coin_claim)) (s_2 : Int) (left_3 : T_V8_i64) : Option (Int) := ((p_coin_set_numbers N s_2).bind fun r_4 => (letJ (fun (b_12 : Int) => ((p_coin_set_numbers N s_2).bind fun r_42 => ((p_coin_sum_int_coin_set_numbers_1r_coin_claims_amount N r_42 c_1).bind fun r_43 => ((p_coin_set_numbers N b_12).bind fun r_44 => ((p_coin_sum_int_coin_set_numbers_1r_coin_purse_of N r_44 left_3).bind fun r_46 => some (IntKind.i64.wrap (r_43 - r_46))))))) (fun k_13 => (letJ (fun (b_16 : Int) => (k_13 b_16)) (fun k_17 => (loop2 (fun rec_22 (rest_20 : Int) (b_21 : Int) => (bif (rest_20 != 0) then ((p_math_bits_TrailingZeros8 N rest_20).bind fun r_26 => (letJ (fun (b_35 : Int) => ((some (IntKind.u8.wrap (((BitVec.ofInt (IntKind.bits .u8) rest_20 &&& BitVec.ofInt (IntKind.bits .u8) (IntKind.u8.wrap (rest_20 - 1))).toNat : Nat) : Int))).bind fun n_41 => (rec_22 n_41 b_35))) (fun k_36 => ((getI c_1 r_26).bind fun x_39 => ((some (IntKind.u8.wrap (((BitVec.ofInt (IntKind.bits .u8) b_21 ||| BitVec.ofInt (IntKind.bits .u8) x_39.payers_).toNat : Nat) : Int))).bind fun n_40 => (k_36 n_40)))))) else (k_17 b_21))) N r_4 0))))))
def v_coin_claims_lack (r : Int) : AV := .int .i64 r
attribute [local simp] v_coin_claims_lack
theorem a_coin_claims_lack (c_1 : (List T_coin_claim)) (s_2 : Int) (left_3 : T_V8_i64) : [.sl (c_1.map A_coin_claim) none, .int .u8 s_2, (A_V8_i64 left_3)].mapM (ren []) = some [.sl (c_1.map A_coin_claim) none, .int .u8 s_2, (A_V8_i64 left_3)] := by simp
theorem b_coin_claims_lack (r : Int) (n n2 m : Nat) : back n n2 m (v_coin_claims_lack r) = some (v_coin_claims_lack r) := by simp
theorem d_coin_claims_lack (N : Nat) (c_1 : (List T_coin_claim)) (s_2 : Int) (left_3 : T_V8_i64) (r : Int) (h : p_coin_claims_lack N c_1 s_2 left_3 = some r) : Does Try.prog 89 [.sl (c_1.map A_coin_claim) none, .int .u8 s_2, (A_V8_i64 left_3)] [] fun v c => v = v_coin_claims_lack r ∧ c = [] := by
  unfold p_coin_claims_lack at h
  refine Does.ofL comp89 _ _ rfl rfl ?_
  refine Ex.seq ?_
  refine regH 3 [] [1, 3, 5, 6] [] (mkS 30 [(1, .int .u8 s_2), (3, .ptr 0 0), (5, .ptr 1 0), (6, .int .i64 0)]) (⟨[[.sl (c_1.map A_coin_claim) none], (C_V8_i64 left_3)], []⟩) (by kernel_rfl) trivial rfl ?_
  refine Ex.seq ?_
  refine regH 2 [] [1, 3, 5, 6, 7] [] (mkS 30 [(1, .int .u8 s_2), (3, .ptr 0 0), (5, .ptr 1 0), (6, .int .i64 0), (7, .ptr 2 0)]) (⟨[[.sl (c_1.map A_coin_claim) none], (C_V8_i64 left_3), [.int .u8 0]], []⟩) (by kernel_rfl) trivial rfl ?_
  refine Ex.seq ?_
  refine Ex.seq ?_
  obtain ⟨r_4, hr_4, h⟩ := Option.bind_eq_some_iff.1 h
  refine Ex.reg ?_
  refine runH 1 [] [1, 3, 5, 6, 7, 9] [] (mkS 30 [(1, .int .u8 s_2), (3, .ptr 0 0), (5, .ptr 1 0), (6, .int .i64 0), (7, .ptr 2 0), (9, .int .u8 s_2)]) (⟨[[.sl (c_1.map A_coin_claim) none], (C_V8_i64 left_3), [.int .u8 0]], []⟩) (by kernel_rfl) trivial ?_
  refine ExO.callL [] [.int .u8 s_2] rfl rfl (a_coin_set_numbers s_2) rfl rfl (d_coin_set_numbers N s_2 r_4 hr_4) (b_coin_set_numbers _ _ _ _) rfl ?_
  refine runH 0 [] [1, 3, 5, 6, 7, 10] [] (mkS 30 [(1, .int .u8 s_2), (3, .ptr 0 0), (5, .ptr 1 0), (6, .int .i64 0), (7, .ptr 2 0), (10, .fn 91 [] [.rop [.int .u8 r_4]])]) (⟨[[.sl (c_1.map A_coin_claim) none], (C_V8_i64 left_3), [.int .u8 0]], []⟩) (by kernel_rfl) trivial ?_
  refine ExO.nil ?_
  refine Ex.blockK ?_
  obtain ⟨K_14, hK_15, h⟩ := letE h
  refine Ex.rangeJ (fun k S => (k = 0 ∧ ∃ (b_12 : Int), K_14 b_12 = some r ∧ S = ⟨[[.sl (c_1.map A_coin_claim) none], (C_V8_i64 left_3), [.int .u8 b_12]], [(0, 0)]⟩)) 91 [.rop [.int .u8 r_4]] _ rfl comp91 rfl (by simp [setAll]) (by exact trivial) (mkS 16 [(1, .rop [.int .u8 r_4]), (2, .tup []), (3, .tup []), (4, .tup []), (5, .tup []), (6, .tup []), (7, .tup []), (8, .tup []), (9, .tup []), (10, .tup []), (11, .tup []), (12, .tup []), (13, .tup []), (14, .tup []), (15, .tup [])]) (⟨[[.sl (c_1.map A_coin_claim) none], (C_V8_i64 left_3), [.int .u8 0]], [(0, 0)]⟩) (fun _ => by kernel_rfl) (by kernel_rfl) ?_ ?_
  · intro cx_6 Lp_5 hcn_7 hcm_8 hLt_9 hL_10 hup_11
    refine Ex.castA (a2 := mkS 16 [(0, .yld Lp_5.l 0), (1, .rop [.int .u8 r_4]), (2, .tup []), (3, .tup []), (4, .tup []), (5, .tup []), (6, .tup []), (7, .tup []), (8, .tup []), (9, .tup []), (10, .tup []), (11, .tup []), (12, .tup []), (13, .tup []), (14, .tup []), (15, .tup [])]) (S2 := ⟨[[.sl (c_1.map A_coin_claim) none], (C_V8_i64 left_3), [.int .u8 0]], [(0, 0)]⟩) (by kernel_rfl) rfl ?_
    refine Ex.seq ?_
    refine regH 2 [] [0, 3] [] (mkS 16 [(0, .yld Lp_5.l 0), (3, .int .u8 r_4)]) (⟨[[.sl (c_1.map A_coin_claim) none], (C_V8_i64 left_3), [.int .u8 0]], [(0, 0)]⟩) (by kernel_rfl) trivial rfl ?_
    obtain ⟨K_18, hK_19, h⟩ := letE h
    refine Ex.blockJ (fun a S => ∃ (b_16 : Int), K_18 b_16 = some r ∧ a = mkS 16 [] ∧ S = ⟨[[.sl (c_1.map A_coin_claim) none], (C_V8_i64 left_3), [.int .u8 b_16]], [(0, 0)]⟩) ?_ ?_
    · obtain ⟨B_23, hB_24, h⟩ := loop2I h
      refine Ex.loopF (fun k a S => ∃ (rest_20 : Int), ∃ (b_21 : Int), loop2 B_23 k rest_20 b_21 = some r ∧ a = mkS 16 [(0, .yld Lp_5.l 0), (3, .int .u8 rest_20)] ∧ S = ⟨[[.sl (c_1.map A_coin_claim) none], (C_V8_i64 left_3), [.int .u8 b_21]], [(0, 0)]⟩) N ⟨_, _, Forgets.refl _ _ _, r_4, 0, h, rfl, rfl⟩ ?_
      rintro k a S ⟨rest_20, b_21, h, rfl, rfl⟩
      cases k with
      | zero => exact (loop2Z h).elim
      | succ k =>
        replace h := loop2S h hB_24
        refine Ex.seq ?_
        refine Ex.seq ?_
        refine regH 2 [] [0, 3, 6] [] (mkS 16 [(0, .yld Lp_5.l 0), (3, .int .u8 rest_20), (6, .bool (rest_20 != 0))]) (⟨[[.sl (c_1.map A_coin_claim) none], (C_V8_i64 left_3), [.int .u8 b_21]], [(0, 0)]⟩) (by kernel_rfl) trivial rfl ?_
        rcases condI h with ⟨hc_25, h⟩ | ⟨hc_25, h⟩
        · refine Ex.condT _ rfl hc_25 ?_
          refine Ex.skip ?_
          refine Ex.seq ?_
          refine Ex.blockK ?_
          refine Ex.seq ?_
          obtain ⟨r_26, hr_26, h⟩ := Option.bind_eq_some_iff.1 h
          refine Ex.regI ?_
          refine runI 2 [] [0, 3, 11, 12] [] (mkS 16 [(0, .yld Lp_5.l 0), (3, .int .u8 rest_20), (11, .yld Lp_5.l 0), (12, .int .u8 rest_20)]) (⟨[[.sl (c_1.map A_coin_claim) none], (C_V8_i64 left_3), [.int .u8 b_21]], [(0, 0)]⟩) (by kernel_rfl) trivial ?_
          refine ExI.one ?_
          refine ExO.callL [] [.int .u8 rest_20] rfl rfl (a_math_bits_TrailingZeros8 rest_20) rfl rfl (d_math_bits_TrailingZeros8 N rest_20 r_26 hr_26) (b_math_bits_TrailingZeros8 _ _ _ _) rfl ?_
          refine ExO.nil ?_
          obtain ⟨K_37, hK_38, h⟩ := letE h
          refine ExI.yieldT 0 hLt_9 hL_10 [.int .i64 r_26] rfl rfl rfl (by kernel_rfl) rfl rfl (leC hcn_7 (by simp [setAll])) ?_
          intro ca_27 cb_28 ha_29 hb_30 hma_31 hmb_32 hup_33 hbz_34
          refine Ex.castA (a2 := mkS 30 [(1, .int .u8 s_2), (3, .ptr 0 0), (5, .ptr 1 0), (6, .int .i64 0), (7, .ptr 2 0), (10, .fn 91 [] [.rop [.int .u8 r_4]]), (11, .int .i64 r_26)]) (S2 := ⟨[[.sl (c_1.map A_coin_claim) none], (C_V8_i64 left_3), [.int .u8 b_21]], [(0, 0)]⟩) (by kernel_rfl) (by kernel_rfl) ?_
          refine Ex.two (fun z S => (z = AEx.norm ∧ ∃ (b_35 : Int), K_37 b_35 = some r ∧ S = ⟨[[.sl (c_1.map A_coin_claim) none], (C_V8_i64 left_3), [.int .u8 b_35]], [(0, 0)]⟩)) ?_ ?_
          · refine regH 1 [] [3, 7, 8] [] (mkS 30 [(3, .ptr 0 0), (7, .ptr 2 0), (8, .int .i64 r_26)]) (⟨[[.sl (c_1.map A_coin_claim) none], (C_V8_i64 left_3), [.int .u8 b_21]], [(0, 0)]⟩) (by kernel_rfl) trivial rfl ?_
            refine ⟨rfl, rfl, ?_⟩
            refine Ex.blockK ?_
            obtain ⟨x_39, hx_39, h⟩ := Option.bind_eq_some_iff.1 h
            refine Ex.drawE (a1 := mkS 30 [(3, .ptr 0 0), (7, .ptr 2 0), (8, .int .i64 r_26), (12, .int .u8 b_21), (13, .sl (c_1.map A_coin_claim) none), (14, .int .i64 r_26), (15, .rop (C_coin_claim x_39)), (16, .rop [.int .u8 x_39.payers_]), (17, .int .u8 x_39.payers_)]) (noClr_ok _) [] [] [] ?_ ?_
            · refine drS [0, 1, 2] 6 [(3, .rop (C_coin_claim x_39))] [LGet (c_1.map A_coin_claim) r_26 2 (C_coin_claim x_39)] (mkS 30 [(3, .ptr 0 0), (7, .ptr 2 0), (8, .int .i64 r_26), (12, .int .u8 b_21), (13, .sl (c_1.map A_coin_claim) none), (14, .int .i64 r_26), (15, .rop (C_coin_claim x_39)), (16, .rop [.int .u8 x_39.payers_]), (17, .int .u8 x_39.payers_)]) (by simp) (by kernel_rfl) ⟨LGet.of hx_39 rfl, trivial⟩ (by kernel_rfl) ?_
              exact DrO.nil rfl
            · dsimp only [List.getLastD_cons, List.getLastD_nil]
              obtain ⟨n_40, hn_40, h⟩ := Option.bind_eq_some_iff.1 h
              refine runH 2 [(0, .eq (.int .u8 n_40))] [] [AV.int .u8 (IntKind.u8.wrap (((BitVec.ofInt (IntKind.bits .u8) b_21 ||| BitVec.ofInt (IntKind.bits .u8) x_39.payers_).toNat : Nat) : Int)) = AV.int .u8 n_40] (mkS 30 []) (⟨[[.sl (c_1.map A_coin_claim) none], (C_V8_i64 left_3), [.int .u8 n_40]], [(0, 0)]⟩) (by kernel_rfl) ⟨congrArg (AV.int .u8) (Option.some.inj hn_40), trivial⟩ ?_
              refine ExO.nil ?_
              (try simp only [reduceCtorEq, AEx.ex.injEq, Nat.reduceEqDiff, if_true, if_false])
              exact ⟨_, _, Forgets.refl _ _ _, ⟨by first | rfl | trivial, n_40, h, rfl⟩⟩
          · rintro z a2 S (⟨rfl, b_35, h, rfl⟩)
            subst hK_38
            refine runI 1 [] [0, 3, 15] [] (mkS 16 [(0, .yld Lp_5.l 0), (3, .int .u8 rest_20), (15, .bool false)]) (⟨[[.sl (c_1.map A_coin_claim) none], (C_V8_i64 left_3), [.int .u8 b_35]], [(0, 0)]⟩) (by kernel_rfl) trivial ?_
            refine ExI.nil ?_
            refine Ex.cond (b := false) rfl ?_
            refine Ex.skip ?_
            obtain ⟨n_41, hn_41, h⟩ := Option.bind_eq_some_iff.1 h
            refine regH 5 [(3, .eq (.int .u8 n_41))] [0, 3] [AV.int .u8 (IntKind.u8.wrap (((BitVec.ofInt (IntKind.bits .u8) rest_20 &&& BitVec.ofInt (IntKind.bits .u8) (IntKind.u8.wrap (rest_20 - 1))).toNat : Nat) : Int)) = AV.int .u8 n_41] (mkS 16 [(0, .yld Lp_5.l 0), (3, .int .u8 n_41)]) (⟨[[.sl (c_1.map A_coin_claim) none], (C_V8_i64 left_3), [.int .u8 b_35]], [(0, 0)]⟩) (by kernel_rfl) ⟨congrArg (AV.int .u8) (Option.some.inj hn_41), trivial⟩ rfl ?_
            dsimp only
            exact ⟨_, _, Forgets.refl _ _ _, k, Nat.lt_succ_self k, n_41, b_35, h, rfl, rfl⟩
        · refine Ex.condF _ rfl hc_25 ?_
          refine Ex.exit ?_
          (try simp only [reduceCtorEq, AEx.ex.injEq, Nat.reduceEqDiff, if_true, if_false])
          exact ⟨_, _, forgetK [], b_21, h, rfl, rfl⟩
    · rintro a S ⟨b_16, h, rfl, rfl⟩
      subst hK_19
      exact ⟨_, _, Forgets.refl _ _ _, .inl rfl, 0, rfl, ⟨by first | rfl | trivial, b_16, h, rfl⟩⟩
  · rintro k S (⟨rfl, b_12, h, rfl⟩)
    subst hK_15
    refine Ex.seq ?_
    obtain ⟨r_42, hr_42, h⟩ := Option.bind_eq_some_iff.1 h
    obtain ⟨r_43, hr_43, h⟩ := Option.bind_eq_some_iff.1 h
    obtain ⟨r_44, hr_44, h⟩ := Option.bind_eq_some_iff.1 h
    have hT_45 : DoesA Try.prog [⟨59, [.int .u8 s_2], [], (v_coin_set_numbers r_42), []⟩, ⟨98, [.fn 91 [] [.rop [.int .u8 r_42]], .fn 112 [.sl (c_1.map A_coin_claim) none] []], [], (v_coin_sum_int_coin_set_numbers_1r_coin_claims_amount r_43), []⟩, ⟨59, [.int .u8 b_12], [], (v_coin_set_numbers r_44), []⟩] ∧ ConsA [⟨59, [.int .u8 s_2], [], (v_coin_set_numbers r_42), []⟩, ⟨98, [.fn 91 [] [.rop [.int .u8 r_42]], .fn 112 [.sl (c_1.map A_coin_claim) none] []], [], (v_coin_sum_int_coin_set_numbers_1r_coin_claims_amount r_43), []⟩, ⟨59, [.int .u8 b_12], [], (v_coin_set_numbers r_44), []⟩] := ⟨⟨(d_coin_set_numbers N s_2 r_42 hr_42), rfl, (d_coin_sum_int_coin_set_numbers_1r_coin_claims_amount N r_42 c_1 r_43 hr_43), rfl, (d_coin_set_numbers N b_12 r_44 hr_44), rfl, trivial⟩, ⟨⟨ConsR.ne rfl, k_coin_set_numbers N s_2 b_12 r_42 r_44 hr_42 hr_44, trivial⟩, ⟨ConsR.ne rfl, trivial⟩, trivial, trivial⟩⟩
    refine Ex.drawE (a1 := mkS 30 [(1, .int .u8 s_2), (3, .ptr 0 0), (5, .ptr 1 0), (6, .int .i64 0), (7, .ptr 2 0), (10, .fn 91 [] [.rop [.int .u8 r_4]]), (19, .int .u8 s_2), (20, .fn 91 [] [.rop [.int .u8 r_42]]), (21, .sl (c_1.map A_coin_claim) none), (22, .fn 112 [.sl (c_1.map A_coin_claim) none] []), (23, .int .i64 r_43), (24, .int .u8 b_12), (25, .fn 91 [] [.rop [.int .u8 r_44]]), (26, (A_V8_i64 left_3)), (27, .fn 113 [(A_V8_i64 left_3)] [])]) (tabO_ok hT_45.1) [] [] [] ?_ ?_
    · refine drS [0, 1, 2] 1 [] [] (mkS 30 [(1, .int .u8 s_2), (3, .ptr 0 0), (5, .ptr 1 0), (6, .int .i64 0), (7, .ptr 2 0), (10, .fn 91 [] [.rop [.int .u8 r_4]]), (19, .int .u8 s_2)]) (by simp) (by kernel_rfl) trivial (by kernel_rfl) ?_
      refine drC hT_45.2 0 _ [.int .u8 s_2] (v_coin_set_numbers r_42) rfl rfl rfl rfl rfl (fun _ => rfl) rfl (by simp; try rfl) (fun _ => b_coin_set_numbers _ _ _ _) ?_
      refine drS [0, 1, 2] 2 [] [] (mkS 30 [(1, .int .u8 s_2), (3, .ptr 0 0), (5, .ptr 1 0), (6, .int .i64 0), (7, .ptr 2 0), (10, .fn 91 [] [.rop [.int .u8 r_4]]), (19, .int .u8 s_2), (20, .fn 91 [] [.rop [.int .u8 r_42]]), (21, .sl (c_1.map A_coin_claim) none), (22, .fn 112 [.sl (c_1.map A_coin_claim) none] [])]) (by simp) (by kernel_rfl) trivial (by kernel_rfl) ?_
      refine drC hT_45.2 1 _ [.fn 91 [] [.rop [.int .u8 r_42]], .fn 112 [.sl (c_1.map A_coin_claim) none] []] (v_coin_sum_int_coin_set_numbers_1r_coin_claims_amount r_43) rfl rfl rfl rfl rfl (fun _ => rfl) rfl (by simp; try rfl) (fun _ => b_coin_sum_int_coin_set_numbers_1r_coin_claims_amount _ _ _ _) ?_
      refine drS [0, 1, 2] 1 [] [] (mkS 30 [(1, .int .u8 s_2), (3, .ptr 0 0), (5, .ptr 1 0), (6, .int .i64 0), (7, .ptr 2 0), (10, .fn 91 [] [.rop [.int .u8 r_4]]), (19, .int .u8 s_2), (20, .fn 91 [] [.rop [.int .u8 r_42]]), (21, .sl (c_1.map A_coin_claim) none), (22, .fn 112 [.sl (c_1.map A_coin_claim) none] []), (23, .int .i64 r_43), (24, .int .u8 b_12)]) (by simp) (by kernel_rfl) trivial (by kernel_rfl) ?_
      refine drC hT_45.2 2 _ [.int .u8 b_12] (v_coin_set_numbers r_44) rfl rfl rfl rfl rfl (fun _ => rfl) rfl (by simp; try rfl) (fun _ => b_coin_set_numbers _ _ _ _) ?_
      refine drS [0, 1, 2] 2 [] [] (mkS 30 [(1, .int .u8 s_2), (3, .ptr 0 0), (5, .ptr 1 0), (6, .int .i64 0), (7, .ptr 2 0), (10, .fn 91 [] [.rop [.int .u8 r_4]]), (19, .int .u8 s_2), (20, .fn 91 [] [.rop [.int .u8 r_42]]), (21, .sl (c_1.map A_coin_claim) none), (22, .fn 112 [.sl (c_1.map A_coin_claim) none] []), (23, .int .i64 r_43), (24, .int .u8 b_12), (25, .fn 91 [] [.rop [.int .u8 r_44]]), (26, (A_V8_i64 left_3)), (27, .fn 113 [(A_V8_i64 left_3)] [])]) (by simp) (by kernel_rfl) trivial (by kernel_rfl) ?_
      exact DrO.nil rfl
    · dsimp only [List.getLastD_cons, List.getLastD_nil]
      obtain ⟨r_46, hr_46, h⟩ := Option.bind_eq_some_iff.1 h
      refine ExO.callL [] [.fn 91 [] [.rop [.int .u8 r_44]], .fn 113 [(A_V8_i64 left_3)] []] rfl rfl (by simp; try rfl) rfl rfl (d_coin_sum_int_coin_set_numbers_1r_coin_purse_of N r_44 left_3 r_46 hr_46) (b_coin_sum_int_coin_set_numbers_1r_coin_purse_of _ _ _ _) rfl ?_
      refine runH 2 [] [6] [] (mkS 30 [(6, .int .i64 (IntKind.i64.wrap (r_43 - r_46)))]) (⟨[[.sl (c_1.map A_coin_claim) none], (C_V8_i64 left_3), [.int .u8 b_12]], [(0, 0)]⟩) (by kernel_rfl) trivial ?_
      refine ExO.nil ?_
      refine Ex.ret ?_
      obtain rfl := Option.some.inj h
      exact ⟨.inr rfl, .int .i64 (IntKind.i64.wrap (r_43 - r_46)), by kernel_rfl, by kernel_rfl, by kernel_rfl, by kernel_rfl⟩
end Go.Proofs.Ytkpihepaaiofgaa
end
