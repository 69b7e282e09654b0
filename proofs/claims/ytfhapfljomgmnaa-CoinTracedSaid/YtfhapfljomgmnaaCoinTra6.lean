/- Part 7 of what the law needs: own work, put together. -/
import Derived.ProofKit
import Derived.Test.YtfhapfljomgmnaaRows
import Derived.Test.YtfhapfljomgmnaaCoinTra5
set_option linter.unusedVariables false
set_option linter.unusedSimpArgs false
set_option maxRecDepth 10000
set_option maxHeartbeats 4000000
section
namespace Go.Proofs.Ytfhapfljomgmnaa
open Go.RowKit
attribute [local simp] ren ren1 AV.plain AV.plain1 AV.clean cleanL cleanI cleanBo cleanSt cleanII KL_bk_Drum KL_Fund KL_Bill KL_Ledger KL_claim KL_V8_i64 KL_Span A_bk_Drum C_bk_Drum A_Fund C_Fund A_Bill C_Bill A_Ledger C_Ledger A_claim C_claim A_V8_i64 C_V8_i64 A_Span C_Span back back1 fadeS fadeV List.idxOf? List.findIdx? List.findIdx?.go re re1 KB_bk_Drum KB_Fund KB_Bill KB_Ledger KB_claim KB_V8_i64 KB_Span
def p_checkTrace_2_1 (N : Nat) (coins_1 : Int) : Option (Bool) := ((p_isAmount N coins_1).bind fun r_2 => some (!r_2))
def v_checkTrace_2_1 (r : Bool) : AV := .bool r
attribute [local simp] v_checkTrace_2_1
theorem a_checkTrace_2_1 (coins_1 : Int) : [i6 coins_1].mapM (ren []) = some [i6 coins_1] := by simp
theorem b_checkTrace_2_1 (r : Bool) (n n2 m : Nat) : back n n2 m (v_checkTrace_2_1 r) = some (v_checkTrace_2_1 r) := by simp
theorem d_checkTrace_2_1 (N : Nat) (coins_1 : Int) (r : Bool) (h : p_checkTrace_2_1 N coins_1 = some r) : Does Try.prog 84 [i6 coins_1] [] fun v c => v = v_checkTrace_2_1 r ∧ c = [] := by
 unfold p_checkTrace_2_1 at h
 refine Does.ofL comp84 _ _ rfl rfl ?_
 refine Ex.seq (rg 1 [0] (mkS 6 [(0, i6 coins_1)]) ⟨[], []⟩ ?_)
 refine Ex.seq ?_
 obtain ⟨r_2, hr_2, h⟩ := bE h
 refine Ex.reg (rn 1 [3] (mkS 6 [(3, i6 coins_1)]) ⟨[], []⟩ ?_)
 refine ExO.callL [] [i6 coins_1] rfl rfl (a_isAmount coins_1) rfl rfl (d_isAmount N coins_1 r_2 hr_2) (b_isAmount _ _ _ _) rfl ?_
 refine rn 2 [2] (mkS 6 [(2, .bool (!r_2))]) ⟨[], []⟩ ?_
 refine ExO.nil ?_
 refine Ex.ret ?_
 obtain rfl := sJ h
 exact rt (.bool (!r_2))
def p_slices_IndexFunc_int_int_checkTrace_2_1 (N : Nat) (s_1 : (List Int)) : Option (Int) := (letJ (fun (_ : Unit) => some (-1)) (fun k_2 => (loop1 (fun rec_6 (y_5 : Int) => (bif (decide (y_5 < ((s_1.length : Nat) : Int))) then ((getI s_1 y_5).bind fun x_10 => ((p_checkTrace_2_1 N x_10).bind fun r_11 => (bif r_11 then some y_5 else (rec_6 (IntKind.i64.wrap (y_5 + 1)))))) else (k_2 ()))) N 0)))
def v_slices_IndexFunc_int_int_checkTrace_2_1 (r : Int) : AV := i6 r
attribute [local simp] v_slices_IndexFunc_int_int_checkTrace_2_1
theorem b_slices_IndexFunc_int_int_checkTrace_2_1 (r : Int) (n n2 m : Nat) : back n n2 m (v_slices_IndexFunc_int_int_checkTrace_2_1 r) = some (v_slices_IndexFunc_int_int_checkTrace_2_1 r) := by simp
theorem d_slices_IndexFunc_int_int_checkTrace_2_1 (N : Nat) (s_1 : (List Int)) (r : Int) (h : p_slices_IndexFunc_int_int_checkTrace_2_1 N s_1 = some r) : Does Try.prog 96 [.sl (s_1.map (AV.int .i64)) none, .fn 84 [] []] [] fun v c => v = v_slices_IndexFunc_int_int_checkTrace_2_1 r ∧ c = [] := by
 unfold p_slices_IndexFunc_int_int_checkTrace_2_1 at h
 refine Does.ofL comp96 _ _ rfl rfl ?_
 refine Ex.seq (rg 1 [0, 1] (mkS 19 [(0, .sl (s_1.map (AV.int .i64)) none), (1, .fn 84 [] [])]) ⟨[], []⟩ ?_)
 refine Ex.seq (Ex.seq ?_)
 refine regH 3 [(1, .eq (i6 ((s_1.length : Nat) : Int)))] [0, 1, 7, 8] [AV.int .i64 (((s_1.map (AV.int .i64)).length : Nat) : Int) = AV.int .i64 ((s_1.length : Nat) : Int)] (mkS 19 [(0, .sl (s_1.map (AV.int .i64)) none), (1, .fn 84 [] []), (7, i6 ((s_1.length : Nat) : Int)), (8, i6 0)]) (⟨[], []⟩) (by kernel_rfl) ⟨lenM _ _, trivial⟩ rfl ?_
 obtain ⟨K_3, hK_4, h⟩ := letE h
 refine Ex.blockJ (fun a S => K_3 () = some r ∧ a = mkS 19 [] ∧ S = ⟨[], []⟩) ?_ ?_
 ·obtain ⟨B_7, hB_8, h⟩ := loop1I h
  refine Ex.loopF (fun k a S => ∃ (y_5 : Int), loop1 B_7 k y_5 = some r ∧ a = mkS 19 [(0, .sl (s_1.map (AV.int .i64)) none), (1, .fn 84 [] []), (7, i6 ((s_1.length : Nat) : Int)), (8, i6 y_5)] ∧ S = ⟨[], []⟩) N ⟨_, _, Forgets.refl _ _ _, 0, h, rfl, rfl⟩ ?_
  rintro k a S ⟨y_5, h, rfl, rfl⟩
  cases k with
  | zero => exact (loop1Z h).elim
  | succ k =>
   replace h := loop1S h hB_8
   refine Ex.seq (rg 1 [0, 1, 7, 8, 9] (mkS 19 [(0, .sl (s_1.map (AV.int .i64)) none), (1, .fn 84 [] []), (7, i6 ((s_1.length : Nat) : Int)), (8, i6 y_5), (9, .bool (decide (y_5 < ((s_1.length : Nat) : Int))))]) ⟨[], []⟩ ?_)
   refine Ex.seq ?_
   rcases condI h with ⟨hc_9, h⟩ | ⟨hc_9, h⟩
   ·refine Ex.condT _ rfl hc_9 ?_
    refine Ex.skip ?_
    refine Ex.seq ?_
    refine Ex.blockK ?_
    refine Ex.seq (rg 2 [0, 1, 5, 7, 8] (mkS 19 [(0, .sl (s_1.map (AV.int .i64)) none), (1, .fn 84 [] []), (5, i6 y_5), (7, i6 ((s_1.length : Nat) : Int)), (8, i6 y_5)]) ⟨[], []⟩ ?_)
    refine Ex.seq ?_
    obtain ⟨x_10, hx_10, h⟩ := bE h
    obtain ⟨r_11, hr_11, h⟩ := bE h
    refine Ex.reg ?_
    refine runH 5 [(3, .rop [i6 x_10])] [0, 1, 5, 7, 8, 11, 15] [LGet (s_1.map (AV.int .i64)) y_5 1 [i6 x_10]] (mkS 19 [(0, .sl (s_1.map (AV.int .i64)) none), (1, .fn 84 [] []), (5, i6 y_5), (7, i6 ((s_1.length : Nat) : Int)), (8, i6 y_5), (11, .fn 84 [] []), (15, i6 x_10)]) (⟨[], []⟩) (by kernel_rfl) ⟨LGet.of hx_10 rfl, trivial⟩ ?_
    refine ExO.callL [] [i6 x_10] rfl rfl (a_checkTrace_2_1 x_10) rfl rfl (d_checkTrace_2_1 N x_10 r_11 hr_11) (b_checkTrace_2_1 _ _ _ _) rfl ?_
    refine rn 0 [0, 1, 5, 7, 8, 16] (mkS 19 [(0, .sl (s_1.map (AV.int .i64)) none), (1, .fn 84 [] []), (5, i6 y_5), (7, i6 ((s_1.length : Nat) : Int)), (8, i6 y_5), (16, .bool r_11)]) ⟨[], []⟩ ?_
    refine ExO.nil ?_
    rcases condI h with ⟨hc_12, h⟩ | ⟨hc_12, h⟩
    ·refine Ex.condT _ rfl hc_12 ?_
     refine Ex.seq (rg 2 [4] (mkS 19 [(4, i6 y_5)]) ⟨[], []⟩ ?_)
     refine Ex.ret ?_
     obtain rfl := sJ h
     exact rt (i6 y_5)
    ·refine Ex.condF _ rfl hc_12 ?_
     refine Ex.skip ?_
     refine rg 2 [0, 1, 7, 8] (mkS 19 [(0, .sl (s_1.map (AV.int .i64)) none), (1, .fn 84 [] []), (7, i6 ((s_1.length : Nat) : Int)), (8, i6 (IntKind.i64.wrap (y_5 + 1)))]) ⟨[], []⟩ ?_
     dsimp only
     exact ⟨_, _, Forgets.refl _ _ _, k, Nat.lt_succ_self k, (IntKind.i64.wrap (y_5 + 1)), h, rfl, rfl⟩
   ·refine Ex.condF _ rfl hc_9 ?_
    refine Ex.exit ?_
    (try simp only [reduceCtorEq, AEx.ex.injEq, Nat.reduceEqDiff, if_true, if_false])
    exact ⟨_, _, forgetK [], h, rfl, rfl⟩
 ·rintro a S ⟨h, rfl, rfl⟩
  subst hK_4
  refine Ex.seq (rg 1 [4] (mkS 19 [(4, i6 (-1))]) ⟨[], []⟩ ?_)
  refine Ex.ret ?_
  obtain rfl := sJ h
  exact rt (i6 (-1))
def p_slices_ContainsFunc_int_int_checkTrace_2_1 (N : Nat) (s_1 : (List Int)) : Option (Bool) := ((p_slices_IndexFunc_int_int_checkTrace_2_1 N s_1).bind fun r_2 => some (decide (r_2 ≥ 0)))
def v_slices_ContainsFunc_int_int_checkTrace_2_1 (r : Bool) : AV := .bool r
attribute [local simp] v_slices_ContainsFunc_int_int_checkTrace_2_1
theorem b_slices_ContainsFunc_int_int_checkTrace_2_1 (r : Bool) (n n2 m : Nat) : back n n2 m (v_slices_ContainsFunc_int_int_checkTrace_2_1 r) = some (v_slices_ContainsFunc_int_int_checkTrace_2_1 r) := by simp
theorem d_slices_ContainsFunc_int_int_checkTrace_2_1 (N : Nat) (s_1 : (List Int)) (r : Bool) (h : p_slices_ContainsFunc_int_int_checkTrace_2_1 N s_1 = some r) : Does Try.prog 83 [.sl (s_1.map (AV.int .i64)) none, .fn 84 [] []] [] fun v c => v = v_slices_ContainsFunc_int_int_checkTrace_2_1 r ∧ c = [] := by
 unfold p_slices_ContainsFunc_int_int_checkTrace_2_1 at h
 refine Does.ofL comp83 _ _ rfl rfl ?_
 refine Ex.seq (rg 1 [0, 1] (mkS 9 [(0, .sl (s_1.map (AV.int .i64)) none), (1, .fn 84 [] [])]) ⟨[], []⟩ ?_)
 refine Ex.seq ?_
 obtain ⟨r_2, hr_2, h⟩ := bE h
 refine Ex.reg (rn 2 [5, 6] (mkS 9 [(5, .sl (s_1.map (AV.int .i64)) none), (6, .fn 84 [] [])]) ⟨[], []⟩ ?_)
 refine ExO.callL [] [.sl (s_1.map (AV.int .i64)) none, .fn 84 [] []] rfl rfl (by simp; try rfl) rfl rfl (d_slices_IndexFunc_int_int_checkTrace_2_1 N s_1 r_2 hr_2) (b_slices_IndexFunc_int_int_checkTrace_2_1 _ _ _ _) rfl ?_
 refine rn 2 [4] (mkS 9 [(4, .bool (decide (r_2 ≥ 0)))]) ⟨[], []⟩ ?_
 refine ExO.nil ?_
 refine Ex.ret ?_
 obtain rfl := sJ h
 exact rt (.bool (decide (r_2 ≥ 0)))
def p_checkTrace_2 (N : Nat) (row_1 : (List Int)) : Option (Bool) := ((p_slices_ContainsFunc_int_int_checkTrace_2_1 N row_1).bind fun r_2 => some r_2)
def v_checkTrace_2 (r : Bool) : AV := .bool r
attribute [local simp] v_checkTrace_2
theorem a_checkTrace_2 (row_1 : (List Int)) : [.sl (row_1.map (AV.int .i64)) none].mapM (ren []) = some [.sl (row_1.map (AV.int .i64)) none] := by simp
theorem b_checkTrace_2 (r : Bool) (n n2 m : Nat) : back n n2 m (v_checkTrace_2 r) = some (v_checkTrace_2 r) := by simp
theorem d_checkTrace_2 (N : Nat) (row_1 : (List Int)) (r : Bool) (h : p_checkTrace_2 N row_1 = some r) : Does Try.prog 82 [.sl (row_1.map (AV.int .i64)) none] [] fun v c => v = v_checkTrace_2 r ∧ c = [] := by
 unfold p_checkTrace_2 at h
 refine Does.ofL comp82 _ _ rfl rfl ?_
 refine Ex.seq (rg 1 [0] (mkS 5 [(0, .sl (row_1.map (AV.int .i64)) none)]) ⟨[], []⟩ ?_)
 refine Ex.seq ?_
 obtain ⟨r_2, hr_2, h⟩ := bE h
 refine Ex.reg (rn 1 [3] (mkS 5 [(3, .sl (row_1.map (AV.int .i64)) none)]) ⟨[], []⟩ ?_)
 refine ExO.callL [] [.sl (row_1.map (AV.int .i64)) none, .fn 84 [] []] rfl rfl (by simp; try rfl) rfl rfl (d_slices_ContainsFunc_int_int_checkTrace_2_1 N row_1 r_2 hr_2) (b_slices_ContainsFunc_int_int_checkTrace_2_1 _ _ _ _) rfl ?_
 refine rn 1 [2] (mkS 5 [(2, .bool r_2)]) ⟨[], []⟩ ?_
 refine ExO.nil ?_
 refine Ex.ret ?_
 obtain rfl := sJ h
 exact rt (.bool r_2)
def p_checkTrace_1 (N : Nat) (row_1 : (List Int)) (a_2 : T_Ledger) : Option (Bool) := some (((row_1.length : Nat) : Int) != ((a_2.Funds.length : Nat) : Int))
def v_checkTrace_1 (r : Bool) : AV := .bool r
attribute [local simp] v_checkTrace_1
theorem b_checkTrace_1 (r : Bool) (n n2 m : Nat) : back n n2 m (v_checkTrace_1 r) = some (v_checkTrace_1 r) := by simp
theorem d_checkTrace_1 (N : Nat) (row_1 : (List Int)) (a_2 : T_Ledger) (r : Bool) (h : p_checkTrace_1 N row_1 a_2 = some r) : Does Try.prog 81 [.sl (row_1.map (AV.int .i64)) none, .ptr 0 0] [(C_Ledger a_2)] fun v c => v = v_checkTrace_1 r ∧ c = [(C_Ledger a_2)] := by
 unfold p_checkTrace_1 at h
 refine Does.ofL comp81 _ _ rfl rfl ?_
 refine Ex.seq (rg 1 [0, 1] (mkS 10 [(0, .sl (row_1.map (AV.int .i64)) none), (1, .ptr 0 0)]) ⟨[(C_Ledger a_2)], []⟩ ?_)
 refine Ex.seq ?_
 refine regH 7 [(1, .eq (i6 ((row_1.length : Nat) : Int))), (4, .eq (i6 ((a_2.Funds.length : Nat) : Int)))] [3] [AV.int .i64 (((row_1.map (AV.int .i64)).length : Nat) : Int) = AV.int .i64 ((row_1.length : Nat) : Int), AV.int .i64 (((a_2.Funds.map A_Fund).length : Nat) : Int) = AV.int .i64 ((a_2.Funds.length : Nat) : Int)] (mkS 10 [(3, .bool (((row_1.length : Nat) : Int) != ((a_2.Funds.length : Nat) : Int)))]) (⟨[(C_Ledger a_2)], []⟩) (by kernel_rfl) ⟨lenM _ _, lenM _ _, trivial⟩ rfl ?_
 refine Ex.ret ?_
 obtain rfl := sJ h
 exact rt (.bool (((row_1.length : Nat) : Int) != ((a_2.Funds.length : Nat) : Int)))
def p_slices_IndexFunc_int_int_v1_checkTrace_1 (N : Nat) (s_1 : (List (List Int))) (a_2 : T_Ledger) : Option (Int) := (letJ (fun (_ : Unit) => some (-1)) (fun k_3 => (loop1 (fun rec_7 (y_6 : Int) => (bif (decide (y_6 < ((s_1.length : Nat) : Int))) then ((getI s_1 y_6).bind fun x_11 => ((p_checkTrace_1 N x_11 a_2).bind fun r_12 => (bif r_12 then some y_6 else (rec_7 (IntKind.i64.wrap (y_6 + 1)))))) else (k_3 ()))) N 0)))
def v_slices_IndexFunc_int_int_v1_checkTrace_1 (r : Int) : AV := i6 r
attribute [local simp] v_slices_IndexFunc_int_int_v1_checkTrace_1
theorem b_slices_IndexFunc_int_int_v1_checkTrace_1 (r : Int) (n n2 m : Nat) : back n n2 m (v_slices_IndexFunc_int_int_v1_checkTrace_1 r) = some (v_slices_IndexFunc_int_int_v1_checkTrace_1 r) := by simp
theorem d_slices_IndexFunc_int_int_v1_checkTrace_1 (N : Nat) (s_1 : (List (List Int))) (a_2 : T_Ledger) (r : Int) (h : p_slices_IndexFunc_int_int_v1_checkTrace_1 N s_1 a_2 = some r) : Does Try.prog 97 [.sl (s_1.map (SV (AV.int .i64))) none, .fn 81 [] [.ptr 0 0]] [(C_Ledger a_2)] fun v c => v = v_slices_IndexFunc_int_int_v1_checkTrace_1 r ∧ c = [(C_Ledger a_2)] := by
 unfold p_slices_IndexFunc_int_int_v1_checkTrace_1 at h
 refine Does.ofL comp97 _ _ rfl rfl ?_
 refine Ex.seq (rg 1 [0, 1] (mkS 19 [(0, .sl (s_1.map (SV (AV.int .i64))) none), (1, .fn 81 [] [.ptr 0 0])]) ⟨[(C_Ledger a_2)], []⟩ ?_)
 refine Ex.seq (Ex.seq ?_)
 refine regH 3 [(1, .eq (i6 ((s_1.length : Nat) : Int)))] [0, 1, 7, 8] [AV.int .i64 (((s_1.map (SV (AV.int .i64))).length : Nat) : Int) = AV.int .i64 ((s_1.length : Nat) : Int)] (mkS 19 [(0, .sl (s_1.map (SV (AV.int .i64))) none), (1, .fn 81 [] [.ptr 0 0]), (7, i6 ((s_1.length : Nat) : Int)), (8, i6 0)]) (⟨[(C_Ledger a_2)], []⟩) (by kernel_rfl) ⟨lenM _ _, trivial⟩ rfl ?_
 obtain ⟨K_4, hK_5, h⟩ := letE h
 refine Ex.blockJ (fun a S => K_4 () = some r ∧ a = mkS 19 [] ∧ S = ⟨[(C_Ledger a_2)], []⟩) ?_ ?_
 ·obtain ⟨B_8, hB_9, h⟩ := loop1I h
  refine Ex.loopF (fun k a S => ∃ (y_6 : Int), loop1 B_8 k y_6 = some r ∧ a = mkS 19 [(0, .sl (s_1.map (SV (AV.int .i64))) none), (1, .fn 81 [] [.ptr 0 0]), (7, i6 ((s_1.length : Nat) : Int)), (8, i6 y_6)] ∧ S = ⟨[(C_Ledger a_2)], []⟩) N ⟨_, _, Forgets.refl _ _ _, 0, h, rfl, rfl⟩ ?_
  rintro k a S ⟨y_6, h, rfl, rfl⟩
  cases k with
  | zero => exact (loop1Z h).elim
  | succ k =>
   replace h := loop1S h hB_9
   refine Ex.seq (rg 1 [0, 1, 7, 8, 9] (mkS 19 [(0, .sl (s_1.map (SV (AV.int .i64))) none), (1, .fn 81 [] [.ptr 0 0]), (7, i6 ((s_1.length : Nat) : Int)), (8, i6 y_6), (9, .bool (decide (y_6 < ((s_1.length : Nat) : Int))))]) ⟨[(C_Ledger a_2)], []⟩ ?_)
   refine Ex.seq ?_
   rcases condI h with ⟨hc_10, h⟩ | ⟨hc_10, h⟩
   ·refine Ex.condT _ rfl hc_10 ?_
    refine Ex.skip ?_
    refine Ex.seq ?_
    refine Ex.blockK ?_
    refine Ex.seq (rg 2 [0, 1, 5, 7, 8] (mkS 19 [(0, .sl (s_1.map (SV (AV.int .i64))) none), (1, .fn 81 [] [.ptr 0 0]), (5, i6 y_6), (7, i6 ((s_1.length : Nat) : Int)), (8, i6 y_6)]) ⟨[(C_Ledger a_2)], []⟩ ?_)
    refine Ex.seq ?_
    obtain ⟨x_11, hx_11, h⟩ := bE h
    obtain ⟨r_12, hr_12, h⟩ := bE h
    refine Ex.reg ?_
    refine runH 5 [(3, .rop [.sl (x_11.map (AV.int .i64)) none])] [0, 1, 5, 7, 8, 11, 15] [LGet (s_1.map (SV (AV.int .i64))) y_6 1 [.sl (x_11.map (AV.int .i64)) none]] (mkS 19 [(0, .sl (s_1.map (SV (AV.int .i64))) none), (1, .fn 81 [] [.ptr 0 0]), (5, i6 y_6), (7, i6 ((s_1.length : Nat) : Int)), (8, i6 y_6), (11, .fn 81 [] [.ptr 0 0]), (15, .sl (x_11.map (AV.int .i64)) none)]) (⟨[(C_Ledger a_2)], []⟩) (by kernel_rfl) ⟨LGet.of hx_11 rfl, trivial⟩ ?_
    refine ExO.callL [0] [.sl (x_11.map (AV.int .i64)) none, .ptr 0 0] rfl rfl (by simp; try rfl) rfl (by simp) (d_checkTrace_1 N x_11 a_2 r_12 hr_12) (b_checkTrace_1 _ _ _ _) (by simp) ?_
    refine rn 0 [0, 1, 5, 7, 8, 16] (mkS 19 [(0, .sl (s_1.map (SV (AV.int .i64))) none), (1, .fn 81 [] [.ptr 0 0]), (5, i6 y_6), (7, i6 ((s_1.length : Nat) : Int)), (8, i6 y_6), (16, .bool r_12)]) ⟨[(C_Ledger a_2)], []⟩ ?_
    refine ExO.nil ?_
    rcases condI h with ⟨hc_13, h⟩ | ⟨hc_13, h⟩
    ·refine Ex.condT _ rfl hc_13 ?_
     refine Ex.seq (rg 2 [4] (mkS 19 [(4, i6 y_6)]) ⟨[(C_Ledger a_2)], []⟩ ?_)
     refine Ex.ret ?_
     obtain rfl := sJ h
     exact rt (i6 y_6)
    ·refine Ex.condF _ rfl hc_13 ?_
     refine Ex.skip ?_
     refine rg 2 [0, 1, 7, 8] (mkS 19 [(0, .sl (s_1.map (SV (AV.int .i64))) none), (1, .fn 81 [] [.ptr 0 0]), (7, i6 ((s_1.length : Nat) : Int)), (8, i6 (IntKind.i64.wrap (y_6 + 1)))]) ⟨[(C_Ledger a_2)], []⟩ ?_
     dsimp only
     exact ⟨_, _, Forgets.refl _ _ _, k, Nat.lt_succ_self k, (IntKind.i64.wrap (y_6 + 1)), h, rfl, rfl⟩
   ·refine Ex.condF _ rfl hc_10 ?_
    refine Ex.exit ?_
    (try simp only [reduceCtorEq, AEx.ex.injEq, Nat.reduceEqDiff, if_true, if_false])
    exact ⟨_, _, forgetK [], h, rfl, rfl⟩
 ·rintro a S ⟨h, rfl, rfl⟩
  subst hK_5
  refine Ex.seq (rg 1 [4] (mkS 19 [(4, i6 (-1))]) ⟨[(C_Ledger a_2)], []⟩ ?_)
  refine Ex.ret ?_
  obtain rfl := sJ h
  exact rt (i6 (-1))
def p_slices_ContainsFunc_int_int_v1_checkTrace_1 (N : Nat) (s_1 : (List (List Int))) (a_2 : T_Ledger) : Option (Bool) := ((p_slices_IndexFunc_int_int_v1_checkTrace_1 N s_1 a_2).bind fun r_3 => some (decide (r_3 ≥ 0)))
def v_slices_ContainsFunc_int_int_v1_checkTrace_1 (r : Bool) : AV := .bool r
attribute [local simp] v_slices_ContainsFunc_int_int_v1_checkTrace_1
theorem b_slices_ContainsFunc_int_int_v1_checkTrace_1 (r : Bool) (n n2 m : Nat) : back n n2 m (v_slices_ContainsFunc_int_int_v1_checkTrace_1 r) = some (v_slices_ContainsFunc_int_int_v1_checkTrace_1 r) := by simp
theorem d_slices_ContainsFunc_int_int_v1_checkTrace_1 (N : Nat) (s_1 : (List (List Int))) (a_2 : T_Ledger) (r : Bool) (h : p_slices_ContainsFunc_int_int_v1_checkTrace_1 N s_1 a_2 = some r) : Does Try.prog 85 [.sl (s_1.map (SV (AV.int .i64))) none, .fn 81 [] [.ptr 0 0]] [(C_Ledger a_2)] fun v c => v = v_slices_ContainsFunc_int_int_v1_checkTrace_1 r ∧ c = [(C_Ledger a_2)] := by
 unfold p_slices_ContainsFunc_int_int_v1_checkTrace_1 at h
 refine Does.ofL comp85 _ _ rfl rfl ?_
 refine Ex.seq (rg 1 [0, 1] (mkS 9 [(0, .sl (s_1.map (SV (AV.int .i64))) none), (1, .fn 81 [] [.ptr 0 0])]) ⟨[(C_Ledger a_2)], []⟩ ?_)
 refine Ex.seq ?_
 obtain ⟨r_3, hr_3, h⟩ := bE h
 refine Ex.reg (rn 2 [5, 6] (mkS 9 [(5, .sl (s_1.map (SV (AV.int .i64))) none), (6, .fn 81 [] [.ptr 0 0])]) ⟨[(C_Ledger a_2)], []⟩ ?_)
 refine ExO.callL [0] [.sl (s_1.map (SV (AV.int .i64))) none, .fn 81 [] [.ptr 0 0]] rfl rfl (by simp; try rfl) rfl (by simp) (d_slices_IndexFunc_int_int_v1_checkTrace_1 N s_1 a_2 r_3 hr_3) (b_slices_IndexFunc_int_int_v1_checkTrace_1 _ _ _ _) (by simp) ?_
 refine rn 2 [4] (mkS 9 [(4, .bool (decide (r_3 ≥ 0)))]) ⟨[(C_Ledger a_2)], []⟩ ?_
 refine ExO.nil ?_
 refine Ex.ret ?_
 obtain rfl := sJ h
 exact rt (.bool (decide (r_3 ≥ 0)))
def p_slices_IndexFunc_int_int_v1_checkTrace_2 (N : Nat) (s_1 : (List (List Int))) : Option (Int) := (letJ (fun (_ : Unit) => some (-1)) (fun k_2 => (loop1 (fun rec_6 (y_5 : Int) => (bif (decide (y_5 < ((s_1.length : Nat) : Int))) then ((getI s_1 y_5).bind fun x_10 => ((p_checkTrace_2 N x_10).bind fun r_11 => (bif r_11 then some y_5 else (rec_6 (IntKind.i64.wrap (y_5 + 1)))))) else (k_2 ()))) N 0)))
def v_slices_IndexFunc_int_int_v1_checkTrace_2 (r : Int) : AV := i6 r
attribute [local simp] v_slices_IndexFunc_int_int_v1_checkTrace_2
theorem b_slices_IndexFunc_int_int_v1_checkTrace_2 (r : Int) (n n2 m : Nat) : back n n2 m (v_slices_IndexFunc_int_int_v1_checkTrace_2 r) = some (v_slices_IndexFunc_int_int_v1_checkTrace_2 r) := by simp
theorem d_slices_IndexFunc_int_int_v1_checkTrace_2 (N : Nat) (s_1 : (List (List Int))) (r : Int) (h : p_slices_IndexFunc_int_int_v1_checkTrace_2 N s_1 = some r) : Does Try.prog 97 [.sl (s_1.map (SV (AV.int .i64))) none, .fn 82 [] []] [] fun v c => v = v_slices_IndexFunc_int_int_v1_checkTrace_2 r ∧ c = [] := by
 unfold p_slices_IndexFunc_int_int_v1_checkTrace_2 at h
 refine Does.ofL comp97 _ _ rfl rfl ?_
 refine Ex.seq (rg 1 [0, 1] (mkS 19 [(0, .sl (s_1.map (SV (AV.int .i64))) none), (1, .fn 82 [] [])]) ⟨[], []⟩ ?_)
 refine Ex.seq (Ex.seq ?_)
 refine regH 3 [(1, .eq (i6 ((s_1.length : Nat) : Int)))] [0, 1, 7, 8] [AV.int .i64 (((s_1.map (SV (AV.int .i64))).length : Nat) : Int) = AV.int .i64 ((s_1.length : Nat) : Int)] (mkS 19 [(0, .sl (s_1.map (SV (AV.int .i64))) none), (1, .fn 82 [] []), (7, i6 ((s_1.length : Nat) : Int)), (8, i6 0)]) (⟨[], []⟩) (by kernel_rfl) ⟨lenM _ _, trivial⟩ rfl ?_
 obtain ⟨K_3, hK_4, h⟩ := letE h
 refine Ex.blockJ (fun a S => K_3 () = some r ∧ a = mkS 19 [] ∧ S = ⟨[], []⟩) ?_ ?_
 ·obtain ⟨B_7, hB_8, h⟩ := loop1I h
  refine Ex.loopF (fun k a S => ∃ (y_5 : Int), loop1 B_7 k y_5 = some r ∧ a = mkS 19 [(0, .sl (s_1.map (SV (AV.int .i64))) none), (1, .fn 82 [] []), (7, i6 ((s_1.length : Nat) : Int)), (8, i6 y_5)] ∧ S = ⟨[], []⟩) N ⟨_, _, Forgets.refl _ _ _, 0, h, rfl, rfl⟩ ?_
  rintro k a S ⟨y_5, h, rfl, rfl⟩
  cases k with
  | zero => exact (loop1Z h).elim
  | succ k =>
   replace h := loop1S h hB_8
   refine Ex.seq (rg 1 [0, 1, 7, 8, 9] (mkS 19 [(0, .sl (s_1.map (SV (AV.int .i64))) none), (1, .fn 82 [] []), (7, i6 ((s_1.length : Nat) : Int)), (8, i6 y_5), (9, .bool (decide (y_5 < ((s_1.length : Nat) : Int))))]) ⟨[], []⟩ ?_)
   refine Ex.seq ?_
   rcases condI h with ⟨hc_9, h⟩ | ⟨hc_9, h⟩
   ·refine Ex.condT _ rfl hc_9 ?_
    refine Ex.skip ?_
    refine Ex.seq ?_
    refine Ex.blockK ?_
    refine Ex.seq (rg 2 [0, 1, 5, 7, 8] (mkS 19 [(0, .sl (s_1.map (SV (AV.int .i64))) none), (1, .fn 82 [] []), (5, i6 y_5), (7, i6 ((s_1.length : Nat) : Int)), (8, i6 y_5)]) ⟨[], []⟩ ?_)
    refine Ex.seq ?_
    obtain ⟨x_10, hx_10, h⟩ := bE h
    obtain ⟨r_11, hr_11, h⟩ := bE h
    refine Ex.reg ?_
    refine runH 5 [(3, .rop [.sl (x_10.map (AV.int .i64)) none])] [0, 1, 5, 7, 8, 11, 15] [LGet (s_1.map (SV (AV.int .i64))) y_5 1 [.sl (x_10.map (AV.int .i64)) none]] (mkS 19 [(0, .sl (s_1.map (SV (AV.int .i64))) none), (1, .fn 82 [] []), (5, i6 y_5), (7, i6 ((s_1.length : Nat) : Int)), (8, i6 y_5), (11, .fn 82 [] []), (15, .sl (x_10.map (AV.int .i64)) none)]) (⟨[], []⟩) (by kernel_rfl) ⟨LGet.of hx_10 rfl, trivial⟩ ?_
    refine ExO.callL [] [.sl (x_10.map (AV.int .i64)) none] rfl rfl (a_checkTrace_2 x_10) rfl rfl (d_checkTrace_2 N x_10 r_11 hr_11) (b_checkTrace_2 _ _ _ _) rfl ?_
    refine rn 0 [0, 1, 5, 7, 8, 16] (mkS 19 [(0, .sl (s_1.map (SV (AV.int .i64))) none), (1, .fn 82 [] []), (5, i6 y_5), (7, i6 ((s_1.length : Nat) : Int)), (8, i6 y_5), (16, .bool r_11)]) ⟨[], []⟩ ?_
    refine ExO.nil ?_
    rcases condI h with ⟨hc_12, h⟩ | ⟨hc_12, h⟩
    ·refine Ex.condT _ rfl hc_12 ?_
     refine Ex.seq (rg 2 [4] (mkS 19 [(4, i6 y_5)]) ⟨[], []⟩ ?_)
     refine Ex.ret ?_
     obtain rfl := sJ h
     exact rt (i6 y_5)
    ·refine Ex.condF _ rfl hc_12 ?_
     refine Ex.skip ?_
     refine rg 2 [0, 1, 7, 8] (mkS 19 [(0, .sl (s_1.map (SV (AV.int .i64))) none), (1, .fn 82 [] []), (7, i6 ((s_1.length : Nat) : Int)), (8, i6 (IntKind.i64.wrap (y_5 + 1)))]) ⟨[], []⟩ ?_
     dsimp only
     exact ⟨_, _, Forgets.refl _ _ _, k, Nat.lt_succ_self k, (IntKind.i64.wrap (y_5 + 1)), h, rfl, rfl⟩
   ·refine Ex.condF _ rfl hc_9 ?_
    refine Ex.exit ?_
    (try simp only [reduceCtorEq, AEx.ex.injEq, Nat.reduceEqDiff, if_true, if_false])
    exact ⟨_, _, forgetK [], h, rfl, rfl⟩
 ·rintro a S ⟨h, rfl, rfl⟩
  subst hK_4
  refine Ex.seq (rg 1 [4] (mkS 19 [(4, i6 (-1))]) ⟨[], []⟩ ?_)
  refine Ex.ret ?_
  obtain rfl := sJ h
  exact rt (i6 (-1))
def p_slices_ContainsFunc_int_int_v1_checkTrace_2 (N : Nat) (s_1 : (List (List Int))) : Option (Bool) := ((p_slices_IndexFunc_int_int_v1_checkTrace_2 N s_1).bind fun r_2 => some (decide (r_2 ≥ 0)))
def v_slices_ContainsFunc_int_int_v1_checkTrace_2 (r : Bool) : AV := .bool r
attribute [local simp] v_slices_ContainsFunc_int_int_v1_checkTrace_2
theorem b_slices_ContainsFunc_int_int_v1_checkTrace_2 (r : Bool) (n n2 m : Nat) : back n n2 m (v_slices_ContainsFunc_int_int_v1_checkTrace_2 r) = some (v_slices_ContainsFunc_int_int_v1_checkTrace_2 r) := by simp
theorem d_slices_ContainsFunc_int_int_v1_checkTrace_2 (N : Nat) (s_1 : (List (List Int))) (r : Bool) (h : p_slices_ContainsFunc_int_int_v1_checkTrace_2 N s_1 = some r) : Does Try.prog 85 [.sl (s_1.map (SV (AV.int .i64))) none, .fn 82 [] []] [] fun v c => v = v_slices_ContainsFunc_int_int_v1_checkTrace_2 r ∧ c = [] := by
 unfold p_slices_ContainsFunc_int_int_v1_checkTrace_2 at h
 refine Does.ofL comp85 _ _ rfl rfl ?_
 refine Ex.seq (rg 1 [0, 1] (mkS 9 [(0, .sl (s_1.map (SV (AV.int .i64))) none), (1, .fn 82 [] [])]) ⟨[], []⟩ ?_)
 refine Ex.seq ?_
 obtain ⟨r_2, hr_2, h⟩ := bE h
 refine Ex.reg (rn 2 [5, 6] (mkS 9 [(5, .sl (s_1.map (SV (AV.int .i64))) none), (6, .fn 82 [] [])]) ⟨[], []⟩ ?_)
 refine ExO.callL [] [.sl (s_1.map (SV (AV.int .i64))) none, .fn 82 [] []] rfl rfl (by simp; try rfl) rfl rfl (d_slices_IndexFunc_int_int_v1_checkTrace_2 N s_1 r_2 hr_2) (b_slices_IndexFunc_int_int_v1_checkTrace_2 _ _ _ _) rfl ?_
 refine rn 2 [4] (mkS 9 [(4, .bool (decide (r_2 ≥ 0)))]) ⟨[], []⟩ ?_
 refine ExO.nil ?_
 refine Ex.ret ?_
 obtain rfl := sJ h
 exact rt (.bool (decide (r_2 ≥ 0)))
def p_checkTrace (N : Nat) (l_1 : T_Ledger) (trace_2 : (List (List Int))) : Option (Int) := (letJ (fun (y_3 : Bool) => (bif y_3 then some 1 else ((p_slices_ContainsFunc_int_int_v1_checkTrace_2 N trace_2).bind fun r_10 => (bif r_10 then some 2 else some 0)))) (fun k_4 => (bif (((trace_2.length : Nat) : Int) != ((l_1.Bills.length : Nat) : Int)) then (k_4 true) else ((p_slices_ContainsFunc_int_int_v1_checkTrace_1 N trace_2 l_1).bind fun r_8 => (k_4 r_8)))))
def v_checkTrace (r : Int) : AV := i6 r
attribute [local simp] v_checkTrace
theorem a_checkTrace (l_1 : T_Ledger) (trace_2 : (List (List Int))) : [(A_Ledger l_1), .sl (trace_2.map (SV (AV.int .i64))) none].mapM (ren []) = some [(A_Ledger l_1), .sl (trace_2.map (SV (AV.int .i64))) none] := by simp
theorem b_checkTrace (r : Int) (n n2 m : Nat) : back n n2 m (v_checkTrace r) = some (v_checkTrace r) := by simp
theorem d_checkTrace (N : Nat) (l_1 : T_Ledger) (trace_2 : (List (List Int))) (r : Int) (h : p_checkTrace N l_1 trace_2 = some r) : Does Try.prog 61 [(A_Ledger l_1), .sl (trace_2.map (SV (AV.int .i64))) none] [] fun v c => v = v_checkTrace r ∧ c = [] := by
 unfold p_checkTrace at h
 refine Does.ofL comp61 _ _ rfl rfl ?_
 refine Ex.seq (rg 2 [1, 2] (mkS 24 [(1, .sl (trace_2.map (SV (AV.int .i64))) none), (2, .ptr 0 0)]) ⟨[(C_Ledger l_1)], []⟩ ?_)
 refine Ex.seq (rg 2 [1, 2, 5] (mkS 24 [(1, .sl (trace_2.map (SV (AV.int .i64))) none), (2, .ptr 0 0), (5, .fn 81 [] [.ptr 0 0])]) ⟨[(C_Ledger l_1)], []⟩ ?_)
 refine Ex.seq (rg 1 [1, 2, 5, 6] (mkS 24 [(1, .sl (trace_2.map (SV (AV.int .i64))) none), (2, .ptr 0 0), (5, .fn 81 [] [.ptr 0 0]), (6, .fn 82 [] [])]) ⟨[(C_Ledger l_1)], []⟩ ?_)
 refine Ex.seq ?_
 refine Ex.blockK ?_
 obtain ⟨K_5, hK_6, h⟩ := letE h
 refine Ex.seqJ (fun a S => ∃ (y_3 : Bool), K_5 y_3 = some r ∧ a = mkS 24 [(1, .sl (trace_2.map (SV (AV.int .i64))) none), (6, .fn 82 [] []), (8, .bool y_3)] ∧ S = ⟨[], []⟩) ?_ ?_
 ·rcases condI h with ⟨hc_7, h⟩ | ⟨hc_7, h⟩
  ·refine regH 12 [(1, .eq (i6 ((trace_2.length : Nat) : Int))), (4, .eq (i6 ((l_1.Bills.length : Nat) : Int))), (6, .eq (.bool true))] [1, 6, 8] [AV.int .i64 (((trace_2.map (SV (AV.int .i64))).length : Nat) : Int) = AV.int .i64 ((trace_2.length : Nat) : Int), AV.int .i64 (((l_1.Bills.map A_Bill).length : Nat) : Int) = AV.int .i64 ((l_1.Bills.length : Nat) : Int), AV.bool (((trace_2.length : Nat) : Int) != ((l_1.Bills.length : Nat) : Int)) = AV.bool true] (mkS 24 [(1, .sl (trace_2.map (SV (AV.int .i64))) none), (6, .fn 82 [] []), (8, .bool true)]) (⟨[(C_Ledger l_1)], []⟩) (by kernel_rfl) ⟨lenM _ _, lenM _ _, congrArg AV.bool hc_7, trivial⟩ rfl ?_
   (try simp only [reduceCtorEq, AEx.ex.injEq, Nat.reduceEqDiff, if_true, if_false])
   exact ⟨_, _, forgetA (m := 24) 0 [] [(1, .sl (trace_2.map (SV (AV.int .i64))) none), (6, .fn 82 [] []), (8, .bool true)] [] [] (by simp [setAll]) (by simp) ⟨(reN (cleanII _ _)), (by show re 0 [] (.fn 82 [] []) = some (.fn 82 [] []); simp [re, re1, AV.clean, List.idxOf?, List.findIdx?, List.findIdx?.go, cleanL, cleanI, cleanBo, cleanSt, cleanII, KL_bk_Drum, KL_Fund, KL_Bill, KL_Ledger, KL_claim, KL_V8_i64, KL_Span, A_bk_Drum, C_bk_Drum, A_Fund, C_Fund, A_Bill, C_Bill, A_Ledger, C_Ledger, A_claim, C_claim, A_V8_i64, C_V8_i64, A_Span, C_Span]), rfl, trivial⟩ (by simp) rfl (by decide), true, h, rfl, rfl⟩
  ·obtain ⟨r_8, hr_8, h⟩ := bE h
   refine Ex.reg ?_
   refine runH 9 [(1, .eq (i6 ((trace_2.length : Nat) : Int))), (4, .eq (i6 ((l_1.Bills.length : Nat) : Int))), (6, .eq (.bool false))] [1, 6, 15, 16, 17] [AV.int .i64 (((trace_2.map (SV (AV.int .i64))).length : Nat) : Int) = AV.int .i64 ((trace_2.length : Nat) : Int), AV.int .i64 (((l_1.Bills.map A_Bill).length : Nat) : Int) = AV.int .i64 ((l_1.Bills.length : Nat) : Int), AV.bool (((trace_2.length : Nat) : Int) != ((l_1.Bills.length : Nat) : Int)) = AV.bool false] (mkS 24 [(1, .sl (trace_2.map (SV (AV.int .i64))) none), (6, .fn 82 [] []), (15, .bool false), (16, .sl (trace_2.map (SV (AV.int .i64))) none), (17, .fn 81 [] [.ptr 0 0])]) (⟨[(C_Ledger l_1)], []⟩) (by kernel_rfl) ⟨lenM _ _, lenM _ _, congrArg AV.bool hc_7, trivial⟩ ?_
   refine ExO.callL [0] [.sl (trace_2.map (SV (AV.int .i64))) none, .fn 81 [] [.ptr 0 0]] rfl rfl (by simp; try rfl) rfl (by simp) (d_slices_ContainsFunc_int_int_v1_checkTrace_1 N trace_2 l_1 r_8 hr_8) (b_slices_ContainsFunc_int_int_v1_checkTrace_1 _ _ _ _) (by simp) ?_
   refine rn 2 [1, 6, 8] (mkS 24 [(1, .sl (trace_2.map (SV (AV.int .i64))) none), (6, .fn 82 [] []), (8, .bool r_8)]) ⟨[(C_Ledger l_1)], []⟩ ?_
   refine ExO.nil ?_
   (try simp only [reduceCtorEq, AEx.ex.injEq, Nat.reduceEqDiff, if_true, if_false])
   exact ⟨_, _, forgetA (m := 24) 0 [] [(1, .sl (trace_2.map (SV (AV.int .i64))) none), (6, .fn 82 [] []), (8, .bool r_8)] [] [] (by simp [setAll]) (by simp) ⟨(reN (cleanII _ _)), (by show re 0 [] (.fn 82 [] []) = some (.fn 82 [] []); simp [re, re1, AV.clean, List.idxOf?, List.findIdx?, List.findIdx?.go, cleanL, cleanI, cleanBo, cleanSt, cleanII, KL_bk_Drum, KL_Fund, KL_Bill, KL_Ledger, KL_claim, KL_V8_i64, KL_Span, A_bk_Drum, C_bk_Drum, A_Fund, C_Fund, A_Bill, C_Bill, A_Ledger, C_Ledger, A_claim, C_claim, A_V8_i64, C_V8_i64, A_Span, C_Span]), rfl, trivial⟩ (by simp) rfl (by decide), r_8, h, rfl, rfl⟩
 ·rintro a S ⟨y_3, h, rfl, rfl⟩
  subst hK_6
  rcases condI h with ⟨hc_9, h⟩ | ⟨hc_9, h⟩
  ·refine Ex.condT _ rfl hc_9 ?_
   refine Ex.seq (rg 1 [4] (mkS 24 [(4, i6 1)]) ⟨[], []⟩ ?_)
   refine Ex.ret ?_
   obtain rfl := sJ h
   exact rt (i6 1)
  ·refine Ex.condF _ rfl hc_9 ?_
   refine Ex.seq ?_
   obtain ⟨r_10, hr_10, h⟩ := bE h
   refine Ex.reg (rn 2 [21, 22] (mkS 24 [(21, .sl (trace_2.map (SV (AV.int .i64))) none), (22, .fn 82 [] [])]) ⟨[], []⟩ ?_)
   refine ExO.callL [] [.sl (trace_2.map (SV (AV.int .i64))) none, .fn 82 [] []] rfl rfl (by simp; try rfl) rfl rfl (d_slices_ContainsFunc_int_int_v1_checkTrace_2 N trace_2 r_10 hr_10) (b_slices_ContainsFunc_int_int_v1_checkTrace_2 _ _ _ _) rfl ?_
   refine rn 1 [20] (mkS 24 [(20, .bool r_10)]) ⟨[], []⟩ ?_
   refine ExO.nil ?_
   rcases condI h with ⟨hc_11, h⟩ | ⟨hc_11, h⟩
   ·refine Ex.condT _ rfl hc_11 ?_
    refine Ex.seq (rg 1 [4] (mkS 24 [(4, i6 2)]) ⟨[], []⟩ ?_)
    refine Ex.ret ?_
    obtain rfl := sJ h
    exact rt (i6 2)
   ·refine Ex.condF _ rfl hc_11 ?_
    refine Ex.skip ?_
    refine Ex.seq (rg 1 [4] (mkS 24 [(4, i6 0)]) ⟨[], []⟩ ?_)
    refine Ex.ret ?_
    obtain rfl := sJ h
    exact rt (i6 0)
structure T_Flaw where
 Kind : Int
 Bill : Int
 Fund : Int
 deriving Inhabited
def C_Flaw (x : T_Flaw) : List AV := [i6 x.Kind, i6 x.Bill, i6 x.Fund]
attribute [local simp] C_Flaw
def A_Flaw (x : T_Flaw) : AV := .agg (C_Flaw x)
attribute [local simp] A_Flaw
theorem KC_Flaw (x : T_Flaw) : cleanL (C_Flaw x) = true := by simp
theorem KA_Flaw (x : T_Flaw) : (A_Flaw x).clean = true := KC_Flaw x
theorem KL_Flaw (l : List T_Flaw) : cleanL (l.map A_Flaw) = true := cleanM KA_Flaw l
attribute [local simp] KL_Flaw
theorem KB_Flaw (x : T_Flaw) (n : Nat) (σ : List Nat) : (C_Flaw x).mapM (re n σ) = some (C_Flaw x) := by simp
attribute [local simp] KB_Flaw
def p_billFlaws (N : Nat) (l_1 : T_Ledger) (bill_2 : Int) (row_3 : (List Int)) : Option ((List T_Flaw)) := ((getI l_1.Bills bill_2).bind fun x_4 => (letJ (fun (flaws_5 : List T_Flaw) => (letJ (fun (flaws_12 : List T_Flaw) => some flaws_12) (fun k_13 => (loop2 (fun rec_18 (flaws_16 : List T_Flaw) (y_17 : Int) => (bif (decide (y_17 < ((row_3.length : Nat) : Int))) then (letJ (fun (flaws_22 : List T_Flaw) => (rec_18 flaws_22 (IntKind.i64.wrap (y_17 + 1)))) (fun k_23 => ((getI row_3 y_17).bind fun x_26 => (letJ (fun (y_27 : Bool) => (bif y_27 then ((pushI flaws_16 ([(⟨2, bill_2, y_17⟩ : T_Flaw)] : List T_Flaw)).bind fun l_35 => (k_23 l_35)) else (k_23 flaws_16))) (fun k_28 => (bif (decide (x_26 > 0)) then ((getI l_1.Funds y_17).bind fun x_32 => ((p_canPay N x_32 x_4).bind fun r_33 => (k_28 (!r_33)))) else (k_28 false))))))) else (k_13 flaws_16))) N flaws_5 0)))) (fun k_6 => ((p_total N row_3).bind fun r_9 => (bif (r_9 != x_4.Amount) then (k_6 [(⟨1, bill_2, 0⟩ : T_Flaw)]) else (k_6 []))))))
def v_billFlaws (r : (List T_Flaw)) : AV := .sl (r.map A_Flaw) none
attribute [local simp] v_billFlaws
theorem a_billFlaws (l_1 : T_Ledger) (bill_2 : Int) (row_3 : (List Int)) : [(A_Ledger l_1), i6 bill_2, .sl (row_3.map (AV.int .i64)) none].mapM (ren []) = some [(A_Ledger l_1), i6 bill_2, .sl (row_3.map (AV.int .i64)) none] := by simp
theorem b_billFlaws (r : (List T_Flaw)) (n n2 m : Nat) : back n n2 m (v_billFlaws r) = some (v_billFlaws r) := by simp
theorem d_billFlaws (N : Nat) (l_1 : T_Ledger) (bill_2 : Int) (row_3 : (List Int)) (r : (List T_Flaw)) (h : p_billFlaws N l_1 bill_2 row_3 = some r) : Does Try.prog 62 [(A_Ledger l_1), i6 bill_2, .sl (row_3.map (AV.int .i64)) none] [] fun v c => v = v_billFlaws r ∧ c = [] := by
 unfold p_billFlaws at h
 refine Does.ofL comp62 _ _ rfl rfl ?_
 refine Ex.seq (rg 2 [1, 2, 3] (mkS 53 [(1, i6 bill_2), (2, .sl (row_3.map (AV.int .i64)) none), (3, .ptr 0 0)]) ⟨[(C_Ledger l_1)], []⟩ ?_)
 refine Ex.seq (rg 1 [1, 2, 3, 7] (mkS 53 [(1, i6 bill_2), (2, .sl (row_3.map (AV.int .i64)) none), (3, .ptr 0 0), (7, .nils)]) ⟨[(C_Ledger l_1)], []⟩ ?_)
 refine Ex.seq ?_
 obtain ⟨x_4, hx_4, h⟩ := bE h
 refine regH 7 [(3, .rop (C_Bill x_4))] [1, 2, 3, 7, 8] [LGet (l_1.Bills.map A_Bill) bill_2 3 (C_Bill x_4)] (mkS 53 [(1, i6 bill_2), (2, .sl (row_3.map (AV.int .i64)) none), (3, .ptr 0 0), (7, .nils), (8, .ptr 1 0)]) (⟨[(C_Ledger l_1), (C_Bill x_4)], []⟩) (by kernel_rfl) ⟨LGet.of hx_4 rfl, trivial⟩ rfl ?_
 obtain ⟨K_7, hK_8, h⟩ := letE h
 refine Ex.seqJ (fun a S => ∃ (flaws_5 : List T_Flaw), K_7 flaws_5 = some r ∧ a = mkS 53 [(1, i6 bill_2), (2, .sl (row_3.map (AV.int .i64)) none), (3, .ptr 0 0), (7, .sl (flaws_5.map A_Flaw) (some 0)), (8, .ptr 1 0)] ∧ S = ⟨[(C_Ledger l_1), (C_Bill x_4)], [(flaws_5.length, 3)]⟩) ?_ ?_
 ·refine Ex.seq ?_
  obtain ⟨r_9, hr_9, h⟩ := bE h
  have hT_10 : DoesA Try.prog [⟨67, [.sl (row_3.map (AV.int .i64)) none], [], (v_total r_9), []⟩] ∧ ConsA [⟨67, [.sl (row_3.map (AV.int .i64)) none], [], (v_total r_9), []⟩] := ⟨⟨(d_total N row_3 r_9 hr_9), rfl, trivial⟩, ⟨trivial, trivial⟩⟩
  refine Ex.drawE (a1 := mkS 53 [(1, i6 bill_2), (2, .sl (row_3.map (AV.int .i64)) none), (3, .ptr 0 0), (7, .nils), (8, .ptr 1 0), (16, .sl (row_3.map (AV.int .i64)) none), (17, i6 r_9), (18, .ptr 1 2), (19, i6 x_4.Amount)]) (tabO_ok hT_10.1) [] [] [] ?_ ?_
  ·refine drS [0, 1] 1 [] [] (mkS 53 [(1, i6 bill_2), (2, .sl (row_3.map (AV.int .i64)) none), (3, .ptr 0 0), (7, .nils), (8, .ptr 1 0), (16, .sl (row_3.map (AV.int .i64)) none)]) (by simp) (by kernel_rfl) trivial (by kernel_rfl) ?_
   refine drC hT_10.2 0 _ [.sl (row_3.map (AV.int .i64)) none] (v_total r_9) rfl rfl rfl rfl rfl (fun _ => rfl) rfl (by simp; try rfl) (fun _ => b_total _ _ _ _) ?_
   refine drS [0, 1] 2 [] [] (mkS 53 [(1, i6 bill_2), (2, .sl (row_3.map (AV.int .i64)) none), (3, .ptr 0 0), (7, .nils), (8, .ptr 1 0), (16, .sl (row_3.map (AV.int .i64)) none), (17, i6 r_9), (18, .ptr 1 2), (19, i6 x_4.Amount)]) (by simp) (by kernel_rfl) trivial (by kernel_rfl) ?_
   exact DrO.nil rfl
  ·dsimp only [List.getLastD_cons, List.getLastD_nil]
   refine rn 1 [1, 2, 3, 7, 8, 20] (mkS 53 [(1, i6 bill_2), (2, .sl (row_3.map (AV.int .i64)) none), (3, .ptr 0 0), (7, .nils), (8, .ptr 1 0), (20, .bool (r_9 != x_4.Amount))]) ⟨[(C_Ledger l_1), (C_Bill x_4)], []⟩ ?_
   refine ExO.nil ?_
   rcases condI h with ⟨hc_11, h⟩ | ⟨hc_11, h⟩
   ·refine Ex.condT _ rfl hc_11 ?_
    refine rg 6 [1, 2, 3, 7, 8] (mkS 53 [(1, i6 bill_2), (2, .sl (row_3.map (AV.int .i64)) none), (3, .ptr 0 0), (7, .sl (([(⟨1, bill_2, 0⟩ : T_Flaw)] : List T_Flaw).map A_Flaw) (some 1)), (8, .ptr 1 0)]) ⟨[(C_Ledger l_1), (C_Bill x_4)], [(1, 3), (1, 3)]⟩ ?_
    (try simp only [reduceCtorEq, AEx.ex.injEq, Nat.reduceEqDiff, if_true, if_false])
    exact ⟨_, _, forgetA (m := 53) 2 [1] [(1, i6 bill_2), (2, .sl (row_3.map (AV.int .i64)) none), (3, .ptr 0 0), (7, .sl (([(⟨1, bill_2, 0⟩ : T_Flaw)] : List T_Flaw).map A_Flaw) (some 0)), (8, .ptr 1 0)] [(C_Ledger l_1), (C_Bill x_4)] [(1, 3)] (by simp [setAll]) (by simp) ⟨rfl, (reN (cleanI _ _)), rfl, (reT (KL_Flaw _) rfl), rfl, trivial⟩ (by simp) rfl (by decide), [(⟨1, bill_2, 0⟩ : T_Flaw)], h, rfl, rfl⟩
   ·refine Ex.condF _ rfl hc_11 ?_
    refine Ex.skip ?_
    (try simp only [reduceCtorEq, AEx.ex.injEq, Nat.reduceEqDiff, if_true, if_false])
    exact ⟨_, _, Forgets.trans (nilK 7 3 rfl) (Forgets.castA (a2 := mkS 53 [(1, i6 bill_2), (2, .sl (row_3.map (AV.int .i64)) none), (3, .ptr 0 0), (7, .sl (([] : List T_Flaw).map A_Flaw) (some 0)), (8, .ptr 1 0), (20, .bool (r_9 != x_4.Amount))]) (S2 := ⟨[(C_Ledger l_1), (C_Bill x_4)], [(0, 3)]⟩) (by kernel_rfl) (by kernel_rfl) (forgetK [1, 2, 3, 7, 8])), [], h, rfl, rfl⟩
 ·rintro a S ⟨flaws_5, h, rfl, rfl⟩
  subst hK_8
  refine Ex.seq (Ex.seq ?_)
  refine regH 3 [(1, .eq (i6 ((row_3.length : Nat) : Int)))] [1, 3, 7, 8, 26, 27, 28] [AV.int .i64 (((row_3.map (AV.int .i64)).length : Nat) : Int) = AV.int .i64 ((row_3.length : Nat) : Int)] (mkS 53 [(1, i6 bill_2), (3, .ptr 0 0), (7, .sl (flaws_5.map A_Flaw) (some 0)), (8, .ptr 1 0), (26, .sl (row_3.map (AV.int .i64)) none), (27, i6 ((row_3.length : Nat) : Int)), (28, i6 0)]) (⟨[(C_Ledger l_1), (C_Bill x_4)], [(flaws_5.length, 3)]⟩) (by kernel_rfl) ⟨lenM _ _, trivial⟩ rfl ?_
  obtain ⟨K_14, hK_15, h⟩ := letE h
  refine Ex.blockJ (fun a S => ∃ (flaws_12 : List T_Flaw), K_14 flaws_12 = some r ∧ a = mkS 53 [(7, .sl (flaws_12.map A_Flaw) (some 0))] ∧ S = ⟨[], [(flaws_12.length, 3)]⟩) ?_ ?_
  ·obtain ⟨B_19, hB_20, h⟩ := loop2I h
   refine Ex.loopF (fun k a S => ∃ (flaws_16 : List T_Flaw), ∃ (y_17 : Int), loop2 B_19 k flaws_16 y_17 = some r ∧ a = mkS 53 [(1, i6 bill_2), (3, .ptr 0 0), (7, .sl (flaws_16.map A_Flaw) (some 0)), (8, .ptr 1 0), (26, .sl (row_3.map (AV.int .i64)) none), (27, i6 ((row_3.length : Nat) : Int)), (28, i6 y_17)] ∧ S = ⟨[(C_Ledger l_1), (C_Bill x_4)], [(flaws_16.length, 3)]⟩) N ⟨_, _, Forgets.refl _ _ _, flaws_5, 0, h, rfl, rfl⟩ ?_
   rintro k a S ⟨flaws_16, y_17, h, rfl, rfl⟩
   cases k with
   | zero => exact (loop2Z h).elim
   | succ k =>
    replace h := loop2S h hB_20
    refine Ex.seq (rg 1 [1, 3, 7, 8, 26, 27, 28, 29] (mkS 53 [(1, i6 bill_2), (3, .ptr 0 0), (7, .sl (flaws_16.map A_Flaw) (some 0)), (8, .ptr 1 0), (26, .sl (row_3.map (AV.int .i64)) none), (27, i6 ((row_3.length : Nat) : Int)), (28, i6 y_17), (29, .bool (decide (y_17 < ((row_3.length : Nat) : Int))))]) ⟨[(C_Ledger l_1), (C_Bill x_4)], [(flaws_16.length, 3)]⟩ ?_)
    refine Ex.seq ?_
    rcases condI h with ⟨hc_21, h⟩ | ⟨hc_21, h⟩
    ·refine Ex.condT _ rfl hc_21 ?_
     refine Ex.skip ?_
     refine Ex.seq ?_
     obtain ⟨K_24, hK_25, h⟩ := letE h
     refine Ex.blockJ (fun a S => ∃ (flaws_22 : List T_Flaw), K_24 flaws_22 = some r ∧ a = mkS 53 [(1, i6 bill_2), (3, .ptr 0 0), (7, .sl (flaws_22.map A_Flaw) (some 0)), (8, .ptr 1 0), (26, .sl (row_3.map (AV.int .i64)) none), (27, i6 ((row_3.length : Nat) : Int)), (28, i6 y_17)] ∧ S = ⟨[(C_Ledger l_1), (C_Bill x_4)], [(flaws_22.length, 3)]⟩) ?_ ?_
     ·refine Ex.seq ?_
      obtain ⟨x_26, hx_26, h⟩ := bE h
      refine regH 5 [(1, .rop [i6 x_26])] [1, 3, 7, 8, 9, 10, 26, 27, 28] [LGet (row_3.map (AV.int .i64)) y_17 1 [i6 x_26]] (mkS 53 [(1, i6 bill_2), (3, .ptr 0 0), (7, .sl (flaws_16.map A_Flaw) (some 0)), (8, .ptr 1 0), (9, i6 y_17), (10, i6 x_26), (26, .sl (row_3.map (AV.int .i64)) none), (27, i6 ((row_3.length : Nat) : Int)), (28, i6 y_17)]) (⟨[(C_Ledger l_1), (C_Bill x_4)], [(flaws_16.length, 3)]⟩) (by kernel_rfl) ⟨LGet.of hx_26 rfl, trivial⟩ rfl ?_
      obtain ⟨K_29, hK_30, h⟩ := letE h
      refine Ex.seqJ (fun a S => ∃ (y_27 : Bool), K_29 y_27 = some r ∧ a = mkS 53 [(1, i6 bill_2), (3, .ptr 0 0), (7, .sl (flaws_16.map A_Flaw) (some 0)), (8, .ptr 1 0), (9, i6 y_17), (26, .sl (row_3.map (AV.int .i64)) none), (27, i6 ((row_3.length : Nat) : Int)), (28, i6 y_17), (44, .bool y_27)] ∧ S = ⟨[(C_Ledger l_1), (C_Bill x_4)], [(flaws_16.length, 3)]⟩) ?_ ?_
      ·rcases condI h with ⟨hc_31, h⟩ | ⟨hc_31, h⟩
       ·obtain ⟨x_32, hx_32, h⟩ := bE h
        refine Ex.drawE (a1 := mkS 53 [(1, i6 bill_2), (3, .ptr 0 0), (7, .sl (flaws_16.map A_Flaw) (some 0)), (8, .ptr 1 0), (9, i6 y_17), (10, i6 x_26), (26, .sl (row_3.map (AV.int .i64)) none), (27, i6 ((row_3.length : Nat) : Int)), (28, i6 y_17), (33, i6 x_26), (34, .bool (decide (x_26 > 0))), (35, .bool true), (36, .ptr 0 0), (37, .sl (l_1.Funds.map A_Fund) none), (38, i6 y_17), (39, .rop (C_Fund x_32)), (40, (A_Fund x_32)), (41, (A_Bill x_4))]) (noClr_ok _) [] [] [] ?_ ?_
        ·refine drS [0, 1] 9 [(2, .eq (.bool true)), (6, .rop (C_Fund x_32))] [AV.bool (decide (x_26 > 0)) = AV.bool true, LGet (l_1.Funds.map A_Fund) y_17 4 (C_Fund x_32)] (mkS 53 [(1, i6 bill_2), (3, .ptr 0 0), (7, .sl (flaws_16.map A_Flaw) (some 0)), (8, .ptr 1 0), (9, i6 y_17), (10, i6 x_26), (26, .sl (row_3.map (AV.int .i64)) none), (27, i6 ((row_3.length : Nat) : Int)), (28, i6 y_17), (33, i6 x_26), (34, .bool (decide (x_26 > 0))), (35, .bool true), (36, .ptr 0 0), (37, .sl (l_1.Funds.map A_Fund) none), (38, i6 y_17), (39, .rop (C_Fund x_32)), (40, (A_Fund x_32)), (41, (A_Bill x_4))]) (by simp) (by kernel_rfl) ⟨congrArg AV.bool hc_31, LGet.of hx_32 rfl, trivial⟩ (by kernel_rfl) ?_
         exact DrO.nil rfl
        ·dsimp only [List.getLastD_cons, List.getLastD_nil]
         obtain ⟨r_33, hr_33, h⟩ := bE h
         refine ExO.callL [] [(A_Fund x_32), (A_Bill x_4)] rfl rfl (a_canPay x_32 x_4) rfl rfl (d_canPay N x_32 x_4 r_33 hr_33) (b_canPay _ _ _ _) rfl ?_
         refine rn 2 [1, 3, 7, 8, 9, 26, 27, 28, 44] (mkS 53 [(1, i6 bill_2), (3, .ptr 0 0), (7, .sl (flaws_16.map A_Flaw) (some 0)), (8, .ptr 1 0), (9, i6 y_17), (26, .sl (row_3.map (AV.int .i64)) none), (27, i6 ((row_3.length : Nat) : Int)), (28, i6 y_17), (44, .bool (!r_33))]) ⟨[(C_Ledger l_1), (C_Bill x_4)], [(flaws_16.length, 3)]⟩ ?_
         refine ExO.nil ?_
         (try simp only [reduceCtorEq, AEx.ex.injEq, Nat.reduceEqDiff, if_true, if_false])
         exact ⟨_, _, Forgets.refl _ _ _, (!r_33), h, rfl, rfl⟩
       ·refine dregX (noClr_ok _) [(2, .eq (.bool false))] [] [1, 3, 7, 8, 9, 26, 27, 28, 44] [AV.bool (decide (x_26 > 0)) = AV.bool false] [] (mkS 53 [(1, i6 bill_2), (3, .ptr 0 0), (7, .sl (flaws_16.map A_Flaw) (some 0)), (8, .ptr 1 0), (9, i6 y_17), (10, i6 x_26), (26, .sl (row_3.map (AV.int .i64)) none), (27, i6 ((row_3.length : Nat) : Int)), (28, i6 y_17), (33, i6 x_26), (34, .bool (decide (x_26 > 0))), (35, .bool false), (36, .tup []), (37, .tup []), (38, .tup []), (39, .tup []), (40, .tup []), (41, .tup [])]) (mkS 53 [(1, i6 bill_2), (3, .ptr 0 0), (7, .sl (flaws_16.map A_Flaw) (some 0)), (8, .ptr 1 0), (9, i6 y_17), (26, .sl (row_3.map (AV.int .i64)) none), (27, i6 ((row_3.length : Nat) : Int)), (28, i6 y_17), (44, .bool false)]) (by kernel_rfl) (by kernel_rfl) ⟨congrArg AV.bool hc_31, trivial⟩ (by kernel_rfl) trivial ?_
        (try simp only [reduceCtorEq, AEx.ex.injEq, Nat.reduceEqDiff, if_true, if_false])
        exact ⟨_, _, Forgets.refl _ _ _, false, h, rfl, rfl⟩
      ·rintro a S ⟨y_27, h, rfl, rfl⟩
       subst hK_30
       rcases condI h with ⟨hc_34, h⟩ | ⟨hc_34, h⟩
       ·refine Ex.condT _ rfl hc_34 ?_
        obtain ⟨l_35, hl_35, h⟩ := bE h
        refine regH 7 [(5, .app (l_35.map A_Flaw) l_35.length)] [1, 3, 7, 8, 26, 27, 28] [LApp flaws_16.length (flaws_16.map A_Flaw) (([(⟨2, bill_2, y_17⟩ : T_Flaw)] : List T_Flaw).map A_Flaw) 3 (l_35.map A_Flaw) l_35.length] (mkS 53 [(1, i6 bill_2), (3, .ptr 0 0), (7, .sl (l_35.map A_Flaw) (some 0)), (8, .ptr 1 0), (26, .sl (row_3.map (AV.int .i64)) none), (27, i6 ((row_3.length : Nat) : Int)), (28, i6 y_17)]) (⟨[(C_Ledger l_1), (C_Bill x_4)], [(l_35.length, 3), (1, 3)]⟩) (by kernel_rfl) ⟨LApp.of hl_35 (fun _ => rfl), trivial⟩ rfl ?_
        (try simp only [reduceCtorEq, AEx.ex.injEq, Nat.reduceEqDiff, if_true, if_false])
        exact ⟨_, _, forgetA (m := 53) 2 [0] [(1, i6 bill_2), (3, .ptr 0 0), (7, .sl (l_35.map A_Flaw) (some 0)), (8, .ptr 1 0), (26, .sl (row_3.map (AV.int .i64)) none), (27, i6 ((row_3.length : Nat) : Int)), (28, i6 y_17)] [(C_Ledger l_1), (C_Bill x_4)] [(l_35.length, 3)] (by simp [setAll]) (by simp) ⟨rfl, rfl, (reT (KL_Flaw _) rfl), rfl, (reN (cleanI _ _)), rfl, rfl, trivial⟩ (by simp) rfl (by decide), l_35, h, rfl, rfl⟩
       ·refine Ex.condF _ rfl hc_34 ?_
        refine Ex.skip ?_
        (try simp only [reduceCtorEq, AEx.ex.injEq, Nat.reduceEqDiff, if_true, if_false])
        exact ⟨_, _, forgetK [1, 3, 7, 8, 26, 27, 28], flaws_16, h, rfl, rfl⟩
     ·rintro a S ⟨flaws_22, h, rfl, rfl⟩
      subst hK_25
      refine rg 2 [1, 3, 7, 8, 26, 27, 28] (mkS 53 [(1, i6 bill_2), (3, .ptr 0 0), (7, .sl (flaws_22.map A_Flaw) (some 0)), (8, .ptr 1 0), (26, .sl (row_3.map (AV.int .i64)) none), (27, i6 ((row_3.length : Nat) : Int)), (28, i6 (IntKind.i64.wrap (y_17 + 1)))]) ⟨[(C_Ledger l_1), (C_Bill x_4)], [(flaws_22.length, 3)]⟩ ?_
      dsimp only
      exact ⟨_, _, Forgets.refl _ _ _, k, Nat.lt_succ_self k, flaws_22, (IntKind.i64.wrap (y_17 + 1)), h, rfl, rfl⟩
    ·refine Ex.condF _ rfl hc_21 ?_
     refine Ex.exit ?_
     (try simp only [reduceCtorEq, AEx.ex.injEq, Nat.reduceEqDiff, if_true, if_false])
     exact ⟨_, _, forgetA (m := 53) 0 [0] [(7, .sl (flaws_16.map A_Flaw) (some 0))] [] [(flaws_16.length, 3)] (by simp [setAll]) (by simp) ⟨(reT (KL_Flaw _) rfl), trivial⟩ (by simp) rfl (by decide), flaws_16, h, rfl, rfl⟩
  ·rintro a S ⟨flaws_12, h, rfl, rfl⟩
   subst hK_15
   refine Ex.seq (rg 2 [6] (mkS 53 [(6, .sl (flaws_12.map A_Flaw) (some 0))]) ⟨[], [(flaws_12.length, 3)]⟩ ?_)
   refine Ex.ret ?_
   obtain rfl := sJ h
   exact rt (.sl (flaws_12.map A_Flaw) (some 0))
def p_slices_Values_int_int_v1 (N : Nat) (s_1 : (List (List Int))) : Option ((List (List Int))) := some s_1
def v_slices_Values_int_int_v1 (r : (List (List Int))) : AV := .fn 86 [] [.rop [.sl (r.map (SV (AV.int .i64))) none]]
attribute [local simp] v_slices_Values_int_int_v1
theorem a_slices_Values_int_int_v1 (s_1 : (List (List Int))) : [.sl (s_1.map (SV (AV.int .i64))) none].mapM (ren []) = some [.sl (s_1.map (SV (AV.int .i64))) none] := by simp
theorem b_slices_Values_int_int_v1 (r : (List (List Int))) (n n2 m : Nat) : back n n2 m (v_slices_Values_int_int_v1 r) = some (v_slices_Values_int_int_v1 r) := by simp
theorem d_slices_Values_int_int_v1 (N : Nat) (s_1 : (List (List Int))) (r : (List (List Int))) (h : p_slices_Values_int_int_v1 N s_1 = some r) : Does Try.prog 64 [.sl (s_1.map (SV (AV.int .i64))) none] [] fun v c => v = v_slices_Values_int_int_v1 r ∧ c = [] := by
 unfold p_slices_Values_int_int_v1 at h
 refine Does.ofL comp64 _ _ rfl rfl ?_
 refine Ex.seq (rg 2 [1] (mkS 4 [(1, .ptr 0 0)]) ⟨[[.sl (s_1.map (SV (AV.int .i64))) none]], []⟩ ?_)
 refine Ex.seq (rg 2 [2] (mkS 4 [(2, .fn 86 [] [.ptr 0 0])]) ⟨[[.sl (s_1.map (SV (AV.int .i64))) none]], []⟩ ?_)
 refine Ex.forget (forgetK [2]) ?_
 refine Ex.castA (a2 := mkS 4 [(2, .fn 86 [] [.ptr 0 0])]) (S2 := ⟨[[.sl (s_1.map (SV (AV.int .i64))) none]], []⟩) (by kernel_rfl) (by kernel_rfl) ?_
 obtain rfl := sJ h
 refine Ex.forget (chillP 2 0 [.sl (s_1.map (SV (AV.int .i64))) none] _ rfl rfl) ?_
 refine Ex.castA (a2 := mkS 4 [(2, .fn 86 [] [.rop [.sl (s_1.map (SV (AV.int .i64))) none]])]) (S2 := ⟨[[]], []⟩) (by kernel_rfl) (by kernel_rfl) ?_
 refine Ex.ret ?_
 exact rt (.fn 86 [] [.rop [.sl (s_1.map (SV (AV.int .i64))) none]])
def p_Audit_1 (N : Nat) (row_1 : (List Int)) (a_2 : Int) : Option (Int) := ((getI row_1 a_2).bind fun x_3 => some x_3)
def v_Audit_1 (r : Int) : AV := i6 r
attribute [local simp] v_Audit_1
theorem b_Audit_1 (r : Int) (n n2 m : Nat) : back n n2 m (v_Audit_1 r) = some (v_Audit_1 r) := by simp
theorem d_Audit_1 (N : Nat) (row_1 : (List Int)) (a_2 : Int) (r : Int) (h : p_Audit_1 N row_1 a_2 = some r) : Does Try.prog 65 [.sl (row_1.map (AV.int .i64)) none, .ptr 0 0] [[i6 a_2]] fun v c => v = v_Audit_1 r ∧ c = [[i6 a_2]] := by
 unfold p_Audit_1 at h
 refine Does.ofL comp65 _ _ rfl rfl ?_
 refine Ex.seq (rg 1 [0, 1] (mkS 8 [(0, .sl (row_1.map (AV.int .i64)) none), (1, .ptr 0 0)]) ⟨[[i6 a_2]], []⟩ ?_)
 refine Ex.seq ?_
 obtain ⟨x_3, hx_3, h⟩ := bE h
 refine regH 5 [(2, .rop [i6 x_3])] [3] [LGet (row_1.map (AV.int .i64)) a_2 1 [i6 x_3]] (mkS 8 [(3, i6 x_3)]) (⟨[[i6 a_2]], []⟩) (by kernel_rfl) ⟨LGet.of hx_3 rfl, trivial⟩ rfl ?_
 refine Ex.ret ?_
 obtain rfl := sJ h
 exact rt (i6 x_3)
def p_sum_int_v1_slices_Values_int_int_1_v1r_Audit_1 (N : Nat) (a_1 : (List (List Int))) (a_2 : Int) : Option (Int) := (letJ (fun (b_10 : Int) => some b_10) (fun k_11 => (letJ (fun (b_14 : Int) => (k_11 b_14)) (fun k_15 => (loop2 (fun rec_20 (y_18 : Int) (b_19 : Int) => (bif (decide (y_18 < ((a_1.length : Nat) : Int))) then ((getI a_1 y_18).bind fun x_24 => (letJ (fun (b_33 : Int) => (rec_20 (IntKind.i64.wrap (y_18 + 1)) b_33)) (fun k_34 => ((p_Audit_1 N x_24 a_2).bind fun r_37 => (k_34 (IntKind.i64.wrap (b_19 + r_37))))))) else (k_15 b_19))) N 0 0)))))
def v_sum_int_v1_slices_Values_int_int_1_v1r_Audit_1 (r : Int) : AV := i6 r
attribute [local simp] v_sum_int_v1_slices_Values_int_int_1_v1r_Audit_1
theorem b_sum_int_v1_slices_Values_int_int_1_v1r_Audit_1 (r : Int) (n n2 m : Nat) : back n n2 m (v_sum_int_v1_slices_Values_int_int_1_v1r_Audit_1 r) = some (v_sum_int_v1_slices_Values_int_int_1_v1r_Audit_1 r) := by simp
theorem d_sum_int_v1_slices_Values_int_int_1_v1r_Audit_1 (N : Nat) (a_1 : (List (List Int))) (a_2 : Int) (r : Int) (h : p_sum_int_v1_slices_Values_int_int_1_v1r_Audit_1 N a_1 a_2 = some r) : Does Try.prog 63 [.fn 86 [] [.rop [.sl (a_1.map (SV (AV.int .i64))) none]], .fn 65 [] [.ptr 0 0]] [[i6 a_2]] fun v c => v = v_sum_int_v1_slices_Values_int_int_1_v1r_Audit_1 r ∧ c = [[i6 a_2]] := by
 unfold p_sum_int_v1_slices_Values_int_int_1_v1r_Audit_1 at h
 refine Does.ofL comp63 _ _ rfl rfl ?_
 refine Ex.seq (rg 2 [0, 3, 4] (mkS 15 [(0, .fn 86 [] [.rop [.sl (a_1.map (SV (AV.int .i64))) none]]), (3, .ptr 1 0), (4, i6 0)]) ⟨[[i6 a_2], [.fn 65 [] [.ptr 0 0]]], []⟩ ?_)
 refine Ex.seq (rg 2 [0, 3, 4, 5] (mkS 15 [(0, .fn 86 [] [.rop [.sl (a_1.map (SV (AV.int .i64))) none]]), (3, .ptr 1 0), (4, i6 0), (5, .ptr 2 0)]) ⟨[[i6 a_2], [.fn 65 [] [.ptr 0 0]], [i6 0]], []⟩ ?_)
 refine Ex.seq (Ex.seq ?_)
 refine rg 1 [3, 4, 5, 7] (mkS 15 [(3, .ptr 1 0), (4, i6 0), (5, .ptr 2 0), (7, .fn 86 [] [.rop [.sl (a_1.map (SV (AV.int .i64))) none]])]) ⟨[[i6 a_2], [.fn 65 [] [.ptr 0 0]], [i6 0]], []⟩ ?_
 refine Ex.blockK ?_
 obtain ⟨K_12, hK_13, h⟩ := letE h
 refine Ex.rangeJ (fun k S => (k = 0 ∧ ∃ (b_10 : Int), K_12 b_10 = some r ∧ S = ⟨[[i6 a_2], [.fn 65 [] [.ptr 0 0]], [i6 b_10]], [(0, 0)]⟩)) 86 [.rop [.sl (a_1.map (SV (AV.int .i64))) none]] _ rfl comp86 rfl (by simp [setAll]) (by exact trivial) (mkS 16 [(1, .rop [.sl (a_1.map (SV (AV.int .i64))) none]), (2, .tup []), (3, .tup []), (4, .tup []), (5, .tup []), (6, .tup []), (7, .tup []), (8, .tup []), (9, .tup []), (10, .tup []), (11, .tup []), (12, .tup []), (13, .tup []), (14, .tup []), (15, .tup [])]) (⟨[[i6 a_2], [.fn 65 [] [.ptr 0 0]], [i6 0]], [(0, 0)]⟩) (fun _ => by kernel_rfl) (by kernel_rfl) ?_ ?_
 ·intro cx_4 Lp_3 hcn_5 hcm_6 hLt_7 hL_8 hup_9
  refine Ex.castA (a2 := mkS 16 [(0, .yld Lp_3.l 0), (1, .rop [.sl (a_1.map (SV (AV.int .i64))) none]), (2, .tup []), (3, .tup []), (4, .tup []), (5, .tup []), (6, .tup []), (7, .tup []), (8, .tup []), (9, .tup []), (10, .tup []), (11, .tup []), (12, .tup []), (13, .tup []), (14, .tup []), (15, .tup [])]) (S2 := ⟨[[i6 a_2], [.fn 65 [] [.ptr 0 0]], [i6 0]], [(0, 0)]⟩) (by kernel_rfl) rfl ?_
  refine Ex.seq ?_
  refine regH 3 [(1, .eq (i6 ((a_1.length : Nat) : Int)))] [0, 5, 6, 7] [AV.int .i64 (((a_1.map (SV (AV.int .i64))).length : Nat) : Int) = AV.int .i64 ((a_1.length : Nat) : Int)] (mkS 16 [(0, .yld Lp_3.l 0), (5, .sl (a_1.map (SV (AV.int .i64))) none), (6, i6 ((a_1.length : Nat) : Int)), (7, i6 0)]) (⟨[[i6 a_2], [.fn 65 [] [.ptr 0 0]], [i6 0]], [(0, 0)]⟩) (by kernel_rfl) ⟨lenM _ _, trivial⟩ rfl ?_
  obtain ⟨K_16, hK_17, h⟩ := letE h
  refine Ex.blockJ (fun a S => ∃ (b_14 : Int), K_16 b_14 = some r ∧ a = mkS 16 [] ∧ S = ⟨[[i6 a_2], [.fn 65 [] [.ptr 0 0]], [i6 b_14]], [(0, 0)]⟩) ?_ ?_
  ·obtain ⟨B_21, hB_22, h⟩ := loop2I h
   refine Ex.loopF (fun k a S => ∃ (y_18 : Int), ∃ (b_19 : Int), loop2 B_21 k y_18 b_19 = some r ∧ a = mkS 16 [(0, .yld Lp_3.l 0), (5, .sl (a_1.map (SV (AV.int .i64))) none), (6, i6 ((a_1.length : Nat) : Int)), (7, i6 y_18)] ∧ S = ⟨[[i6 a_2], [.fn 65 [] [.ptr 0 0]], [i6 b_19]], [(0, 0)]⟩) N ⟨_, _, Forgets.refl _ _ _, 0, 0, h, rfl, rfl⟩ ?_
   rintro k a S ⟨y_18, b_19, h, rfl, rfl⟩
   cases k with
   | zero => exact (loop2Z h).elim
   | succ k =>
    replace h := loop2S h hB_22
    refine Ex.seq (rg 1 [0, 5, 6, 7, 8] (mkS 16 [(0, .yld Lp_3.l 0), (5, .sl (a_1.map (SV (AV.int .i64))) none), (6, i6 ((a_1.length : Nat) : Int)), (7, i6 y_18), (8, .bool (decide (y_18 < ((a_1.length : Nat) : Int))))]) ⟨[[i6 a_2], [.fn 65 [] [.ptr 0 0]], [i6 b_19]], [(0, 0)]⟩ ?_)
    refine Ex.seq ?_
    rcases condI h with ⟨hc_23, h⟩ | ⟨hc_23, h⟩
    ·refine Ex.condT _ rfl hc_23 ?_
     refine Ex.skip ?_
     refine Ex.seq ?_
     refine Ex.blockK ?_
     refine Ex.seq ?_
     obtain ⟨x_24, hx_24, h⟩ := bE h
     refine regH 3 [(0, .rop [.sl (x_24.map (AV.int .i64)) none])] [0, 4, 5, 6, 7] [LGet (a_1.map (SV (AV.int .i64))) y_18 1 [.sl (x_24.map (AV.int .i64)) none]] (mkS 16 [(0, .yld Lp_3.l 0), (4, .sl (x_24.map (AV.int .i64)) none), (5, .sl (a_1.map (SV (AV.int .i64))) none), (6, i6 ((a_1.length : Nat) : Int)), (7, i6 y_18)]) (⟨[[i6 a_2], [.fn 65 [] [.ptr 0 0]], [i6 b_19]], [(0, 0)]⟩) (by kernel_rfl) ⟨LGet.of hx_24 rfl, trivial⟩ rfl ?_
     refine Ex.seq ?_
     refine Ex.regI ?_
     refine runI 2 [] [0, 5, 6, 7, 11, 12] [] (mkS 16 [(0, .yld Lp_3.l 0), (5, .sl (a_1.map (SV (AV.int .i64))) none), (6, i6 ((a_1.length : Nat) : Int)), (7, i6 y_18), (11, .yld Lp_3.l 0), (12, .sl (x_24.map (AV.int .i64)) none)]) (⟨[[i6 a_2], [.fn 65 [] [.ptr 0 0]], [i6 b_19]], [(0, 0)]⟩) (by kernel_rfl) trivial ?_
     obtain ⟨K_35, hK_36, h⟩ := letE h
     refine ExI.yieldT 0 hLt_7 hL_8 [.sl (x_24.map (AV.int .i64)) none] rfl rfl rfl (by kernel_rfl) rfl rfl (leC hcn_5 (by simp [setAll])) ?_
     intro ca_25 cb_26 ha_27 hb_28 hma_29 hmb_30 hup_31 hbz_32
     refine Ex.castA (a2 := mkS 15 [(3, .ptr 1 0), (4, i6 0), (5, .ptr 2 0), (7, .fn 86 [] [.rop [.sl (a_1.map (SV (AV.int .i64))) none]]), (8, .sl (x_24.map (AV.int .i64)) none)]) (S2 := ⟨[[i6 a_2], [.fn 65 [] [.ptr 0 0]], [i6 b_19]], [(0, 0)]⟩) (by kernel_rfl) (by kernel_rfl) ?_
     refine Ex.two (fun z S => (z = AEx.norm ∧ ∃ (b_33 : Int), K_35 b_33 = some r ∧ S = ⟨[[i6 a_2], [.fn 65 [] [.ptr 0 0]], [i6 b_33]], [(0, 0)]⟩)) ?_ ?_
     ·refine rg 1 [3, 5, 6] (mkS 15 [(3, .ptr 1 0), (5, .ptr 2 0), (6, .sl (x_24.map (AV.int .i64)) none)]) ⟨[[i6 a_2], [.fn 65 [] [.ptr 0 0]], [i6 b_19]], [(0, 0)]⟩ ?_
      refine ⟨rfl, rfl, ?_⟩
      refine Ex.blockK ?_
      obtain ⟨r_37, hr_37, h⟩ := bE h
      have hT_38 : DoesA Try.prog [⟨65, [.sl (x_24.map (AV.int .i64)) none, .ptr 0 0], [[i6 a_2]], (v_Audit_1 r_37), [[i6 a_2]]⟩] ∧ ConsA [⟨65, [.sl (x_24.map (AV.int .i64)) none, .ptr 0 0], [[i6 a_2]], (v_Audit_1 r_37), [[i6 a_2]]⟩] := ⟨⟨(d_Audit_1 N x_24 a_2 r_37 hr_37), rfl, trivial⟩, ⟨trivial, trivial⟩⟩
      refine Ex.drawE (a1 := mkS 15 [(3, .ptr 1 0), (5, .ptr 2 0), (6, .sl (x_24.map (AV.int .i64)) none), (9, i6 b_19), (10, .fn 65 [] [.ptr 0 0]), (11, .sl (x_24.map (AV.int .i64)) none), (12, i6 r_37)]) (tabO_ok hT_38.1) [] [] [⟨[[i6 a_2], [.fn 65 [] [.ptr 0 0]], [i6 b_19]], [(0, 0)]⟩] ?_ ?_
      ·refine drS [0, 1, 2] 3 [] [] (mkS 15 [(3, .ptr 1 0), (5, .ptr 2 0), (6, .sl (x_24.map (AV.int .i64)) none), (9, i6 b_19), (10, .fn 65 [] [.ptr 0 0]), (11, .sl (x_24.map (AV.int .i64)) none)]) (by simp) (by kernel_rfl) trivial (by kernel_rfl) ?_
       refine drB hT_38.2 0 _ [0] [.sl (x_24.map (AV.int .i64)) none, .ptr 0 0] (v_Audit_1 r_37) _ _ rfl rfl rfl rfl rfl rfl rfl rfl (by simp; try rfl) rfl (by simp) (b_Audit_1 _ _ _ _) (by simp) rfl ?_
       exact DrO.nil rfl
      ·dsimp only [List.getLastD_cons, List.getLastD_nil]
       refine rn 2 [] (mkS 15 []) ⟨[[i6 a_2], [.fn 65 [] [.ptr 0 0]], [i6 (IntKind.i64.wrap (b_19 + r_37))]], [(0, 0)]⟩ ?_
       refine ExO.nil ?_
       (try simp only [reduceCtorEq, AEx.ex.injEq, Nat.reduceEqDiff, if_true, if_false])
       exact ⟨_, _, Forgets.refl _ _ _, ⟨by first | rfl | trivial, (IntKind.i64.wrap (b_19 + r_37)), h, rfl⟩⟩
     ·rintro z a2 S (⟨rfl, b_33, h, rfl⟩)
      subst hK_36
      refine runI 1 [] [0, 5, 6, 7, 14] [] (mkS 16 [(0, .yld Lp_3.l 0), (5, .sl (a_1.map (SV (AV.int .i64))) none), (6, i6 ((a_1.length : Nat) : Int)), (7, i6 y_18), (14, .bool false)]) (⟨[[i6 a_2], [.fn 65 [] [.ptr 0 0]], [i6 b_33]], [(0, 0)]⟩) (by kernel_rfl) trivial ?_
      refine ExI.nil ?_
      refine Ex.cond (b := false) rfl ?_
      refine Ex.skip ?_
      refine rg 2 [0, 5, 6, 7] (mkS 16 [(0, .yld Lp_3.l 0), (5, .sl (a_1.map (SV (AV.int .i64))) none), (6, i6 ((a_1.length : Nat) : Int)), (7, i6 (IntKind.i64.wrap (y_18 + 1)))]) ⟨[[i6 a_2], [.fn 65 [] [.ptr 0 0]], [i6 b_33]], [(0, 0)]⟩ ?_
      dsimp only
      exact ⟨_, _, Forgets.refl _ _ _, k, Nat.lt_succ_self k, (IntKind.i64.wrap (y_18 + 1)), b_33, h, rfl, rfl⟩
    ·refine Ex.condF _ rfl hc_23 ?_
     refine Ex.exit ?_
     (try simp only [reduceCtorEq, AEx.ex.injEq, Nat.reduceEqDiff, if_true, if_false])
     exact ⟨_, _, forgetK [], b_19, h, rfl, rfl⟩
  ·rintro a S ⟨b_14, h, rfl, rfl⟩
   subst hK_17
   exact ⟨_, _, Forgets.refl _ _ _, .inl rfl, 0, rfl, ⟨by first | rfl | trivial, b_14, h, rfl⟩⟩
 ·rintro k S (⟨rfl, b_10, h, rfl⟩)
  subst hK_13
  refine Ex.seq (rg 2 [4] (mkS 15 [(4, i6 b_10)]) ⟨[[i6 a_2], [.fn 65 [] [.ptr 0 0]], [i6 b_10]], [(0, 0)]⟩ ?_)
  refine Ex.ret ?_
  obtain rfl := sJ h
  exact rt (i6 b_10)
def p_Audit (N : Nat) (l_1 : T_Ledger) (trace_2 : (List (List Int))) : Option ((List T_Flaw) × Int) := ((p_Check N l_1).bind fun r_3 => (bif (r_3 != 0) then some ([], r_3) else ((p_checkTrace N l_1 trace_2).bind fun r_5 => (bif (r_5 != 0) then some ([], r_5) else (letJ (fun (flaws_7 : List T_Flaw) => (letJ (fun (flaws_20 : List T_Flaw) => some (flaws_20, 0)) (fun k_21 => (loop2 (fun rec_26 (flaws_24 : List T_Flaw) (y_25 : Int) => (bif (decide (y_25 < ((l_1.Funds.length : Nat) : Int))) then (letJ (fun (flaws_30 : List T_Flaw) => (rec_26 flaws_30 (IntKind.i64.wrap (y_25 + 1)))) (fun k_31 => ((getI l_1.Funds y_25).bind fun x_34 => ((p_slices_Values_int_int_v1 N trace_2).bind fun r_35 => ((p_sum_int_v1_slices_Values_int_int_1_v1r_Audit_1 N r_35 y_25).bind fun r_36 => (bif (decide (r_36 > x_34.Amount)) then ((pushI flaws_24 ([(⟨3, 0, y_25⟩ : T_Flaw)] : List T_Flaw)).bind fun l_38 => (k_31 l_38)) else (k_31 flaws_24))))))) else (k_21 flaws_24))) N flaws_7 0)))) (fun k_8 => (loop2 (fun rec_13 (flaws_11 : List T_Flaw) (y_12 : Int) => (bif (decide (y_12 < ((trace_2.length : Nat) : Int))) then ((getI trace_2 y_12).bind fun x_17 => ((p_billFlaws N l_1 y_12 x_17).bind fun r_18 => ((pushI flaws_11 r_18).bind fun l_19 => (rec_13 l_19 (IntKind.i64.wrap (y_12 + 1)))))) else (k_8 flaws_11))) N [] 0)))))))
def v_Audit (r : (List T_Flaw) × Int) : AV := .tup [.sl (r.1.map A_Flaw) none, i6 r.2]
attribute [local simp] v_Audit
theorem a_Audit (l_1 : T_Ledger) (trace_2 : (List (List Int))) : [(A_Ledger l_1), .sl (trace_2.map (SV (AV.int .i64))) none].mapM (ren []) = some [(A_Ledger l_1), .sl (trace_2.map (SV (AV.int .i64))) none] := by simp
theorem b_Audit (r : (List T_Flaw) × Int) (n n2 m : Nat) : back n n2 m (v_Audit r) = some (v_Audit r) := by simp
theorem d_Audit (N : Nat) (l_1 : T_Ledger) (trace_2 : (List (List Int))) (r : (List T_Flaw) × Int) (h : p_Audit N l_1 trace_2 = some r) : Does Try.prog 27 [(A_Ledger l_1), .sl (trace_2.map (SV (AV.int .i64))) none] [] fun v c => v = v_Audit r ∧ c = [] := by
 unfold p_Audit at h
 refine Does.ofL comp27 _ _ rfl rfl ?_
 refine Ex.seq (rg 3 [1, 2] (mkS 62 [(1, .sl (trace_2.map (SV (AV.int .i64))) none), (2, .ptr 0 0)]) ⟨[(C_Ledger l_1)], []⟩ ?_)
 refine Ex.seq (Ex.seq ?_)
 obtain ⟨r_3, hr_3, h⟩ := bE h
 refine Ex.reg (rn 1 [1, 2, 14] (mkS 62 [(1, .sl (trace_2.map (SV (AV.int .i64))) none), (2, .ptr 0 0), (14, (A_Ledger l_1))]) ⟨[(C_Ledger l_1)], []⟩ ?_)
 refine ExO.callL [] [(A_Ledger l_1)] rfl rfl (a_Check l_1) rfl rfl (d_Check N l_1 r_3 hr_3) (b_Check _ _ _ _) rfl ?_
 refine rn 1 [1, 2, 6] (mkS 62 [(1, .sl (trace_2.map (SV (AV.int .i64))) none), (2, .ptr 0 0), (6, i6 r_3)]) ⟨[(C_Ledger l_1)], []⟩ ?_
 refine ExO.nil ?_
 refine Ex.seq (rg 2 [1, 2, 6, 17] (mkS 62 [(1, .sl (trace_2.map (SV (AV.int .i64))) none), (2, .ptr 0 0), (6, i6 r_3), (17, .bool (r_3 != 0))]) ⟨[(C_Ledger l_1)], []⟩ ?_)
 rcases condI h with ⟨hc_4, h⟩ | ⟨hc_4, h⟩
 ·refine Ex.condT _ rfl hc_4 ?_
  refine Ex.seq (rg 3 [4, 5] (mkS 62 [(4, .nils), (5, i6 r_3)]) ⟨[(C_Ledger l_1)], []⟩ ?_)
  refine Ex.ret ?_
  obtain rfl := sJ h
  exact rt (.tup [.nils, i6 r_3])
 ·refine Ex.condF _ rfl hc_4 ?_
  refine Ex.skip ?_
  refine Ex.seq (Ex.seq ?_)
  obtain ⟨r_5, hr_5, h⟩ := bE h
  refine Ex.reg (rn 2 [1, 2, 19, 20] (mkS 62 [(1, .sl (trace_2.map (SV (AV.int .i64))) none), (2, .ptr 0 0), (19, (A_Ledger l_1)), (20, .sl (trace_2.map (SV (AV.int .i64))) none)]) ⟨[(C_Ledger l_1)], []⟩ ?_)
  refine ExO.callL [] [(A_Ledger l_1), .sl (trace_2.map (SV (AV.int .i64))) none] rfl rfl (a_checkTrace l_1 trace_2) rfl rfl (d_checkTrace N l_1 trace_2 r_5 hr_5) (b_checkTrace _ _ _ _) rfl ?_
  refine rn 1 [1, 2, 7] (mkS 62 [(1, .sl (trace_2.map (SV (AV.int .i64))) none), (2, .ptr 0 0), (7, i6 r_5)]) ⟨[(C_Ledger l_1)], []⟩ ?_
  refine ExO.nil ?_
  refine Ex.seq (rg 2 [1, 2, 7, 23] (mkS 62 [(1, .sl (trace_2.map (SV (AV.int .i64))) none), (2, .ptr 0 0), (7, i6 r_5), (23, .bool (r_5 != 0))]) ⟨[(C_Ledger l_1)], []⟩ ?_)
  rcases condI h with ⟨hc_6, h⟩ | ⟨hc_6, h⟩
  ·refine Ex.condT _ rfl hc_6 ?_
   refine Ex.seq (rg 3 [4, 5] (mkS 62 [(4, .nils), (5, i6 r_5)]) ⟨[(C_Ledger l_1)], []⟩ ?_)
   refine Ex.ret ?_
   obtain rfl := sJ h
   exact rt (.tup [.nils, i6 r_5])
  ·refine Ex.condF _ rfl hc_6 ?_
   refine Ex.skip ?_
   refine Ex.seq (rg 1 [1, 2, 8] (mkS 62 [(1, .sl (trace_2.map (SV (AV.int .i64))) none), (2, .ptr 0 0), (8, .nils)]) ⟨[(C_Ledger l_1)], []⟩ ?_)
   refine Ex.seq (Ex.seq ?_)
   refine regH 3 [(1, .eq (i6 ((trace_2.length : Nat) : Int)))] [1, 2, 8, 25, 26, 27] [AV.int .i64 (((trace_2.map (SV (AV.int .i64))).length : Nat) : Int) = AV.int .i64 ((trace_2.length : Nat) : Int)] (mkS 62 [(1, .sl (trace_2.map (SV (AV.int .i64))) none), (2, .ptr 0 0), (8, .nils), (25, .sl (trace_2.map (SV (AV.int .i64))) none), (26, i6 ((trace_2.length : Nat) : Int)), (27, i6 0)]) (⟨[(C_Ledger l_1)], []⟩) (by kernel_rfl) ⟨lenM _ _, trivial⟩ rfl ?_
   obtain ⟨K_9, hK_10, h⟩ := letE h
   refine Ex.blockJ (fun a S => ∃ (flaws_7 : List T_Flaw), K_9 flaws_7 = some r ∧ a = mkS 62 [(1, .sl (trace_2.map (SV (AV.int .i64))) none), (2, .ptr 0 0), (8, .sl (flaws_7.map A_Flaw) (some 0))] ∧ S = ⟨[(C_Ledger l_1)], [(flaws_7.length, 3)]⟩) ?_ ?_
   ·refine Ex.forget (nilK 8 3 rfl) ?_
    refine Ex.castA (a2 := mkS 62 [(1, .sl (trace_2.map (SV (AV.int .i64))) none), (2, .ptr 0 0), (8, .sl (([] : List T_Flaw).map A_Flaw) (some 0)), (25, .sl (trace_2.map (SV (AV.int .i64))) none), (26, i6 ((trace_2.length : Nat) : Int)), (27, i6 0)]) (S2 := ⟨[(C_Ledger l_1)], [(0, 3)]⟩) (by kernel_rfl) (by kernel_rfl) ?_
    obtain ⟨B_14, hB_15, h⟩ := loop2I h
    refine Ex.loopF (fun k a S => ∃ (flaws_11 : List T_Flaw), ∃ (y_12 : Int), loop2 B_14 k flaws_11 y_12 = some r ∧ a = mkS 62 [(1, .sl (trace_2.map (SV (AV.int .i64))) none), (2, .ptr 0 0), (8, .sl (flaws_11.map A_Flaw) (some 0)), (25, .sl (trace_2.map (SV (AV.int .i64))) none), (26, i6 ((trace_2.length : Nat) : Int)), (27, i6 y_12)] ∧ S = ⟨[(C_Ledger l_1)], [(flaws_11.length, 3)]⟩) N ⟨_, _, Forgets.refl _ _ _, [], 0, h, rfl, rfl⟩ ?_
    rintro k a S ⟨flaws_11, y_12, h, rfl, rfl⟩
    cases k with
    | zero => exact (loop2Z h).elim
    | succ k =>
     replace h := loop2S h hB_15
     refine Ex.seq (rg 1 [1, 2, 8, 25, 26, 27, 28] (mkS 62 [(1, .sl (trace_2.map (SV (AV.int .i64))) none), (2, .ptr 0 0), (8, .sl (flaws_11.map A_Flaw) (some 0)), (25, .sl (trace_2.map (SV (AV.int .i64))) none), (26, i6 ((trace_2.length : Nat) : Int)), (27, i6 y_12), (28, .bool (decide (y_12 < ((trace_2.length : Nat) : Int))))]) ⟨[(C_Ledger l_1)], [(flaws_11.length, 3)]⟩ ?_)
     refine Ex.seq ?_
     rcases condI h with ⟨hc_16, h⟩ | ⟨hc_16, h⟩
     ·refine Ex.condT _ rfl hc_16 ?_
      refine Ex.skip ?_
      refine Ex.seq ?_
      refine Ex.blockK ?_
      refine Ex.seq ?_
      obtain ⟨x_17, hx_17, h⟩ := bE h
      refine regH 5 [(1, .rop [.sl (x_17.map (AV.int .i64)) none])] [1, 2, 8, 9, 10, 25, 26, 27] [LGet (trace_2.map (SV (AV.int .i64))) y_12 1 [.sl (x_17.map (AV.int .i64)) none]] (mkS 62 [(1, .sl (trace_2.map (SV (AV.int .i64))) none), (2, .ptr 0 0), (8, .sl (flaws_11.map A_Flaw) (some 0)), (9, i6 y_12), (10, .sl (x_17.map (AV.int .i64)) none), (25, .sl (trace_2.map (SV (AV.int .i64))) none), (26, i6 ((trace_2.length : Nat) : Int)), (27, i6 y_12)]) (⟨[(C_Ledger l_1)], [(flaws_11.length, 3)]⟩) (by kernel_rfl) ⟨LGet.of hx_17 rfl, trivial⟩ rfl ?_
      obtain ⟨r_18, hr_18, h⟩ := bE h
      refine Ex.reg (rn 4 [1, 2, 25, 26, 27, 32, 33, 34, 35] (mkS 62 [(1, .sl (trace_2.map (SV (AV.int .i64))) none), (2, .ptr 0 0), (25, .sl (trace_2.map (SV (AV.int .i64))) none), (26, i6 ((trace_2.length : Nat) : Int)), (27, i6 y_12), (32, .sl (flaws_11.map A_Flaw) (some 0)), (33, (A_Ledger l_1)), (34, i6 y_12), (35, .sl (x_17.map (AV.int .i64)) none)]) ⟨[(C_Ledger l_1)], [(flaws_11.length, 3)]⟩ ?_)
      refine ExO.callL [] [(A_Ledger l_1), i6 y_12, .sl (x_17.map (AV.int .i64)) none] rfl rfl (a_billFlaws l_1 y_12 x_17) rfl rfl (d_billFlaws N l_1 y_12 x_17 r_18 hr_18) (b_billFlaws _ _ _ _) rfl ?_
      obtain ⟨l_19, hl_19, h⟩ := bE h
      refine runH 2 [(0, .apps (r_18.map A_Flaw) (l_19.map A_Flaw) l_19.length)] [1, 2, 8, 25, 26, 27] [LApps flaws_11.length (flaws_11.map A_Flaw) (r_18.map A_Flaw) (r_18.map A_Flaw) 3 (l_19.map A_Flaw) l_19.length] (mkS 62 [(1, .sl (trace_2.map (SV (AV.int .i64))) none), (2, .ptr 0 0), (8, .sl (l_19.map A_Flaw) (some 0)), (25, .sl (trace_2.map (SV (AV.int .i64))) none), (26, i6 ((trace_2.length : Nat) : Int)), (27, i6 y_12)]) (⟨[(C_Ledger l_1)], [(l_19.length, 3)]⟩) (by kernel_rfl) ⟨LApps.of hl_19 (fun _ => rfl) (fun _ => rfl) (fun _ => rfl), trivial⟩ ?_
      refine ExO.nil ?_
      refine rg 2 [1, 2, 8, 25, 26, 27] (mkS 62 [(1, .sl (trace_2.map (SV (AV.int .i64))) none), (2, .ptr 0 0), (8, .sl (l_19.map A_Flaw) (some 0)), (25, .sl (trace_2.map (SV (AV.int .i64))) none), (26, i6 ((trace_2.length : Nat) : Int)), (27, i6 (IntKind.i64.wrap (y_12 + 1)))]) ⟨[(C_Ledger l_1)], [(l_19.length, 3)]⟩ ?_
      dsimp only
      exact ⟨_, _, Forgets.refl _ _ _, k, Nat.lt_succ_self k, l_19, (IntKind.i64.wrap (y_12 + 1)), h, rfl, rfl⟩
     ·refine Ex.condF _ rfl hc_16 ?_
      refine Ex.exit ?_
      (try simp only [reduceCtorEq, AEx.ex.injEq, Nat.reduceEqDiff, if_true, if_false])
      exact ⟨_, _, forgetK [1, 2, 8], flaws_11, h, rfl, rfl⟩
   ·rintro a S ⟨flaws_7, h, rfl, rfl⟩
    subst hK_10
    refine Ex.seq (Ex.seq ?_)
    refine regH 4 [(2, .eq (i6 ((l_1.Funds.length : Nat) : Int)))] [1, 8, 40, 41, 42] [AV.int .i64 (((l_1.Funds.map A_Fund).length : Nat) : Int) = AV.int .i64 ((l_1.Funds.length : Nat) : Int)] (mkS 62 [(1, .sl (trace_2.map (SV (AV.int .i64))) none), (8, .sl (flaws_7.map A_Flaw) (some 0)), (40, .sl (l_1.Funds.map A_Fund) none), (41, i6 ((l_1.Funds.length : Nat) : Int)), (42, i6 0)]) (⟨[(C_Ledger l_1)], [(flaws_7.length, 3)]⟩) (by kernel_rfl) ⟨lenM _ _, trivial⟩ rfl ?_
    obtain ⟨K_22, hK_23, h⟩ := letE h
    refine Ex.blockJ (fun a S => ∃ (flaws_20 : List T_Flaw), K_22 flaws_20 = some r ∧ a = mkS 62 [(8, .sl (flaws_20.map A_Flaw) (some 0))] ∧ S = ⟨[], [(flaws_20.length, 3)]⟩) ?_ ?_
    ·obtain ⟨B_27, hB_28, h⟩ := loop2I h
     refine Ex.loopF (fun k a S => ∃ (flaws_24 : List T_Flaw), ∃ (y_25 : Int), loop2 B_27 k flaws_24 y_25 = some r ∧ a = mkS 62 [(1, .sl (trace_2.map (SV (AV.int .i64))) none), (8, .sl (flaws_24.map A_Flaw) (some 0)), (40, .sl (l_1.Funds.map A_Fund) none), (41, i6 ((l_1.Funds.length : Nat) : Int)), (42, i6 y_25)] ∧ S = ⟨[], [(flaws_24.length, 3)]⟩) N ⟨_, _, forgetA (m := 62) 0 [0] [(1, .sl (trace_2.map (SV (AV.int .i64))) none), (8, .sl (flaws_7.map A_Flaw) (some 0)), (40, .sl (l_1.Funds.map A_Fund) none), (41, i6 ((l_1.Funds.length : Nat) : Int)), (42, i6 0)] [] [(flaws_7.length, 3)] (by simp [setAll]) (by simp) ⟨(reN (cleanII _ _)), (reT (KL_Flaw _) rfl), (reN (KL_Fund _)), rfl, rfl, trivial⟩ (by simp) rfl (by decide), flaws_7, 0, h, rfl, rfl⟩ ?_
     rintro k a S ⟨flaws_24, y_25, h, rfl, rfl⟩
     cases k with
     | zero => exact (loop2Z h).elim
     | succ k =>
      replace h := loop2S h hB_28
      refine Ex.seq (rg 1 [1, 8, 40, 41, 42, 43] (mkS 62 [(1, .sl (trace_2.map (SV (AV.int .i64))) none), (8, .sl (flaws_24.map A_Flaw) (some 0)), (40, .sl (l_1.Funds.map A_Fund) none), (41, i6 ((l_1.Funds.length : Nat) : Int)), (42, i6 y_25), (43, .bool (decide (y_25 < ((l_1.Funds.length : Nat) : Int))))]) ⟨[], [(flaws_24.length, 3)]⟩ ?_)
      refine Ex.seq ?_
      rcases condI h with ⟨hc_29, h⟩ | ⟨hc_29, h⟩
      ·refine Ex.condT _ rfl hc_29 ?_
       refine Ex.skip ?_
       refine Ex.seq ?_
       obtain ⟨K_32, hK_33, h⟩ := letE h
       refine Ex.blockJ (fun a S => ∃ (flaws_30 : List T_Flaw), K_32 flaws_30 = some r ∧ a = mkS 62 [(1, .sl (trace_2.map (SV (AV.int .i64))) none), (8, .sl (flaws_30.map A_Flaw) (some 0)), (40, .sl (l_1.Funds.map A_Fund) none), (41, i6 ((l_1.Funds.length : Nat) : Int)), (42, i6 y_25)] ∧ S = ⟨[], [(flaws_30.length, 3)]⟩) ?_ ?_
       ·refine Ex.seq ?_
        obtain ⟨x_34, hx_34, h⟩ := bE h
        refine regH 7 [(1, .rop (C_Fund x_34))] [1, 8, 11, 12, 40, 41, 42] [LGet (l_1.Funds.map A_Fund) y_25 4 (C_Fund x_34)] (mkS 62 [(1, .sl (trace_2.map (SV (AV.int .i64))) none), (8, .sl (flaws_24.map A_Flaw) (some 0)), (11, .ptr 0 0), (12, .ptr 1 0), (40, .sl (l_1.Funds.map A_Fund) none), (41, i6 ((l_1.Funds.length : Nat) : Int)), (42, i6 y_25)]) (⟨[[i6 y_25], (C_Fund x_34)], [(flaws_24.length, 3)]⟩) (by kernel_rfl) ⟨LGet.of hx_34 rfl, trivial⟩ rfl ?_
        refine Ex.seq ?_
        obtain ⟨r_35, hr_35, h⟩ := bE h
        refine Ex.reg (rn 1 [1, 8, 11, 12, 40, 41, 42, 47] (mkS 62 [(1, .sl (trace_2.map (SV (AV.int .i64))) none), (8, .sl (flaws_24.map A_Flaw) (some 0)), (11, .ptr 0 0), (12, .ptr 1 0), (40, .sl (l_1.Funds.map A_Fund) none), (41, i6 ((l_1.Funds.length : Nat) : Int)), (42, i6 y_25), (47, .sl (trace_2.map (SV (AV.int .i64))) none)]) ⟨[[i6 y_25], (C_Fund x_34)], [(flaws_24.length, 3)]⟩ ?_)
        refine ExO.callL [] [.sl (trace_2.map (SV (AV.int .i64))) none] rfl rfl (a_slices_Values_int_int_v1 trace_2) rfl rfl (d_slices_Values_int_int_v1 N trace_2 r_35 hr_35) (b_slices_Values_int_int_v1 _ _ _ _) rfl ?_
        obtain ⟨r_36, hr_36, h⟩ := bE h
        refine rn 1 [1, 8, 11, 12, 40, 41, 42, 48, 49] (mkS 62 [(1, .sl (trace_2.map (SV (AV.int .i64))) none), (8, .sl (flaws_24.map A_Flaw) (some 0)), (11, .ptr 0 0), (12, .ptr 1 0), (40, .sl (l_1.Funds.map A_Fund) none), (41, i6 ((l_1.Funds.length : Nat) : Int)), (42, i6 y_25), (48, .fn 86 [] [.rop [.sl (r_35.map (SV (AV.int .i64))) none]]), (49, .fn 65 [] [.ptr 0 0])]) ⟨[[i6 y_25], (C_Fund x_34)], [(flaws_24.length, 3)]⟩ ?_
        refine ExO.callL [0] [.fn 86 [] [.rop [.sl (r_35.map (SV (AV.int .i64))) none]], .fn 65 [] [.ptr 0 0]] rfl rfl (by simp; try rfl) rfl (by simp) (d_sum_int_v1_slices_Values_int_int_1_v1r_Audit_1 N r_35 y_25 r_36 hr_36) (b_sum_int_v1_slices_Values_int_int_1_v1r_Audit_1 _ _ _ _) (by simp) ?_
        refine rn 1 [1, 8, 11, 12, 13, 40, 41, 42] (mkS 62 [(1, .sl (trace_2.map (SV (AV.int .i64))) none), (8, .sl (flaws_24.map A_Flaw) (some 0)), (11, .ptr 0 0), (12, .ptr 1 0), (13, i6 r_36), (40, .sl (l_1.Funds.map A_Fund) none), (41, i6 ((l_1.Funds.length : Nat) : Int)), (42, i6 y_25)]) ⟨[[i6 y_25], (C_Fund x_34)], [(flaws_24.length, 3)]⟩ ?_
        refine ExO.nil ?_
        refine Ex.seq (rg 4 [1, 8, 11, 40, 41, 42, 54] (mkS 62 [(1, .sl (trace_2.map (SV (AV.int .i64))) none), (8, .sl (flaws_24.map A_Flaw) (some 0)), (11, .ptr 0 0), (40, .sl (l_1.Funds.map A_Fund) none), (41, i6 ((l_1.Funds.length : Nat) : Int)), (42, i6 y_25), (54, .bool (decide (r_36 > x_34.Amount)))]) ⟨[[i6 y_25], (C_Fund x_34)], [(flaws_24.length, 3)]⟩ ?_)
        rcases condI h with ⟨hc_37, h⟩ | ⟨hc_37, h⟩
        ·refine Ex.condT _ rfl hc_37 ?_
         obtain ⟨l_38, hl_38, h⟩ := bE h
         refine regH 6 [(4, .app (l_38.map A_Flaw) l_38.length)] [1, 8, 40, 41, 42] [LApp flaws_24.length (flaws_24.map A_Flaw) (([(⟨3, 0, y_25⟩ : T_Flaw)] : List T_Flaw).map A_Flaw) 3 (l_38.map A_Flaw) l_38.length] (mkS 62 [(1, .sl (trace_2.map (SV (AV.int .i64))) none), (8, .sl (l_38.map A_Flaw) (some 0)), (40, .sl (l_1.Funds.map A_Fund) none), (41, i6 ((l_1.Funds.length : Nat) : Int)), (42, i6 y_25)]) (⟨[[i6 y_25], (C_Fund x_34)], [(l_38.length, 3), (1, 3)]⟩) (by kernel_rfl) ⟨LApp.of hl_38 (fun _ => rfl), trivial⟩ rfl ?_
         (try simp only [reduceCtorEq, AEx.ex.injEq, Nat.reduceEqDiff, if_true, if_false])
         exact ⟨_, _, forgetA (m := 62) 0 [0] [(1, .sl (trace_2.map (SV (AV.int .i64))) none), (8, .sl (l_38.map A_Flaw) (some 0)), (40, .sl (l_1.Funds.map A_Fund) none), (41, i6 ((l_1.Funds.length : Nat) : Int)), (42, i6 y_25)] [] [(l_38.length, 3)] (by simp [setAll]) (by simp) ⟨(reN (cleanII _ _)), (reT (KL_Flaw _) rfl), (reN (KL_Fund _)), rfl, rfl, trivial⟩ (by simp) rfl (by decide), l_38, h, rfl, rfl⟩
        ·refine Ex.condF _ rfl hc_37 ?_
         refine Ex.skip ?_
         (try simp only [reduceCtorEq, AEx.ex.injEq, Nat.reduceEqDiff, if_true, if_false])
         exact ⟨_, _, forgetA (m := 62) 0 [0] [(1, .sl (trace_2.map (SV (AV.int .i64))) none), (8, .sl (flaws_24.map A_Flaw) (some 0)), (40, .sl (l_1.Funds.map A_Fund) none), (41, i6 ((l_1.Funds.length : Nat) : Int)), (42, i6 y_25)] [] [(flaws_24.length, 3)] (by simp [setAll]) (by simp) ⟨(reN (cleanII _ _)), (reT (KL_Flaw _) rfl), (reN (KL_Fund _)), rfl, rfl, trivial⟩ (by simp) rfl (by decide), flaws_24, h, rfl, rfl⟩
       ·rintro a S ⟨flaws_30, h, rfl, rfl⟩
        subst hK_33
        refine rg 2 [1, 8, 40, 41, 42] (mkS 62 [(1, .sl (trace_2.map (SV (AV.int .i64))) none), (8, .sl (flaws_30.map A_Flaw) (some 0)), (40, .sl (l_1.Funds.map A_Fund) none), (41, i6 ((l_1.Funds.length : Nat) : Int)), (42, i6 (IntKind.i64.wrap (y_25 + 1)))]) ⟨[], [(flaws_30.length, 3)]⟩ ?_
        dsimp only
        exact ⟨_, _, Forgets.refl _ _ _, k, Nat.lt_succ_self k, flaws_30, (IntKind.i64.wrap (y_25 + 1)), h, rfl, rfl⟩
      ·refine Ex.condF _ rfl hc_29 ?_
       refine Ex.exit ?_
       (try simp only [reduceCtorEq, AEx.ex.injEq, Nat.reduceEqDiff, if_true, if_false])
       exact ⟨_, _, forgetK [8], flaws_24, h, rfl, rfl⟩
    ·rintro a S ⟨flaws_20, h, rfl, rfl⟩
     subst hK_23
     refine Ex.seq (rg 3 [4, 5] (mkS 62 [(4, .sl (flaws_20.map A_Flaw) (some 0)), (5, i6 0)]) ⟨[], [(flaws_20.length, 3)]⟩ ?_)
     refine Ex.ret ?_
     obtain rfl := sJ h
     exact rt (.tup [.sl (flaws_20.map A_Flaw) (some 0), i6 0])
def p_bl9_CoinTraced (N : Nat) (nums_1 : (List Int)) : Option (Bool) := ((p_bk_DrumOf N nums_1).bind fun r_2 => ((p_bk_LedgerOf N r_2 3 3 4).bind fun r_3 => ((p_Trace N r_3.1).bind fun r_4 => ((p_bl9_all N r_3.1).bind fun r_5 => (bif (r_4.2 != 0) then (bif (r_4.2 == 4) then (bif (((r_5.length : Nat) : Int) == 0) then ((p_bl9_awake N).bind fun r_9 => some r_9) else some false) else some false) else ((p_Audit N r_3.1 r_4.1).bind fun r_10 => (bif (r_10.2 == 0) then (bif (((r_10.1.length : Nat) : Int) == 0) then (bif (decide (((r_5.length : Nat) : Int) > 0)) then ((getI r_5 (IntKind.i64.wrap (((r_5.length : Nat) : Int) - 1))).bind fun x_14 => ((p_bk_EqLists N r_4.1 x_14).bind fun r_15 => (bif r_15 then ((p_bl9_awake N).bind fun r_17 => some r_17) else some false))) else some false) else some false) else some false)))))))
def v_bl9_CoinTraced (r : Bool) : AV := .bool r
attribute [local simp] v_bl9_CoinTraced
theorem d_bl9_CoinTraced (N : Nat) (nums_1 : (List Int)) (r : Bool) (h : p_bl9_CoinTraced N nums_1 = some r) : Does Try.prog 4 [.sl (nums_1.map (AV.int .i64)) none] [] fun v c => v = v_bl9_CoinTraced r ∧ c = [] := by
 unfold p_bl9_CoinTraced at h
 refine Does.ofL comp4 _ _ rfl rfl ?_
 refine Ex.seq (rg 1 [0] (mkS 62 [(0, .sl (nums_1.map (AV.int .i64)) none)]) ⟨[], []⟩ ?_)
 refine Ex.seq ?_
 obtain ⟨r_2, hr_2, h⟩ := bE h
 refine Ex.reg (rn 1 [9] (mkS 62 [(9, .sl (nums_1.map (AV.int .i64)) none)]) ⟨[], []⟩ ?_)
 refine ExO.callL (v' := .ptr 0 0) [] [.sl (nums_1.map (AV.int .i64)) none] rfl rfl (a_bk_DrumOf nums_1) rfl rfl (d_bk_DrumOf N nums_1 r_2 hr_2) rfl (by simp) ?_
 obtain ⟨r_3, hr_3, h⟩ := bE h
 refine ExO.callL [0] [.ptr 0 0, i6 3, i6 3, i6 4] rfl rfl (by simp; try rfl) rfl (by simp) (d_bk_LedgerOf N r_2 3 3 4 r_3 hr_3) (b_bk_LedgerOf _ _ _ _) (by simp) ?_
 refine rn 2 [3] (mkS 62 [(3, .ptr 1 0)]) ⟨[(C_bk_Drum r_3.2), (C_Ledger r_3.1)], []⟩ ?_
 refine ExO.nil ?_
 refine Ex.seq ?_
 obtain ⟨r_4, hr_4, h⟩ := bE h
 refine Ex.reg (rn 1 [3, 13] (mkS 62 [(3, .ptr 1 0), (13, (A_Ledger r_3.1))]) ⟨[(C_bk_Drum r_3.2), (C_Ledger r_3.1)], []⟩ ?_)
 refine ExO.callL [] [(A_Ledger r_3.1)] rfl rfl (a_Trace r_3.1) rfl rfl (d_Trace N r_3.1 r_4 hr_4) (b_Trace _ _ _ _) rfl ?_
 refine rn 5 [3, 4, 5] (mkS 62 [(3, .ptr 1 0), (4, .sl (r_4.1.map (SV (AV.int .i64))) none), (5, i6 r_4.2)]) ⟨[(C_bk_Drum r_3.2), (C_Ledger r_3.1)], []⟩ ?_
 refine ExO.nil ?_
 refine Ex.seq ?_
 obtain ⟨r_5, hr_5, h⟩ := bE h
 refine Ex.reg (rn 1 [3, 4, 5, 17] (mkS 62 [(3, .ptr 1 0), (4, .sl (r_4.1.map (SV (AV.int .i64))) none), (5, i6 r_4.2), (17, (A_Ledger r_3.1))]) ⟨[(C_bk_Drum r_3.2), (C_Ledger r_3.1)], []⟩ ?_)
 refine ExO.callL [] [(A_Ledger r_3.1)] rfl rfl (a_bl9_all r_3.1) rfl rfl (d_bl9_all N r_3.1 r_5 hr_5) (b_bl9_all _ _ _ _) rfl ?_
 refine rn 1 [3, 4, 5, 6] (mkS 62 [(3, .ptr 1 0), (4, .sl (r_4.1.map (SV (AV.int .i64))) none), (5, i6 r_4.2), (6, .sl (r_5.map (SV (SV (AV.int .i64)))) none)]) ⟨[(C_bk_Drum r_3.2), (C_Ledger r_3.1)], []⟩ ?_
 refine ExO.nil ?_
 refine Ex.seq (Ex.seq ?_)
 refine rg 2 [3, 4, 5, 6, 20] (mkS 62 [(3, .ptr 1 0), (4, .sl (r_4.1.map (SV (AV.int .i64))) none), (5, i6 r_4.2), (6, .sl (r_5.map (SV (SV (AV.int .i64)))) none), (20, .bool (r_4.2 != 0))]) ⟨[(C_bk_Drum r_3.2), (C_Ledger r_3.1)], []⟩ ?_
 rcases condI h with ⟨hc_6, h⟩ | ⟨hc_6, h⟩
 ·refine Ex.condT _ rfl hc_6 ?_
  refine Ex.seq ?_
  rcases condI h with ⟨hc_7, h⟩ | ⟨hc_7, h⟩
  ·rcases condI h with ⟨hc_8, h⟩ | ⟨hc_8, h⟩
   ·obtain ⟨r_9, hr_9, h⟩ := bE h
    refine Ex.reg ?_
    refine runH 8 [(2, .eq (.bool true)), (4, .eq (i6 ((r_5.length : Nat) : Int))), (7, .eq (.bool true))] [28] [AV.bool (r_4.2 == 4) = AV.bool true, AV.int .i64 (((r_5.map (SV (SV (AV.int .i64)))).length : Nat) : Int) = AV.int .i64 ((r_5.length : Nat) : Int), AV.bool (((r_5.length : Nat) : Int) == 0) = AV.bool true] (mkS 62 [(28, .bool true)]) (⟨[(C_bk_Drum r_3.2), (C_Ledger r_3.1)], []⟩) (by kernel_rfl) ⟨congrArg AV.bool hc_7, lenM _ _, congrArg AV.bool hc_8, trivial⟩ ?_
    refine ExO.callL [] [] rfl rfl (a_bl9_awake) rfl rfl (d_bl9_awake N r_9 hr_9) (b_bl9_awake _ _ _ _) rfl ?_
    refine rn 2 [2] (mkS 62 [(2, .bool r_9)]) ⟨[(C_bk_Drum r_3.2), (C_Ledger r_3.1)], []⟩ ?_
    refine ExO.nil ?_
    refine Ex.ret ?_
    obtain rfl := sJ h
    exact rt (.bool r_9)
   ·refine regH 11 [(2, .eq (.bool true)), (4, .eq (i6 ((r_5.length : Nat) : Int))), (7, .eq (.bool false))] [2] [AV.bool (r_4.2 == 4) = AV.bool true, AV.int .i64 (((r_5.map (SV (SV (AV.int .i64)))).length : Nat) : Int) = AV.int .i64 ((r_5.length : Nat) : Int), AV.bool (((r_5.length : Nat) : Int) == 0) = AV.bool false] (mkS 62 [(2, .bool false)]) (⟨[(C_bk_Drum r_3.2), (C_Ledger r_3.1)], []⟩) (by kernel_rfl) ⟨congrArg AV.bool hc_7, lenM _ _, congrArg AV.bool hc_8, trivial⟩ rfl ?_
    refine Ex.ret ?_
    obtain rfl := sJ h
    exact rt (.bool false)
  ·refine regH 11 [(2, .eq (.bool false))] [2] [AV.bool (r_4.2 == 4) = AV.bool false] (mkS 62 [(2, .bool false)]) (⟨[(C_bk_Drum r_3.2), (C_Ledger r_3.1)], []⟩) (by kernel_rfl) ⟨congrArg AV.bool hc_7, trivial⟩ rfl ?_
   refine Ex.ret ?_
   obtain rfl := sJ h
   exact rt (.bool false)
 ·refine Ex.condF _ rfl hc_6 ?_
  refine Ex.skip ?_
  refine Ex.seq ?_
  obtain ⟨r_10, hr_10, h⟩ := bE h
  refine Ex.reg (rn 2 [4, 6, 32, 33] (mkS 62 [(4, .sl (r_4.1.map (SV (AV.int .i64))) none), (6, .sl (r_5.map (SV (SV (AV.int .i64)))) none), (32, (A_Ledger r_3.1)), (33, .sl (r_4.1.map (SV (AV.int .i64))) none)]) ⟨[(C_bk_Drum r_3.2), (C_Ledger r_3.1)], []⟩ ?_)
  refine ExO.callL [] [(A_Ledger r_3.1), .sl (r_4.1.map (SV (AV.int .i64))) none] rfl rfl (a_Audit r_3.1 r_4.1) rfl rfl (d_Audit N r_3.1 r_4.1 r_10 hr_10) (b_Audit _ _ _ _) rfl ?_
  refine rn 5 [4, 6, 7, 8] (mkS 62 [(4, .sl (r_4.1.map (SV (AV.int .i64))) none), (6, .sl (r_5.map (SV (SV (AV.int .i64)))) none), (7, .sl (r_10.1.map A_Flaw) none), (8, i6 r_10.2)]) ⟨[(C_bk_Drum r_3.2), (C_Ledger r_3.1)], []⟩ ?_
  refine ExO.nil ?_
  refine Ex.seq ?_
  rcases condI h with ⟨hc_11, h⟩ | ⟨hc_11, h⟩
  ·rcases condI h with ⟨hc_12, h⟩ | ⟨hc_12, h⟩
   ·rcases condI h with ⟨hc_13, h⟩ | ⟨hc_13, h⟩
    ·obtain ⟨x_14, hx_14, h⟩ := bE h
     obtain ⟨r_15, hr_15, h⟩ := bE h
     refine Ex.reg ?_
     refine runH 20 [(2, .eq (.bool true)), (4, .eq (i6 ((r_10.1.length : Nat) : Int))), (7, .eq (.bool true)), (9, .eq (i6 ((r_5.length : Nat) : Int))), (12, .eq (.bool true)), (16, .eq (i6 ((r_5.length : Nat) : Int))), (18, .rop [.sl (x_14.map (SV (AV.int .i64))) none])] [49, 50, 56] [AV.bool (r_10.2 == 0) = AV.bool true, AV.int .i64 (((r_10.1.map A_Flaw).length : Nat) : Int) = AV.int .i64 ((r_10.1.length : Nat) : Int), AV.bool (((r_10.1.length : Nat) : Int) == 0) = AV.bool true, AV.int .i64 (((r_5.map (SV (SV (AV.int .i64)))).length : Nat) : Int) = AV.int .i64 ((r_5.length : Nat) : Int), AV.bool (decide (((r_5.length : Nat) : Int) > 0)) = AV.bool true, AV.int .i64 (((r_5.map (SV (SV (AV.int .i64)))).length : Nat) : Int) = AV.int .i64 ((r_5.length : Nat) : Int), LGet (r_5.map (SV (SV (AV.int .i64)))) (IntKind.i64.wrap (((r_5.length : Nat) : Int) - 1)) 1 [.sl (x_14.map (SV (AV.int .i64))) none]] (mkS 62 [(49, .bool true), (50, .sl (r_4.1.map (SV (AV.int .i64))) none), (56, .sl (x_14.map (SV (AV.int .i64))) none)]) (⟨[(C_bk_Drum r_3.2), (C_Ledger r_3.1)], []⟩) (by kernel_rfl) ⟨congrArg AV.bool hc_11, lenM _ _, congrArg AV.bool hc_12, lenM _ _, congrArg AV.bool hc_13, lenM _ _, LGet.of hx_14 rfl, trivial⟩ ?_
     refine ExO.callL [] [.sl (r_4.1.map (SV (AV.int .i64))) none, .sl (x_14.map (SV (AV.int .i64))) none] rfl rfl (a_bk_EqLists r_4.1 x_14) rfl rfl (d_bk_EqLists N r_4.1 x_14 r_15 hr_15) (b_bk_EqLists _ _ _ _) rfl ?_
     rcases condI h with ⟨hc_16, h⟩ | ⟨hc_16, h⟩
     ·obtain ⟨r_17, hr_17, h⟩ := bE h
      refine runH 2 [(1, .eq (.bool true))] [59] [AV.bool r_15 = AV.bool true] (mkS 62 [(59, .bool true)]) (⟨[(C_bk_Drum r_3.2), (C_Ledger r_3.1)], []⟩) (by kernel_rfl) ⟨congrArg AV.bool hc_16, trivial⟩ ?_
      refine ExO.callL [] [] rfl rfl (a_bl9_awake) rfl rfl (d_bl9_awake N r_17 hr_17) (b_bl9_awake _ _ _ _) rfl ?_
      refine rn 2 [2] (mkS 62 [(2, .bool r_17)]) ⟨[(C_bk_Drum r_3.2), (C_Ledger r_3.1)], []⟩ ?_
      refine ExO.nil ?_
      refine Ex.ret ?_
      obtain rfl := sJ h
      exact rt (.bool r_17)
     ·refine runH 5 [(1, .eq (.bool false))] [2] [AV.bool r_15 = AV.bool false] (mkS 62 [(2, .bool false)]) (⟨[(C_bk_Drum r_3.2), (C_Ledger r_3.1)], []⟩) (by kernel_rfl) ⟨congrArg AV.bool hc_16, trivial⟩ ?_
      refine ExO.nil ?_
      refine Ex.ret ?_
      obtain rfl := sJ h
      exact rt (.bool false)
    ·refine regH 26 [(2, .eq (.bool true)), (4, .eq (i6 ((r_10.1.length : Nat) : Int))), (7, .eq (.bool true)), (9, .eq (i6 ((r_5.length : Nat) : Int))), (12, .eq (.bool false))] [2] [AV.bool (r_10.2 == 0) = AV.bool true, AV.int .i64 (((r_10.1.map A_Flaw).length : Nat) : Int) = AV.int .i64 ((r_10.1.length : Nat) : Int), AV.bool (((r_10.1.length : Nat) : Int) == 0) = AV.bool true, AV.int .i64 (((r_5.map (SV (SV (AV.int .i64)))).length : Nat) : Int) = AV.int .i64 ((r_5.length : Nat) : Int), AV.bool (decide (((r_5.length : Nat) : Int) > 0)) = AV.bool false] (mkS 62 [(2, .bool false)]) (⟨[(C_bk_Drum r_3.2), (C_Ledger r_3.1)], []⟩) (by kernel_rfl) ⟨congrArg AV.bool hc_11, lenM _ _, congrArg AV.bool hc_12, lenM _ _, congrArg AV.bool hc_13, trivial⟩ rfl ?_
     refine Ex.ret ?_
     obtain rfl := sJ h
     exact rt (.bool false)
   ·refine regH 26 [(2, .eq (.bool true)), (4, .eq (i6 ((r_10.1.length : Nat) : Int))), (7, .eq (.bool false))] [2] [AV.bool (r_10.2 == 0) = AV.bool true, AV.int .i64 (((r_10.1.map A_Flaw).length : Nat) : Int) = AV.int .i64 ((r_10.1.length : Nat) : Int), AV.bool (((r_10.1.length : Nat) : Int) == 0) = AV.bool false] (mkS 62 [(2, .bool false)]) (⟨[(C_bk_Drum r_3.2), (C_Ledger r_3.1)], []⟩) (by kernel_rfl) ⟨congrArg AV.bool hc_11, lenM _ _, congrArg AV.bool hc_12, trivial⟩ rfl ?_
    refine Ex.ret ?_
    obtain rfl := sJ h
    exact rt (.bool false)
  ·refine regH 26 [(2, .eq (.bool false))] [2] [AV.bool (r_10.2 == 0) = AV.bool false] (mkS 62 [(2, .bool false)]) (⟨[(C_bk_Drum r_3.2), (C_Ledger r_3.1)], []⟩) (by kernel_rfl) ⟨congrArg AV.bool hc_11, trivial⟩ rfl ?_
   refine Ex.ret ?_
   obtain rfl := sJ h
   exact rt (.bool false)
end Go.Proofs.Ytfhapfljomgmnaa
end
section
namespace Go.Proofs.Ytfhapfljomgmnaa
open Go.RowKit

theorem mk8 (h : Nat → Int) : ∃ y : T_V8_i64, ∀ g, g < 8 → lft y g = h g := by
 refine ⟨⟨h 0, h 1, h 2, h 3, h 4, h 5, h 6, h 7⟩, fun g hg => ?_⟩
 match g, hg with
 | 0, _ => rfl
 | 1, _ => rfl
 | 2, _ => rfl
 | 3, _ => rfl
 | 4, _ => rfl
 | 5, _ => rfl
 | 6, _ => rfl
 | 7, _ => rfl
theorem sum_tail (h : Nat → Int) (j : Nat) : ∀ n, j + 1 ≤ n → ((List.range n).map fun k => if j < k then h k else 0).sum = ((List.range n).map h).sum - ((List.range (j + 1)).map h).sum
 | 0, q => by omega
 | n + 1, q => by
  by_cases hn : n = j
  ·subst hn
   have : ((List.range (n + 1)).map fun k => if n < k then h k else 0) = (List.range (n + 1)).map fun _ => (0 : Int) := List.map_congr_left fun k hk => by
    rw [List.mem_range] at hk
    rw [if_neg (by omega)]
   rw [this, sum_z0]
   omega
  ·rw [sum_succ, sum_succ h n, sum_tail h j n (by omega), if_pos (by omega)]
   omega
theorem feas_rows {cs : List T_claim} {nf : Nat} {p : T_V8_i64} {w : List (List Int)} (h : IsTr cs nf p w) (hnf : nf ≤ 8) (h8 : cs.length ≤ 8) (j : Nat) {y : T_V8_i64} (y0 : ∀ g, 0 ≤ lft y g) (hy : ∀ f, f < nf → ((List.range cs.length).map fun k => if j < k then ent w k f else 0).sum ≤ lft y f) : Feas cs (j + 1) y := by
 intro T hT
 have e1 : A8 cs T = ((List.range 8).map fun k => ((List.range 8).map fun f => if T k then ent w k f else 0).sum).sum := by
  unfold A8 S8
  congr 1
  refine List.map_congr_left fun k hk => ?_
  cases hTk : T k with
  | true =>
   simp only [if_true]
   exact (row8 h hnf (hT k hTk).2).symm
  | false =>
   simp [sum_z0]
 rw [e1, sum_swap]
 unfold B8
 refine sum_le _ _ _ fun f hf => ?_
 rw [List.mem_range] at hf
 cases hq : pset cs T f with
 | true =>
  simp only [if_true]
  refine Int.le_trans (sum_le _ (fun k => if j < k then ent w k f else 0) _ fun k _ => ?_) ?_
  ·cases hTk : T k with
   | true =>
    simp only [if_true]
    rw [if_pos (by have := hT k hTk; omega)]
    exact Int.le_refl _
   | false =>
    simp only [Bool.false_eq_true, if_false]
    split
    ·exact (h.pos k f).1
    ·exact Int.le_refl _
  ·rw [sum_range_ext (fun k => if j < k then ent w k f else 0) cs.length (fun k hk => by
    show (if j < k then ent w k f else 0) = 0
    rw [ent_far h (.inl hk)]
    split <;> rfl) 8 h8]
   by_cases hfn : f < nf
   ·exact hy f hfn
   ·rw [List.map_congr_left (g := fun _ => (0 : Int)) fun k _ => by
     show (if j < k then ent w k f else 0) = 0
     rw [ent_far h (.inr (by omega))]
     split <;> rfl]
    rw [sum_z0]
    exact y0 f
 | false =>
  rw [if_neg (by simp)]
  have : ∀ k ∈ List.range 8, (if T k then ent w k f else 0) ≤ 0 := fun k hk => by
   rw [List.mem_range] at hk
   split
   ·rename_i hTk
    by_cases h0 : 0 < ent w k f
    ·have := pset_iff.2 ⟨k, hk, hTk, (h.pos k f).2 h0⟩
     rw [hq] at this; cases this
    ·omega
   ·exact Int.le_refl _
  have := sum_le (fun k => if T k then ent w k f else 0) (fun _ => 0) (List.range 8) this
  rw [sum_z0] at this
  exact this
theorem paid_isTr {cs : List T_claim} {p : T_V8_i64} {nf : Nat} {w : List (List Int)} {l : T_V8_i64} (hp : Paid cs p nf cs.length w l) : IsTr cs nf p w := by
 have hent : ∀ j f, 0 ≤ ent w j f ∧ (0 < ent w j f → (pay cs j).testBit f = true) := fun j f => by
  by_cases hj : j < cs.length
  ·obtain ⟨x, x1, x2, x3, x4⟩ := hp.row j hj
   cases hv : x[f]? with
   | none =>
    have : ent w j f = 0 := by unfold ent; rw [x1, Option.bind_some, hv]; rfl
    rw [this]
    exact ⟨Int.le_refl _, fun q => by omega⟩
   | some v =>
    rw [ent_at x1 hv]
    have := x4 f v hv
    exact ⟨this.1, this.2.2⟩
  ·have : ent w j f = 0 := ent_out (nf := nf) fun x hx => by have := (List.getElem?_eq_some_iff.1 hx).1; have := hp.len; omega
   rw [this]
   exact ⟨Int.le_refl _, fun q => by omega⟩
 refine ⟨hp.len, fun j hj => ?_, hent, fun j hj => ?_, fun g hg => ?_⟩
 ·obtain ⟨x, x1, x2, _⟩ := hp.row j hj
  exact ⟨x, x1, x2⟩
 ·obtain ⟨x, x1, x2, x3, _⟩ := hp.row j hj
  rw [← x3, ← x2]
  have : ∀ k, k ≤ x.length → ((List.range k).map (ent w j)).sum = pre x k := by
   intro k
   induction k with
   | zero => intro _; rfl
   | succ k ih =>
    intro hk
    have hxk : x[k]? = some x[k] := List.getElem?_eq_getElem (by omega)
    rw [sum_succ, ih (by omega), pre_succ x k _ hxk, ent_at x1 hxk]
  rw [this _ (Nat.le_refl _)]
  simp [pre]
 ·have h1 := hp.left g hg
  have h2 := hp.l0 g
  omega
theorem paid_max {cs : List T_claim} {p : T_V8_i64} {nf : Nat} (hnf : nf ≤ 8) (h8 : cs.length ≤ 8) {w w0 : List (List Int)} {l : T_V8_i64} (hp : Paid cs p nf cs.length w l) (h0 : IsTr cs nf p w0) : ¬ Less w w0 := by
 rintro ⟨j, g, hpre, hlt⟩
 have hw := paid_isTr hp
 have hj : j < cs.length := by
  by_cases q : j < cs.length
  ·exact q
  ·rw [ent_far h0 (.inl (by omega)), ent_far hw (.inl (by omega))] at hlt
   omega
 have hg : g < nf := by
  by_cases q : g < nf
  ·exact q
  ·rw [ent_far h0 (.inr (by omega)), ent_far hw (.inr (by omega))] at hlt
   omega
 have hbit := (h0.pos j g).2 (by have := (hw.pos j g).1; omega)
 obtain ⟨y, hy⟩ := mk8 fun g => if g < nf then lft p g - ((List.range (j + 1)).map fun k => ent w0 k g).sum else 0
 have hyz : ∀ g, nf ≤ g → lft y g = 0 := fun g hg => by
  by_cases q : g < 8
  ·rw [hy g q, if_neg (by omega)]
  ·exact lft_out (by omega)
 have hyn : ∀ g, g < nf → lft y g = lft p g - ((List.range (j + 1)).map fun k => ent w0 k g).sum := fun g hg => by rw [hy g (by omega), if_pos hg]
 have htl : ∀ g, ((List.range cs.length).map fun k => if j < k then ent w0 k g else 0).sum = ((List.range cs.length).map fun k => ent w0 k g).sum - ((List.range (j + 1)).map fun k => ent w0 k g).sum := fun g => sum_tail (fun k => ent w0 k g) j cs.length (by omega)
 have hy0 : ∀ g, 0 ≤ lft y g := fun g => by
  by_cases q : g < nf
  ·rw [hyn g q]
   have := h0.col g q
   have h1 := htl g
   have := sum_le (fun _ => (0 : Int)) (fun k => if j < k then ent w0 k g else 0) (List.range cs.length) (fun k _ => by
    show (0 : Int) ≤ if j < k then ent w0 k g else 0
    split
    ·exact (h0.pos k g).1
    ·exact Int.le_refl _)
   rw [sum_z0] at this
   omega
  ·rw [hyz g (by omega)]
   exact Int.le_refl _
 have hfe : Feas cs (j + 1) y := feas_rows h0 hnf h8 j hy0 fun f hf => by
  rw [hyn f hf, htl f]
  have := h0.col f hf
  omega
 have hsame : ∀ a f, a ≤ j → ((List.range a).map fun k => ent w0 k f).sum = ((List.range a).map fun k => ent w k f).sum := fun a f ha => by
  congr 1
  refine List.map_congr_left fun k hk => ?_
  rw [List.mem_range] at hk
  exact (hpre k f (.inl (by omega))).symm
 have hz := hp.max j g hj hg hbit y hy0 hyz (fun f hf => by
  rw [hyn f (by omega), sum_succ, sum_succ, hsame j f (Nat.le_refl _), hpre j f (.inr ⟨rfl, hf⟩)]
  exact Int.le_refl _) (fun f hf hfn => by
  rw [hyn f hfn, sum_succ, hsame j f (Nat.le_refl _)]
  have := (h0.pos j f).1
  omega) (by
  rw [hyn g hg, sum_succ, sum_succ, hsame j g (Nat.le_refl _)]
  omega) hfe
 -- the row's sums differ
 have e1 := hw.sum j hj
 have e2 := h0.sum j hj
 have e3 := sum_upd (ent w j) (fun f => if f = g then ent w0 j g else ent w j f) g (fun f hf => by simp [hf]) nf hg
 simp only [if_true] at e3
 have e4 := sum_le (fun f => if f = g then ent w0 j g else ent w j f) (ent w0 j) (List.range nf) (fun f hf => by
  rw [List.mem_range] at hf
  show (if f = g then ent w0 j g else ent w j f) ≤ ent w0 j f
  split
  ·rename_i q; rw [q]; exact Int.le_refl _
  ·rename_i q
   by_cases hfg : f < g
   ·rw [hpre j f (.inr ⟨rfl, hfg⟩)]; exact Int.le_refl _
   ·rw [hz f (by omega) hf]
    exact (h0.pos j f).1)
 omega

theorem tot_p (N : Nat) (l : List Int) (hN : l.length < N) (h2 : l.length < 4611686018427387904) : p_total N l = some (wsum l l.length) := by
 have e : p_sum_int_slices_Values_int_int_1r_total_1 N l = some (wsum l l.length) := by
  unfold p_sum_int_slices_Values_int_int_1r_total_1
  simp only [letJ_eq]
  exact sumL l (fun b => some b) hN (fun rec b => by simp only [ltE, cond_false]) (fun rec i x b hx => by
   have hi := (List.getElem?_eq_some_iff.1 hx).1
   have e1 : p_total_1 N x = some x := rfl
   simp only [ltD hi, cond_true, getD_at hx, Option.bind_some, e1, nadd1 i (by omega)])
 unfold p_total
 rw [show p_slices_Values_int_int N l = some l from rfl, Option.bind_some, e]
 rfl
theorem noFlaws_p (N : Nat) (hN : 1000 < N) (L : T_Ledger) (c : Int) (cs : List T_claim) (p : T_V8_i64) (hc : c ≤ 1000000) (hc0 : 0 ≤ c) (h : GoodL 3 3 c L) (hcs : GoodC L cs) (w : List (List Int)) (i : Nat) (hi : i < cs.length) (x : List Int) (x1 : w[i]? = some x) (x2 : x.length = L.Funds.length) (x3 : x.sum = amt cs i) (x4 : ∀ (f : Nat) v, x[f]? = some v → 0 ≤ v ∧ v ≤ 2000000 ∧ (0 < v → (pay cs i).testBit f = true)) : p_billFlaws N L (i : Int) x = some [] := by
 have g1 := h.nf; have g2 := h.nb
 have hcl := hcs.1
 have hB : L.Bills[i]? = some L.Bills[i] := List.getElem?_eq_getElem (by omega)
 have hgB := h.bill _ (List.getElem_mem (show i < L.Bills.length by omega))
 have hxm : ∀ v ∈ x, 0 ≤ v ∧ v ≤ 2000000 := fun v hv => by
  obtain ⟨f, hf⟩ := List.mem_iff_getElem?.1 hv
  have := x4 f v hf
  exact ⟨this.1, this.2.1⟩
 have ht : p_total N x = some (amt cs i) := by
  rw [tot_p N x (by omega) (by omega), wsum_pre x 2000000 (by omega) hxm (by omega) _ (Nat.le_refl _), ← x3]
  simp [pre]
 unfold p_billFlaws
 rw [getD_at hB, Option.bind_some]
 refine letJ_gen (fun z => z = some []) _ _ (fun K hK => ?_)
 have hKK : K [] = some [] := by
  rw [hK]
  dsimp only
  rw [letJ_eq]
  refine invZ' x (fun z => z = some []) (fun i (b : List T_Flaw) => b = []) (by omega) rfl (fun rec b hb => by simp only [ltE, cond_false]; rw [hb]) (fun rec f v b hv hf hb ih => ?_)
  rw [hb]
  obtain ⟨y1, y2, y3⟩ := x4 f v hv
  have hgo := ih [] rfl
  have hF : L.Funds[f]? = some L.Funds[f] := List.getElem?_eq_getElem (by omega)
  have hgF := h.fund _ (List.getElem_mem (show f < L.Funds.length by omega))
  simp only [ltD hf, cond_true, letJ_eq, getD_at hv, Option.bind_some, nadd1 f (by omega)]
  by_cases hpos : v > 0
  ·rw [decide_eq_true hpos, cond_true, getD_at hF, Option.bind_some, canPay_p N hN c _ _ hgF hgB, Option.bind_some]
   have hcan : can L.Funds[f] L.Bills[i] = true := by
    obtain ⟨y, e, _, q, z1, z2, z3⟩ := hcs.2 i _ hB
    have hpq : pay cs i = q := by unfold pay; rw [e]; simp [z1]
    have := y3 hpos
    rw [hpq, z3] at this
    obtain ⟨F', e1, e2⟩ := this
    rw [hF] at e1
    cases e1
    exact e2
   rw [hcan]
   exact hgo
  ·rw [decide_eq_false hpos, cond_false, cond_false]
   exact hgo
 rw [ht, Option.bind_some, amtAt h hcs hB]
 simp [hKK]
theorem audit_p (N : Nat) (hN : 1000 < N) (L : T_Ledger) (c : Int) (cs : List T_claim) (p l : T_V8_i64) (hc : c ≤ 1000000) (hc0 : 0 ≤ c) (h : GoodL 3 3 c L) (hcs : GoodC L cs) (hp : ∀ f : Nat, f < 8 → p.l[f]? = some ((L.Funds[f]?.map (·.Amount)).getD 0)) (w : List (List Int)) (hpd : Paid cs p L.Funds.length cs.length w l) : p_Audit N L w = some ([], 0) := by
 have g1 := h.nf; have g2 := h.nb
 have hcl := hcs.1
 have hwl := hpd.len
 have hrow : ∀ (i : Nat) x, w[i]? = some x → x.length = L.Funds.length ∧ x.sum = amt cs i ∧ ∀ (f : Nat) v, x[f]? = some v → 0 ≤ v ∧ v ≤ 2000000 ∧ (0 < v → (pay cs i).testBit f = true) := fun i x hx => by
  obtain ⟨y, y1, y2⟩ := hpd.row i (by have := (List.getElem?_eq_some_iff.1 hx).1; omega)
  rw [hx] at y1
  cases y1
  exact y2
 have hct : p_checkTrace N L w = some 0 := by
  unfold p_checkTrace
  have i1 : p_slices_IndexFunc_int_int_v1_checkTrace_1 N w L = some (-1) := by
   unfold p_slices_IndexFunc_int_int_v1_checkTrace_1
   simp only [letJ_eq]
   refine st1 w.length _ (some (-1)) ?_ ?_ N 0 (by omega) (by omega)
   ·intro rec; simp only [ltE, cond_false]
   ·intro rec i hi
    have hx : w[i]? = some w[i] := List.getElem?_eq_getElem hi
    have e : p_checkTrace_1 N w[i] L = some false := by
     unfold p_checkTrace_1
     rw [(hrow i _ hx).1]
     simp
    simp only [ltD hi, cond_true, getD_at hx, Option.bind_some, e, cond_false, nadd1 i (by omega)]
  have i2 : ∀ x ∈ w, p_slices_IndexFunc_int_int_checkTrace_2_1 N x = some (-1) := fun x hxm => by
   obtain ⟨i, hx⟩ := List.mem_iff_getElem?.1 hxm
   obtain ⟨r1, r2, r3⟩ := hrow i x hx
   unfold p_slices_IndexFunc_int_int_checkTrace_2_1
   simp only [letJ_eq]
   refine st1 x.length _ (some (-1)) ?_ ?_ N 0 (by omega) (by omega)
   ·intro rec; simp only [ltE, cond_false]
   ·intro rec f hf
    have hv : x[f]? = some x[f] := List.getElem?_eq_getElem hf
    have := r3 f _ hv
    have e : p_checkTrace_2_1 N x[f] = some false := by
     unfold p_checkTrace_2_1
     rw [isAmount_p N _ (by omega) (by omega)]
     rfl
    simp only [ltD hf, cond_true, getD_at hv, Option.bind_some, e, cond_false, nadd1 f (by omega)]
  have i3 : p_slices_IndexFunc_int_int_v1_checkTrace_2 N w = some (-1) := by
   unfold p_slices_IndexFunc_int_int_v1_checkTrace_2
   simp only [letJ_eq]
   refine st1 w.length _ (some (-1)) ?_ ?_ N 0 (by omega) (by omega)
   ·intro rec; simp only [ltE, cond_false]
   ·intro rec i hi
    have hx : w[i]? = some w[i] := List.getElem?_eq_getElem hi
    have e : p_checkTrace_2 N w[i] = some false := by
     unfold p_checkTrace_2 p_slices_ContainsFunc_int_int_checkTrace_2_1
     rw [i2 _ (List.getElem_mem hi)]
     rfl
    simp only [ltD hi, cond_true, getD_at hx, Option.bind_some, e, cond_false, nadd1 i (by omega)]
  unfold p_slices_ContainsFunc_int_int_v1_checkTrace_1 p_slices_ContainsFunc_int_int_v1_checkTrace_2
  rw [i1, i3, letJ_eq, show ((((w.length : Nat) : Int) != ((L.Bills.length : Nat) : Int)) : Bool) = false from by simp; omega]
  rfl
 unfold p_Audit
 simp only [check_p N hN 3 3 c (by omega) (by omega) hc L h, Option.bind_some, bne_self_eq_false, cond_false, hct]
 refine letJ_gen (fun z => z = some ([], 0)) _ _ (fun K hK => ?_)
 have hentB : ∀ j f, 0 ≤ ent w j f ∧ ent w j f ≤ 2000000 := fun j f => by
  cases hx : w[j]? with
  | none =>
   have : ent w j f = 0 := by unfold ent; rw [hx]; rfl
   omega
  | some x =>
   obtain ⟨r1, r2, r3⟩ := hrow j x hx
   cases hv : x[f]? with
   | none =>
    have : ent w j f = 0 := by unfold ent; rw [hx, Option.bind_some, hv]; rfl
    omega
   | some v =>
    rw [ent_at hx hv]
    have := r3 f v hv
    exact ⟨this.1, this.2.1⟩
 have hKK : K [] = some ([], 0) := by
  rw [hK]
  dsimp only
  rw [letJ_eq]
  refine invZ' L.Funds (fun z => z = some ([], 0)) (fun i (b : List T_Flaw) => b = []) (by omega) rfl (fun rec b hb => by simp only [ltE, cond_false]; rw [hb]) (fun rec f F b hF hf hb ih => ?_)
  rw [hb]
  have hgo := ih [] rfl
  have hs : p_sum_int_v1_slices_Values_int_int_1_v1r_Audit_1 N w (f : Int) = some (((List.range cs.length).map fun j => ent w j f).sum) := by
   unfold p_sum_int_v1_slices_Values_int_int_1_v1r_Audit_1
   simp only [letJ_eq]
   refine invZ w (fun z => z = some (((List.range cs.length).map fun j => ent w j f).sum)) (fun i (b : Int) => b = ((List.range i).map fun j => ent w j f).sum) (by omega) rfl (fun rec b hb => ?_) (fun rec i x b hx hi hb2 ih => ?_)
   ·simp only [ltE, cond_false]
    rw [hb, hwl]
   ·obtain ⟨r1, r2, r3⟩ := hrow i x hx
    have hv : x[f]? = some x[f] := List.getElem?_eq_getElem (by omega)
    have e1 : p_Audit_1 N x (f : Int) = some (ent w i f) := by
     unfold p_Audit_1
     rw [getD_at hv, ent_at hx hv]
     rfl
    have hsb := sum_bnd (fun j => ent w j f) 2000000 (by omega) (List.range i) (fun j _ => hentB j f)
    rw [List.length_range] at hsb
    have := hentB i f
    simp only [ltD hi, cond_true, getD_at hx, Option.bind_some, e1, nadd1 i (by omega)]
    rw [hb2, w64 (by omega) (by omega)]
    refine ih _ ?_
    rw [sum_succ]
  have hle : ((List.range cs.length).map fun j => ent w j f).sum ≤ F.Amount := by
   have h1 := hpd.left f hf
   have h2 := hpd.l0 f
   rw [lftAt hp (by omega), hF] at h1
   simp only [Option.map_some, Option.getD_some] at h1
   omega
  simp only [ltD hf, cond_true, letJ_eq, getD_at hF, Option.bind_some, show p_slices_Values_int_int_v1 N w = some w from rfl, hs, nadd1 f (by omega)]
  rw [decide_eq_false (by omega), cond_false]
  exact hgo
 refine invZ' w (fun z => z = some ([], 0)) (fun i (b : List T_Flaw) => b = []) (by omega) rfl (fun rec b hb => by simp only [ltE, cond_false]; rw [hb]; exact hKK) (fun rec i x b hx hi hb ih => ?_)
 obtain ⟨r1, r2, r3⟩ := hrow i x hx
 simp only [ltD hi, cond_true, getD_at hx, Option.bind_some, noFlaws_p N hN L c cs p hc hc0 h hcs w i (by omega) x hx r1 r2 r3, nadd1 i (by omega)]
 rw [hb, pushI_ok (by simp), Option.bind_some]
 exact ih _ rfl
theorem eqLists_t (N : Nat) (l : List (List Int)) (h : l.length < N) (h2 : l.length < 4611686018427387904) (hx : ∀ x ∈ l, x.length < N ∧ x.length < 4611686018427387904) : p_bk_EqLists N l l = some true := by
 unfold p_bk_EqLists
 simp only [bne_self_eq_false, cond_false, letJ_eq]
 refine st1 l.length _ (some true) ?_ ?_ N 0 (by omega) (by omega)
 ·intro rec; simp only [ltE, cond_false]
 ·intro rec i hi
  have hv : l[i]? = some l[i] := List.getElem?_eq_getElem hi
  have := hx _ (List.getElem_mem hi)
  simp only [ltD hi, cond_true, getD_at hv, Option.bind_some, eqInts_t N _ this.1 this.2, Bool.not_true, cond_false, nadd1 i (by omega)]
theorem traced_law (N : Nat) (hN : 9223372036854775808 + 100000 < N) (zs : List Int) (hz : zs.length < 9223372036854775808) (haw : p_bl9_awake N = some true) : p_bl9_CoinTraced N zs = some true := by
 have hN1 : 1000 < N := by omega
 unfold p_bl9_CoinTraced
 obtain ⟨d, e⟩ := drumOf_p N zs (by omega) hz
 rw [e, Option.bind_some]; clear e
 obtain ⟨L, d2, e, h⟩ := ledgerOf_p N hN1 d 3 3 4 (by omega) (by omega) (by omega) (by omega)
 rw [show p_bk_LedgerOf N d 3 3 4 = some (L, d2) from e, Option.bind_some]; clear e
 dsimp only
 have g1 := h.nf; have g2 := h.nb
 obtain ⟨cs, p, hcs, hp, ha, hl, htr⟩ := trace_s N hN1 3 3 4 (by omega) (by omega) (by omega) (by omega) L h
 have hok := hcs.ok (by omega)
 have hcl := hcs.1
 obtain ⟨E, eE, hE⟩ := all_p N (by omega) L 4 cs p (by omega) h hcs hp
 rcases htr with ⟨hnf, e⟩ | ⟨w, l, e, hpd⟩
 ·have hE0 : E = [] := by
   refine List.eq_nil_iff_forall_not_mem.2 fun w hw => hnf ?_
   exact isTr_feas ((hE.mem w).1 hw) (by omega) hok.1 hl
  rw [e, Option.bind_some, eE, Option.bind_some, hE0]
  simp [haw]
 ·have hwt := paid_isTr hpd
  have hwE := (hE.mem w).2 hwt
  have hne : E ≠ [] := fun q => by rw [q] at hwE; simp at hwE
  obtain ⟨w0, hw0⟩ : ∃ w0, E.getLast? = some w0 := by
   cases q : E.getLast? with
   | none => exact absurd (List.getLast?_eq_none_iff.1 q) hne
   | some w0 => exact ⟨w0, rfl⟩
  have hw0w : w = w0 := by
   rcases hE.last w0 hw0 w hwE with q | q
   ·exact q
   ·exact absurd q (paid_max (by omega) (by omega) hpd ((hE.mem w0).1 (List.mem_of_getLast? hw0)))
  subst hw0w
  have hlen : 0 < E.length := List.length_pos_iff.2 hne
  have hE2 := hE.len
  have hlast : getI E (((E.length : Nat) : Int) - 1) = some w := by
   rw [show ((E.length : Nat) : Int) - 1 = ((E.length - 1 : Nat) : Int) by omega, getI_nat]
   rw [List.getLast?_eq_getElem?] at hw0
   exact hw0
  rw [e, Option.bind_some, eE, Option.bind_some]
  dsimp only
  rw [show (((0 : Int) != 0) : Bool) = false from rfl, cond_false, audit_p N hN1 L 4 cs p l (by omega) (by omega) h hcs hp w hpd, Option.bind_some]
  dsimp only
  rw [w64 (x := ((E.length : Nat) : Int) - 1) (by omega) (by omega), hlast, show decide (((E.length : Nat) : Int) > 0) = true from decide_eq_true (by omega), Option.bind_some, eqLists_t N w (by have := hwt.len; omega) (by have := hwt.len; omega) (fun x hx => by
   obtain ⟨j, hj⟩ := List.mem_iff_getElem?.1 hx
   obtain ⟨y, y1, y2⟩ := hwt.rows j (by have := (List.getElem?_eq_some_iff.1 hj).1; have := hwt.len; omega)
   rw [hj] at y1
   cases y1
   omega), Option.bind_some, haw]
  rfl
theorem awake_td : p_bl9_awake 18446744073709551616 = some true := by kernel_rfl
theorem traced_m (zs : List Int) (h : zs.length < 9223372036854775808) : Does Try.prog 4 [.sl (zs.map (AV.int .i64)) none] [] fun v _ => v = .bool true :=
 (d_bl9_CoinTraced 18446744073709551616 zs true (traced_law _ (by omega) zs h awake_td)).mono fun v c h => h.1
end Go.Proofs.Ytfhapfljomgmnaa
end
section
namespace Go.Proofs.Ytfhapfljomgmnaa
open Go.RowKit Go.ChangeShapes Go.WideShapes Go.ChangeAt

def nums (zs : List Int) : AV := .sl (zs.map fun z => .int .i64 z) none
theorem prog_own : ownKnob Try.prog.godebug = none := by kernel_rfl
theorem prog_laid : laidOutB Try.prog = true := by kernel_rfl

namespace coinTraced
set_option maxRecDepth 100000 in
theorem lifted (hM : ∀ zs : List Int, (∀ z ∈ zs, (Lit.int .i64 z).wf = true) → zs.length ≤ maxLen → Does Try.prog 4 [nums zs] [] fun v _ => v = .bool true) (os : Os) (started : os.Started) (H : Type) (enc : TypeId × Value → H) :
  ReturnsInHanded {} Try.checked os 4 .any (Rows.coinTracedSpec.pre6 enc Try.prog Try.f4 Rows.coinTracedRow.domain false) (Rows.coinTracedSpec.post enc Try.prog Try.f4 false true false false) := by
 refine returnsInHanded_of_change (C := Try.checked) prog_own started (by kernel_rfl) Try.func4
  (ChangeSpec.witness6 (enc := enc) (C := Try.checked) false ⟨#[], #[.slice none 0 0], []⟩ 8 (by kernel_rfl) (by kernel_rfl) (by kernel_rfl) (by kernel_rfl)) ?_
 intro W base args ds gs before hval0 hW hcnd _
 have hval : ∀ (j : Nat) t v, Try.f4.params[j]? = some t → args[j]? = some v → Value.okWide Try.prog W .any base t v := hval0
 have hW' := hW
 obtain ⟨p, q, hA0, hV, rfl, hfz, hnd⟩ := hW
 have hA : DataW.TrodAll enc Try.prog W 0 (fun _ => true) true Try.f4.params.toList args.toList ds p := hA0
 rw [Try.params4] at hA hval
 obtain ⟨v0, vs0, d0, ds0, p0, q0, hargs, rfl, rfl, h0, r0⟩ := trodAll_cons hA
 obtain ⟨rfl, rfl, rfl⟩ := trodAll_nil r0
 obtain rfl : args = #[v0] := by cases args; simp_all
 obtain ⟨rfl, rfl⟩ := trodVars_none hV
 obtain ⟨a0, len0, cap0, rfl⟩ := okWide_slice Try.underlying28 (hval 0 28 v0 rfl rfl)
 have k0 := h0
 have lt0 : ∀ x ∈ p0, x.block < W.heap.size := by obtain ⟨m, hm⟩ := k0; exact DataW.trod_lt m _ _ _ hm
 obtain ⟨zs, hwf, hlen, hvr⟩ := ints_vr Try.underlying28 Try.underlying3 (by kernel_rfl) h0
 clear hA0 hval0
 refine ((hM zs hwf hlen).law (us := #[.slice a0 len0 cap0]) ⟨rfl, fun i x u hx hu => ?_⟩).mono fun e W' ⟨he, bel⟩ => ?_
 ·cases i with
  | zero => simp at hx hu; subst hx; subst hu; exact hvr
  | succ i => simp at hx
 subst he
 exact ⟨_, rfl, _, _, _, [], _, [], hW', trodAll_mk1 (shut_bool Try.underlying4 _), (trodAll_cons_mk (Below.trod prog_laid (by kernel_rfl) (of_decide_eq_true (by kernel_rfl)) k0 bel lt0) trodAll_mk0), rfl, bel.frame _, fun h => by cases h⟩

theorem frame (hM : ∀ zs : List Int, (∀ z ∈ zs, (Lit.int .i64 z).wf = true) → zs.length ≤ maxLen → Does Try.prog 4 [nums zs] [] fun v _ => v = .bool true) : Rows.CoinTracedSaid :=
 OpenClaim.holds_of_wide 4 Try.f4 rfl rfl rfl rfl rfl rfl rfl ⟨rfl, rfl, rfl, rfl, rfl⟩ rfl rfl rfl rfl rfl (by kernel_rfl) Try.func4 (by kernel_rfl)
  (of_decide_eq_true (by kernel_rfl)) (by unfold Func.isWrapper; first | (rw [if_pos (by decide +kernel)]; kernel_rfl) | (rw [if_neg (by decide +kernel)]; exact ⟨rfl, rfl⟩))
  (fun os started H enc _ => lifted hM os started H enc)
end coinTraced
end Go.Proofs.Ytfhapfljomgmnaa
end
