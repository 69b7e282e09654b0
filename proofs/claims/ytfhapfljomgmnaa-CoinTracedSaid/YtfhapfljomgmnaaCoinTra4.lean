/- Part 5 of what the law needs: own work, put together. -/
import Derived.Test.YtfhapfljomgmnaaCoinTra3
set_option linter.unusedVariables false
set_option linter.unusedSimpArgs false
set_option maxRecDepth 10000
set_option maxHeartbeats 4000000
section
namespace Go.Proofs.Ytfhapfljomgmnaa
open Go.RowKit
attribute [local simp] back back1 AV.plain AV.plain1 AV.clean cleanL cleanI cleanBo cleanSt cleanII KL_bk_Drum KL_Fund KL_Bill KL_Ledger KL_claim KL_V8_i64 A_bk_Drum C_bk_Drum A_Fund C_Fund A_Bill C_Bill A_Ledger C_Ledger A_claim C_claim A_V8_i64 C_V8_i64 ren ren1 fadeS fadeV List.idxOf? List.findIdx? List.findIdx?.go re re1 KB_bk_Drum KB_Fund KB_Bill KB_Ledger KB_claim KB_V8_i64 chillS chillV
def p_set_add (N : Nat) (s_1 : Int) (n_2 : Int) : Option (Int) := ((nnI n_2).bind fun u_3 => ((some (IntKind.u8.wrap (((BitVec.ofInt (IntKind.bits .u8) s_1 ||| BitVec.ofInt (IntKind.bits .u8) (IntKind.u8.wrap (1 * ((2 : Int) ^ (min (Int.toNat n_2) (IntKind.bits .u8)))))).toNat : Nat) : Int))).bind fun n_4 => some n_4))
def v_set_add (r : Int) : AV := .tup []
attribute [local simp] v_set_add
theorem b_set_add (r : Int) (n n2 m : Nat) : back n n2 m (v_set_add r) = some (v_set_add r) := by simp
theorem d_set_add (N : Nat) (s_1 : Int) (n_2 : Int) (r : Int) (h : p_set_add N s_1 n_2 = some r) : Does Try.prog 70 [.ptr 0 0, i6 n_2] [[.int .u8 s_1]] fun v c => v = v_set_add r ∧ c = [[.int .u8 r]] := by
 unfold p_set_add at h
 refine Does.ofL comp70 _ _ rfl rfl ?_
 refine Ex.forget (forgetK [0, 1]) ?_
 refine Ex.castA (a2 := mkS 11 [(0, .ptr 0 0), (1, i6 n_2)]) (S2 := ⟨[[.int .u8 s_1]], []⟩) (by kernel_rfl) (by kernel_rfl) ?_
 obtain ⟨u_3, hu_3, h⟩ := bE h
 refine Ex.drawE (a1 := mkS 11 [(0, .ptr 0 0), (1, i6 n_2), (4, .ptr 0 0), (5, .ptr 0 0), (6, .int .u8 s_1), (7, i6 n_2), (8, .int .u8 (IntKind.u8.wrap (1 * ((2 : Int) ^ (min (Int.toNat n_2) (IntKind.bits .u8))))))]) (noClr_ok _) [] [] [] ?_ ?_
 ·refine drS [0] 5 [(4, .bin (.int .u8 (IntKind.u8.wrap (1 * ((2 : Int) ^ (min (Int.toNat n_2) (IntKind.bits .u8)))))))] [binA .shl (.int .u8 1) (i6 n_2) = some (.int .u8 (IntKind.u8.wrap (1 * ((2 : Int) ^ (min (Int.toNat n_2) (IntKind.bits .u8))))))] (mkS 11 [(0, .ptr 0 0), (1, i6 n_2), (4, .ptr 0 0), (5, .ptr 0 0), (6, .int .u8 s_1), (7, i6 n_2), (8, .int .u8 (IntKind.u8.wrap (1 * ((2 : Int) ^ (min (Int.toNat n_2) (IntKind.bits .u8))))))]) (by simp) (by kernel_rfl) ⟨binSl hu_3, trivial⟩ (by kernel_rfl) ?_
  exact DrO.nil rfl
 ·dsimp only [List.getLastD_cons, List.getLastD_nil]
  obtain ⟨n_4, hn_4, h⟩ := bE h
  refine runH 3 [(0, .eq (.int .u8 n_4))] [] [AV.int .u8 (IntKind.u8.wrap (((BitVec.ofInt (IntKind.bits .u8) s_1 ||| BitVec.ofInt (IntKind.bits .u8) (IntKind.u8.wrap (1 * ((2 : Int) ^ (min (Int.toNat n_2) (IntKind.bits .u8)))))).toNat : Nat) : Int)) = AV.int .u8 n_4] (mkS 11 []) (⟨[[.int .u8 n_4]], []⟩) (by kernel_rfl) ⟨congrArg (AV.int .u8) (Option.some.inj hn_4), trivial⟩ ?_
  refine ExO.nil ?_
  obtain rfl := sJ h
  exact ⟨.inl rfl, .tup [], by kernel_rfl, by kernel_rfl, by kernel_rfl, by kernel_rfl⟩
def p_each_set_add (N : Nat) (numbers_1 : (List Int)) (a_2 : Int) : Option (Int) := (letJ (fun (b_3 : Int) => some b_3) (fun k_4 => (loop2 (fun rec_9 (y_7 : Int) (b_8 : Int) => (bif (decide (y_7 < ((numbers_1.length : Nat) : Int))) then ((getI numbers_1 y_7).bind fun x_13 => ((p_set_add N b_8 x_13).bind fun r_14 => (rec_9 (IntKind.i64.wrap (y_7 + 1)) r_14))) else (k_4 b_8))) N 0 a_2)))
def v_each_set_add (r : Int) : AV := .tup []
attribute [local simp] v_each_set_add
theorem b_each_set_add (r : Int) (n n2 m : Nat) : back n n2 m (v_each_set_add r) = some (v_each_set_add r) := by simp
theorem d_each_set_add (N : Nat) (numbers_1 : (List Int)) (a_2 : Int) (r : Int) (h : p_each_set_add N numbers_1 a_2 = some r) : Does Try.prog 99 [.sl (numbers_1.map (AV.int .i64)) none, .fn 70 [.ptr 0 0] []] [[.int .u8 a_2]] fun v c => v = v_each_set_add r ∧ c = [[.int .u8 r]] := by
 unfold p_each_set_add at h
 refine Does.ofL comp99 _ _ rfl rfl ?_
 refine Ex.seq ?_
 refine regH 3 [(1, .eq (i6 ((numbers_1.length : Nat) : Int)))] [1, 6, 7, 8] [AV.int .i64 (((numbers_1.map (AV.int .i64)).length : Nat) : Int) = AV.int .i64 ((numbers_1.length : Nat) : Int)] (mkS 16 [(1, .fn 70 [.ptr 0 0] []), (6, .sl (numbers_1.map (AV.int .i64)) none), (7, i6 ((numbers_1.length : Nat) : Int)), (8, i6 0)]) (⟨[[.int .u8 a_2]], []⟩) (by kernel_rfl) ⟨lenM _ _, trivial⟩ rfl ?_
 obtain ⟨K_5, hK_6, h⟩ := letE h
 refine Ex.blockJ (fun a S => ∃ (b_3 : Int), K_5 b_3 = some r ∧ a = mkS 16 [] ∧ S = ⟨[[.int .u8 b_3]], []⟩) ?_ ?_
 ·obtain ⟨B_10, hB_11, h⟩ := loop2I h
  refine Ex.loopF (fun k a S => ∃ (y_7 : Int), ∃ (b_8 : Int), loop2 B_10 k y_7 b_8 = some r ∧ a = mkS 16 [(1, .fn 70 [.ptr 0 0] []), (6, .sl (numbers_1.map (AV.int .i64)) none), (7, i6 ((numbers_1.length : Nat) : Int)), (8, i6 y_7)] ∧ S = ⟨[[.int .u8 b_8]], []⟩) N ⟨_, _, Forgets.refl _ _ _, 0, a_2, h, rfl, rfl⟩ ?_
  rintro k a S ⟨y_7, b_8, h, rfl, rfl⟩
  cases k with
  | zero => exact (loop2Z h).elim
  | succ k =>
   replace h := loop2S h hB_11
   refine Ex.seq (rg 1 [1, 6, 7, 8, 9] (mkS 16 [(1, .fn 70 [.ptr 0 0] []), (6, .sl (numbers_1.map (AV.int .i64)) none), (7, i6 ((numbers_1.length : Nat) : Int)), (8, i6 y_7), (9, .bool (decide (y_7 < ((numbers_1.length : Nat) : Int))))]) ⟨[[.int .u8 b_8]], []⟩ ?_)
   refine Ex.seq ?_
   rcases condI h with ⟨hc_12, h⟩ | ⟨hc_12, h⟩
   ·refine Ex.condT _ rfl hc_12 ?_
    refine Ex.skip ?_
    refine Ex.seq ?_
    refine Ex.blockK ?_
    refine Ex.seq ?_
    obtain ⟨x_13, hx_13, h⟩ := bE h
    refine regH 3 [(0, .rop [i6 x_13])] [1, 5, 6, 7, 8] [LGet (numbers_1.map (AV.int .i64)) y_7 1 [i6 x_13]] (mkS 16 [(1, .fn 70 [.ptr 0 0] []), (5, i6 x_13), (6, .sl (numbers_1.map (AV.int .i64)) none), (7, i6 ((numbers_1.length : Nat) : Int)), (8, i6 y_7)]) (⟨[[.int .u8 b_8]], []⟩) (by kernel_rfl) ⟨LGet.of hx_13 rfl, trivial⟩ rfl ?_
    obtain ⟨r_14, hr_14, h⟩ := bE h
    refine Ex.reg (rn 2 [1, 6, 7, 8, 12, 13] (mkS 16 [(1, .fn 70 [.ptr 0 0] []), (6, .sl (numbers_1.map (AV.int .i64)) none), (7, i6 ((numbers_1.length : Nat) : Int)), (8, i6 y_7), (12, .fn 70 [.ptr 0 0] []), (13, i6 x_13)]) ⟨[[.int .u8 b_8]], []⟩ ?_)
    refine ExO.callL [0] [.ptr 0 0, i6 x_13] rfl rfl (by simp; try rfl) rfl (by simp) (d_set_add N b_8 x_13 r_14 hr_14) (b_set_add _ _ _ _) (by simp) ?_
    refine rn 0 [1, 6, 7, 8] (mkS 16 [(1, .fn 70 [.ptr 0 0] []), (6, .sl (numbers_1.map (AV.int .i64)) none), (7, i6 ((numbers_1.length : Nat) : Int)), (8, i6 y_7)]) ⟨[[.int .u8 r_14]], []⟩ ?_
    refine ExO.nil ?_
    refine rg 2 [1, 6, 7, 8] (mkS 16 [(1, .fn 70 [.ptr 0 0] []), (6, .sl (numbers_1.map (AV.int .i64)) none), (7, i6 ((numbers_1.length : Nat) : Int)), (8, i6 (IntKind.i64.wrap (y_7 + 1)))]) ⟨[[.int .u8 r_14]], []⟩ ?_
    dsimp only
    exact ⟨_, _, Forgets.refl _ _ _, k, Nat.lt_succ_self k, (IntKind.i64.wrap (y_7 + 1)), r_14, h, rfl, rfl⟩
   ·refine Ex.condF _ rfl hc_12 ?_
    refine Ex.exit ?_
    (try simp only [reduceCtorEq, AEx.ex.injEq, Nat.reduceEqDiff, if_true, if_false])
    exact ⟨_, _, forgetK [], b_8, h, rfl, rfl⟩
 ·rintro a S ⟨b_3, h, rfl, rfl⟩
  subst hK_6
  obtain rfl := sJ h
  exact ⟨.inl rfl, .tup [], by kernel_rfl, by kernel_rfl, by kernel_rfl, by kernel_rfl⟩
def p_usesOf (N : Nat) (f_1 : T_Fund) : Option (Int) := ((p_each_set_add N f_1.Uses 0).bind fun r_2 => some r_2)
def v_usesOf (r : Int) : AV := .int .u8 r
attribute [local simp] v_usesOf
theorem b_usesOf (r : Int) (n n2 m : Nat) : back n n2 m (v_usesOf r) = some (v_usesOf r) := by simp
theorem d_usesOf (N : Nat) (f_1 : T_Fund) (r : Int) (h : p_usesOf N f_1 = some r) : Does Try.prog 90 [(A_Fund f_1)] [] fun v c => v = v_usesOf r ∧ c = [] := by
 unfold p_usesOf at h
 refine Does.ofL comp90 _ _ rfl rfl ?_
 refine Ex.seq (rg 2 [1] (mkS 9 [(1, .ptr 0 0)]) ⟨[(C_Fund f_1)], []⟩ ?_)
 refine Ex.seq (rg 2 [1, 3] (mkS 9 [(1, .ptr 0 0), (3, .ptr 1 0)]) ⟨[(C_Fund f_1), [.int .u8 0]], []⟩ ?_)
 refine Ex.seq ?_
 obtain ⟨r_2, hr_2, h⟩ := bE h
 refine Ex.reg (rn 3 [3, 5, 6] (mkS 9 [(3, .ptr 1 0), (5, .sl (f_1.Uses.map (AV.int .i64)) none), (6, .fn 70 [.ptr 1 0] [])]) ⟨[(C_Fund f_1), [.int .u8 0]], []⟩ ?_)
 refine ExO.callL [1] [.sl (f_1.Uses.map (AV.int .i64)) none, .fn 70 [.ptr 1 0] []] rfl rfl (by simp; try rfl) rfl (by simp) (d_each_set_add N f_1.Uses 0 r_2 hr_2) (b_each_set_add _ _ _ _) (by simp) ?_
 refine rn 0 [3] (mkS 9 [(3, .ptr 1 0)]) ⟨[(C_Fund f_1), [.int .u8 r_2]], []⟩ ?_
 refine ExO.nil ?_
 refine Ex.seq (rg 2 [2] (mkS 9 [(2, .int .u8 r_2)]) ⟨[(C_Fund f_1), [.int .u8 r_2]], []⟩ ?_)
 refine Ex.ret ?_
 obtain rfl := sJ h
 exact rt (.int .u8 r_2)
def p_set_has (N : Nat) (s_1 : Int) (n_2 : Int) : Option (Bool) := ((nnI n_2).bind fun u_3 => ((some (IntKind.u8.wrap (((BitVec.ofInt (IntKind.bits .u8) (Int.fdiv s_1 ((2 : Int) ^ (min (Int.toNat n_2) (IntKind.bits .u8)))) &&& BitVec.ofInt (IntKind.bits .u8) 1).toNat : Nat) : Int))).bind fun n_4 => some (n_4 == 1)))
def v_set_has (r : Bool) : AV := .bool r
attribute [local simp] v_set_has
theorem a_set_has (s_1 : Int) (n_2 : Int) : [.int .u8 s_1, i6 n_2].mapM (ren []) = some [.int .u8 s_1, i6 n_2] := by simp
theorem b_set_has (r : Bool) (n n2 m : Nat) : back n n2 m (v_set_has r) = some (v_set_has r) := by simp
theorem d_set_has (N : Nat) (s_1 : Int) (n_2 : Int) (r : Bool) (h : p_set_has N s_1 n_2 = some r) : Does Try.prog 79 [.int .u8 s_1, i6 n_2] [] fun v c => v = v_set_has r ∧ c = [] := by
 unfold p_set_has at h
 refine Does.ofL comp79 _ _ rfl rfl ?_
 refine Ex.seq (rg 1 [0, 1] (mkS 10 [(0, .int .u8 s_1), (1, i6 n_2)]) ⟨[], []⟩ ?_)
 refine Ex.seq ?_
 obtain ⟨u_3, hu_3, h⟩ := bE h
 obtain ⟨n_4, hn_4, h⟩ := bE h
 refine regH 6 [(2, .bin (.int .u8 (Int.fdiv s_1 ((2 : Int) ^ (min (Int.toNat n_2) (IntKind.bits .u8)))))), (3, .eq (.int .u8 n_4))] [4] [binA .shr (.int .u8 s_1) (i6 n_2) = some (.int .u8 (Int.fdiv s_1 ((2 : Int) ^ (min (Int.toNat n_2) (IntKind.bits .u8))))), AV.int .u8 (IntKind.u8.wrap (((BitVec.ofInt (IntKind.bits .u8) (Int.fdiv s_1 ((2 : Int) ^ (min (Int.toNat n_2) (IntKind.bits .u8)))) &&& BitVec.ofInt (IntKind.bits .u8) 1).toNat : Nat) : Int)) = AV.int .u8 n_4] (mkS 10 [(4, .bool (n_4 == 1))]) (⟨[], []⟩) (by kernel_rfl) ⟨binSr hu_3, congrArg (AV.int .u8) (Option.some.inj hn_4), trivial⟩ rfl ?_
 refine Ex.ret ?_
 obtain rfl := sJ h
 exact rt (.bool (n_4 == 1))
def p_canPay (N : Nat) (f_1 : T_Fund) (b_2 : T_Bill) : Option (Bool) := ((p_within N b_2.Day f_1.Day f_1.Until).bind fun r_3 => (bif r_3 then ((p_usesOf N f_1).bind fun r_5 => ((p_set_has N r_5 b_2.Use).bind fun r_7 => some r_7)) else some false))
def v_canPay (r : Bool) : AV := .bool r
attribute [local simp] v_canPay
theorem a_canPay (f_1 : T_Fund) (b_2 : T_Bill) : [(A_Fund f_1), (A_Bill b_2)].mapM (ren []) = some [(A_Fund f_1), (A_Bill b_2)] := by simp
theorem b_canPay (r : Bool) (n n2 m : Nat) : back n n2 m (v_canPay r) = some (v_canPay r) := by simp
theorem d_canPay (N : Nat) (f_1 : T_Fund) (b_2 : T_Bill) (r : Bool) (h : p_canPay N f_1 b_2 = some r) : Does Try.prog 69 [(A_Fund f_1), (A_Bill b_2)] [] fun v c => v = v_canPay r ∧ c = [] := by
 unfold p_canPay at h
 refine Does.ofL comp69 _ _ rfl rfl ?_
 refine Ex.seq (rg 3 [2, 3] (mkS 19 [(2, .ptr 0 0), (3, .ptr 1 0)]) ⟨[(C_Fund f_1), (C_Bill b_2)], []⟩ ?_)
 refine Ex.seq ?_
 obtain ⟨r_3, hr_3, h⟩ := bE h
 rcases condI h with ⟨hc_4, h⟩ | ⟨hc_4, h⟩
 ·obtain ⟨r_5, hr_5, h⟩ := bE h
  have hT_6 : DoesA Try.prog [⟨51, [i6 b_2.Day, i6 f_1.Day, i6 f_1.Until], [], (v_within r_3), []⟩, ⟨90, [(A_Fund f_1)], [], (v_usesOf r_5), []⟩] ∧ ConsA [⟨51, [i6 b_2.Day, i6 f_1.Day, i6 f_1.Until], [], (v_within r_3), []⟩, ⟨90, [(A_Fund f_1)], [], (v_usesOf r_5), []⟩] := ⟨⟨(d_within N b_2.Day f_1.Day f_1.Until r_3 hr_3), rfl, (d_usesOf N f_1 r_5 hr_5), rfl, trivial⟩, ⟨⟨ConsR.ne rfl, trivial⟩, trivial, trivial⟩⟩
  refine Ex.drawE (a1 := mkS 19 [(2, .ptr 0 0), (3, .ptr 1 0), (5, .ptr 1 0), (6, i6 b_2.Day), (7, .ptr 0 0), (8, i6 f_1.Day), (9, .ptr 0 1), (10, i6 f_1.Until), (11, .bool r_3), (12, .bool true), (13, (A_Fund f_1)), (14, .int .u8 r_5), (15, .ptr 1 1), (16, i6 b_2.Use)]) (tabO_ok hT_6.1) [] [] [] ?_ ?_
  ·refine drS [0, 1] 6 [] [] (mkS 19 [(2, .ptr 0 0), (3, .ptr 1 0), (5, .ptr 1 0), (6, i6 b_2.Day), (7, .ptr 0 0), (8, i6 f_1.Day), (9, .ptr 0 1), (10, i6 f_1.Until)]) (by simp) (by kernel_rfl) trivial (by kernel_rfl) ?_
   refine drC hT_6.2 0 _ [i6 b_2.Day, i6 f_1.Day, i6 f_1.Until] (v_within r_3) rfl rfl rfl rfl rfl (fun _ => rfl) rfl (by simp; try rfl) (fun _ => b_within _ _ _ _) ?_
   refine drS [0, 1] 2 [(0, .eq (.bool true))] [AV.bool r_3 = AV.bool true] (mkS 19 [(2, .ptr 0 0), (3, .ptr 1 0), (5, .ptr 1 0), (6, i6 b_2.Day), (7, .ptr 0 0), (8, i6 f_1.Day), (9, .ptr 0 1), (10, i6 f_1.Until), (11, .bool r_3), (12, .bool true), (13, (A_Fund f_1))]) (by simp) (by kernel_rfl) ⟨congrArg AV.bool hc_4, trivial⟩ (by kernel_rfl) ?_
   refine drC hT_6.2 1 _ [(A_Fund f_1)] (v_usesOf r_5) rfl rfl rfl rfl rfl (fun _ => rfl) rfl (by simp; try rfl) (fun _ => b_usesOf _ _ _ _) ?_
   refine drS [0, 1] 2 [] [] (mkS 19 [(2, .ptr 0 0), (3, .ptr 1 0), (5, .ptr 1 0), (6, i6 b_2.Day), (7, .ptr 0 0), (8, i6 f_1.Day), (9, .ptr 0 1), (10, i6 f_1.Until), (11, .bool r_3), (12, .bool true), (13, (A_Fund f_1)), (14, .int .u8 r_5), (15, .ptr 1 1), (16, i6 b_2.Use)]) (by simp) (by kernel_rfl) trivial (by kernel_rfl) ?_
   exact DrO.nil rfl
  ·dsimp only [List.getLastD_cons, List.getLastD_nil]
   obtain ⟨r_7, hr_7, h⟩ := bE h
   refine ExO.callL [] [.int .u8 r_5, i6 b_2.Use] rfl rfl (a_set_has r_5 b_2.Use) rfl rfl (d_set_has N r_5 b_2.Use r_7 hr_7) (b_set_has _ _ _ _) rfl ?_
   refine rn 2 [4] (mkS 19 [(4, .bool r_7)]) ⟨[(C_Fund f_1), (C_Bill b_2)], []⟩ ?_
   refine ExO.nil ?_
   refine Ex.ret ?_
   obtain rfl := sJ h
   exact rt (.bool r_7)
 ·have hT_9 : DoesA Try.prog [⟨51, [i6 b_2.Day, i6 f_1.Day, i6 f_1.Until], [], (v_within r_3), []⟩] ∧ ConsA [⟨51, [i6 b_2.Day, i6 f_1.Day, i6 f_1.Until], [], (v_within r_3), []⟩] := ⟨⟨(d_within N b_2.Day f_1.Day f_1.Until r_3 hr_3), rfl, trivial⟩, ⟨trivial, trivial⟩⟩
  obtain ⟨X_8, hX_8, hcl_10⟩ : ∃ X : Clr, ClrOk Try.prog X ∧ X 51 [i6 b_2.Day, i6 f_1.Day, i6 f_1.Until] ⟨[(C_Fund f_1), (C_Bill b_2)], []⟩ = some (v_within r_3, none) := ⟨_, tabO_ok hT_9.1, tabO_pure hT_9.2 0 _ [i6 b_2.Day, i6 f_1.Day, i6 f_1.Until] _ rfl rfl rfl rfl (by simp; try rfl) (fun _ => b_within _ _ _ _)⟩
  refine dregX hX_8 [(6, .cl (v_within r_3)), (7, .eq (.bool false))] [] [4] [X_8 51 [i6 b_2.Day, i6 f_1.Day, i6 f_1.Until] ⟨[(C_Fund f_1), (C_Bill b_2)], []⟩ = some (v_within r_3, none), AV.bool r_3 = AV.bool false] [] (mkS 19 [(2, .ptr 0 0), (3, .ptr 1 0), (5, .ptr 1 0), (6, i6 b_2.Day), (7, .ptr 0 0), (8, i6 f_1.Day), (9, .ptr 0 1), (10, i6 f_1.Until), (11, .bool r_3), (12, .bool false), (13, .tup []), (14, .tup []), (15, .tup []), (16, .tup [])]) (mkS 19 [(4, .bool false)]) (by kernel_rfl) (by kernel_rfl) ⟨hcl_10, congrArg AV.bool hc_4, trivial⟩ (by kernel_rfl) trivial ?_
  refine Ex.ret ?_
  obtain rfl := sJ h
  exact rt (.bool false)
def p_claimsOf (N : Nat) (l_1 : T_Ledger) : Option ((List T_claim)) := (letJ (fun (c_2 : List T_claim) => some c_2) (fun k_3 => (loop2 (fun rec_8 (c_6 : List T_claim) (y_7 : Int) => (bif (decide (y_7 < ((l_1.Bills.length : Nat) : Int))) then ((getI l_1.Bills y_7).bind fun x_12 => (letJ (fun (b_13 : Int) => ((pushI c_6 ([(⟨x_12.Amount, b_13⟩ : T_claim)] : List T_claim)).bind fun l_31 => (rec_8 l_31 (IntKind.i64.wrap (y_7 + 1))))) (fun k_14 => (loop2 (fun rec_19 (y_17 : Int) (b_18 : Int) => (bif (decide (y_17 < ((l_1.Funds.length : Nat) : Int))) then (letJ (fun (b_23 : Int) => (rec_19 (IntKind.i64.wrap (y_17 + 1)) b_23)) (fun k_24 => ((getI l_1.Funds y_17).bind fun x_27 => ((p_canPay N x_27 x_12).bind fun r_28 => (bif r_28 then ((p_set_add N b_18 y_17).bind fun r_30 => (k_24 r_30)) else (k_24 b_18)))))) else (k_14 b_18))) N 0 0)))) else (k_3 c_6))) N [] 0)))
def v_claimsOf (r : (List T_claim)) : AV := .sl (r.map A_claim) none
attribute [local simp] v_claimsOf
theorem b_claimsOf (r : (List T_claim)) (n n2 m : Nat) : back n n2 m (v_claimsOf r) = some (v_claimsOf r) := by simp
theorem d_claimsOf (N : Nat) (l_1 : T_Ledger) (r : (List T_claim)) (h : p_claimsOf N l_1 = some r) : Does Try.prog 38 [(A_Ledger l_1)] [] fun v c => v = v_claimsOf r ∧ c = [] := by
 unfold p_claimsOf at h
 refine Does.ofL comp38 _ _ rfl rfl ?_
 refine Ex.seq (rg 2 [1] (mkS 39 [(1, .ptr 0 0)]) ⟨[(C_Ledger l_1)], []⟩ ?_)
 refine Ex.seq (rg 1 [1, 3] (mkS 39 [(1, .ptr 0 0), (3, .nils)]) ⟨[(C_Ledger l_1)], []⟩ ?_)
 refine Ex.seq (Ex.seq ?_)
 refine regH 4 [(2, .eq (i6 ((l_1.Bills.length : Nat) : Int)))] [1, 3, 10, 11, 12] [AV.int .i64 (((l_1.Bills.map A_Bill).length : Nat) : Int) = AV.int .i64 ((l_1.Bills.length : Nat) : Int)] (mkS 39 [(1, .ptr 0 0), (3, .nils), (10, .sl (l_1.Bills.map A_Bill) none), (11, i6 ((l_1.Bills.length : Nat) : Int)), (12, i6 0)]) (⟨[(C_Ledger l_1)], []⟩) (by kernel_rfl) ⟨lenM _ _, trivial⟩ rfl ?_
 obtain ⟨K_4, hK_5, h⟩ := letE h
 refine Ex.blockJ (fun a S => ∃ (c_2 : List T_claim), K_4 c_2 = some r ∧ a = mkS 39 [(3, .sl (c_2.map A_claim) (some 0))] ∧ S = ⟨[], [(c_2.length, 2)]⟩) ?_ ?_
 ·refine Ex.forget (nilK 3 2 rfl) ?_
  refine Ex.castA (a2 := mkS 39 [(1, .ptr 0 0), (3, .sl (([] : List T_claim).map A_claim) (some 0)), (10, .sl (l_1.Bills.map A_Bill) none), (11, i6 ((l_1.Bills.length : Nat) : Int)), (12, i6 0)]) (S2 := ⟨[(C_Ledger l_1)], [(0, 2)]⟩) (by kernel_rfl) (by kernel_rfl) ?_
  obtain ⟨B_9, hB_10, h⟩ := loop2I h
  refine Ex.loopF (fun k a S => ∃ (c_6 : List T_claim), ∃ (y_7 : Int), loop2 B_9 k c_6 y_7 = some r ∧ a = mkS 39 [(1, .ptr 0 0), (3, .sl (c_6.map A_claim) (some 0)), (10, .sl (l_1.Bills.map A_Bill) none), (11, i6 ((l_1.Bills.length : Nat) : Int)), (12, i6 y_7)] ∧ S = ⟨[(C_Ledger l_1)], [(c_6.length, 2)]⟩) N ⟨_, _, Forgets.refl _ _ _, [], 0, h, rfl, rfl⟩ ?_
  rintro k a S ⟨c_6, y_7, h, rfl, rfl⟩
  cases k with
  | zero => exact (loop2Z h).elim
  | succ k =>
   replace h := loop2S h hB_10
   refine Ex.seq (rg 1 [1, 3, 10, 11, 12, 13] (mkS 39 [(1, .ptr 0 0), (3, .sl (c_6.map A_claim) (some 0)), (10, .sl (l_1.Bills.map A_Bill) none), (11, i6 ((l_1.Bills.length : Nat) : Int)), (12, i6 y_7), (13, .bool (decide (y_7 < ((l_1.Bills.length : Nat) : Int))))]) ⟨[(C_Ledger l_1)], [(c_6.length, 2)]⟩ ?_)
   refine Ex.seq ?_
   rcases condI h with ⟨hc_11, h⟩ | ⟨hc_11, h⟩
   ·refine Ex.condT _ rfl hc_11 ?_
    refine Ex.skip ?_
    refine Ex.seq ?_
    refine Ex.blockK ?_
    refine Ex.seq ?_
    obtain ⟨x_12, hx_12, h⟩ := bE h
    refine regH 4 [(0, .rop (C_Bill x_12))] [1, 3, 5, 10, 11, 12] [LGet (l_1.Bills.map A_Bill) y_7 3 (C_Bill x_12)] (mkS 39 [(1, .ptr 0 0), (3, .sl (c_6.map A_claim) (some 0)), (5, .ptr 1 0), (10, .sl (l_1.Bills.map A_Bill) none), (11, i6 ((l_1.Bills.length : Nat) : Int)), (12, i6 y_7)]) (⟨[(C_Ledger l_1), (C_Bill x_12)], [(c_6.length, 2)]⟩) (by kernel_rfl) ⟨LGet.of hx_12 rfl, trivial⟩ rfl ?_
    refine Ex.seq (rg 2 [1, 3, 5, 6, 10, 11, 12] (mkS 39 [(1, .ptr 0 0), (3, .sl (c_6.map A_claim) (some 0)), (5, .ptr 1 0), (6, .ptr 2 0), (10, .sl (l_1.Bills.map A_Bill) none), (11, i6 ((l_1.Bills.length : Nat) : Int)), (12, i6 y_7)]) ⟨[(C_Ledger l_1), (C_Bill x_12), [.int .u8 0]], [(c_6.length, 2)]⟩ ?_)
    refine Ex.seq (Ex.seq ?_)
    refine regH 4 [(2, .eq (i6 ((l_1.Funds.length : Nat) : Int)))] [1, 3, 5, 6, 10, 11, 12, 17, 18, 19] [AV.int .i64 (((l_1.Funds.map A_Fund).length : Nat) : Int) = AV.int .i64 ((l_1.Funds.length : Nat) : Int)] (mkS 39 [(1, .ptr 0 0), (3, .sl (c_6.map A_claim) (some 0)), (5, .ptr 1 0), (6, .ptr 2 0), (10, .sl (l_1.Bills.map A_Bill) none), (11, i6 ((l_1.Bills.length : Nat) : Int)), (12, i6 y_7), (17, .sl (l_1.Funds.map A_Fund) none), (18, i6 ((l_1.Funds.length : Nat) : Int)), (19, i6 0)]) (⟨[(C_Ledger l_1), (C_Bill x_12), [.int .u8 0]], [(c_6.length, 2)]⟩) (by kernel_rfl) ⟨lenM _ _, trivial⟩ rfl ?_
    obtain ⟨K_15, hK_16, h⟩ := letE h
    refine Ex.blockJ (fun a S => ∃ (b_13 : Int), K_15 b_13 = some r ∧ a = mkS 39 [(1, .ptr 0 0), (3, .sl (c_6.map A_claim) (some 0)), (5, .ptr 1 0), (6, .ptr 2 0), (10, .sl (l_1.Bills.map A_Bill) none), (11, i6 ((l_1.Bills.length : Nat) : Int)), (12, i6 y_7)] ∧ S = ⟨[(C_Ledger l_1), (C_Bill x_12), [.int .u8 b_13]], [(c_6.length, 2)]⟩) ?_ ?_
    ·obtain ⟨B_20, hB_21, h⟩ := loop2I h
     refine Ex.loopF (fun k a S => ∃ (y_17 : Int), ∃ (b_18 : Int), loop2 B_20 k y_17 b_18 = some r ∧ a = mkS 39 [(1, .ptr 0 0), (3, .sl (c_6.map A_claim) (some 0)), (5, .ptr 1 0), (6, .ptr 2 0), (10, .sl (l_1.Bills.map A_Bill) none), (11, i6 ((l_1.Bills.length : Nat) : Int)), (12, i6 y_7), (17, .sl (l_1.Funds.map A_Fund) none), (18, i6 ((l_1.Funds.length : Nat) : Int)), (19, i6 y_17)] ∧ S = ⟨[(C_Ledger l_1), (C_Bill x_12), [.int .u8 b_18]], [(c_6.length, 2)]⟩) N ⟨_, _, Forgets.refl _ _ _, 0, 0, h, rfl, rfl⟩ ?_
     rintro k a S ⟨y_17, b_18, h, rfl, rfl⟩
     cases k with
     | zero => exact (loop2Z h).elim
     | succ k =>
      replace h := loop2S h hB_21
      refine Ex.seq (rg 1 [1, 3, 5, 6, 10, 11, 12, 17, 18, 19, 20] (mkS 39 [(1, .ptr 0 0), (3, .sl (c_6.map A_claim) (some 0)), (5, .ptr 1 0), (6, .ptr 2 0), (10, .sl (l_1.Bills.map A_Bill) none), (11, i6 ((l_1.Bills.length : Nat) : Int)), (12, i6 y_7), (17, .sl (l_1.Funds.map A_Fund) none), (18, i6 ((l_1.Funds.length : Nat) : Int)), (19, i6 y_17), (20, .bool (decide (y_17 < ((l_1.Funds.length : Nat) : Int))))]) ⟨[(C_Ledger l_1), (C_Bill x_12), [.int .u8 b_18]], [(c_6.length, 2)]⟩ ?_)
      refine Ex.seq ?_
      rcases condI h with ⟨hc_22, h⟩ | ⟨hc_22, h⟩
      ·refine Ex.condT _ rfl hc_22 ?_
       refine Ex.skip ?_
       refine Ex.seq ?_
       obtain ⟨K_25, hK_26, h⟩ := letE h
       refine Ex.blockJ (fun a S => ∃ (b_23 : Int), K_25 b_23 = some r ∧ a = mkS 39 [(1, .ptr 0 0), (3, .sl (c_6.map A_claim) (some 0)), (5, .ptr 1 0), (6, .ptr 2 0), (10, .sl (l_1.Bills.map A_Bill) none), (11, i6 ((l_1.Bills.length : Nat) : Int)), (12, i6 y_7), (17, .sl (l_1.Funds.map A_Fund) none), (18, i6 ((l_1.Funds.length : Nat) : Int)), (19, i6 y_17)] ∧ S = ⟨[(C_Ledger l_1), (C_Bill x_12), [.int .u8 b_23]], [(c_6.length, 2)]⟩) ?_ ?_
       ·refine Ex.seq ?_
        obtain ⟨x_27, hx_27, h⟩ := bE h
        refine regH 6 [(1, .rop (C_Fund x_27))] [1, 3, 5, 6, 7, 8, 10, 11, 12, 17, 18, 19] [LGet (l_1.Funds.map A_Fund) y_17 4 (C_Fund x_27)] (mkS 39 [(1, .ptr 0 0), (3, .sl (c_6.map A_claim) (some 0)), (5, .ptr 1 0), (6, .ptr 2 0), (7, i6 y_17), (8, .ptr 3 0), (10, .sl (l_1.Bills.map A_Bill) none), (11, i6 ((l_1.Bills.length : Nat) : Int)), (12, i6 y_7), (17, .sl (l_1.Funds.map A_Fund) none), (18, i6 ((l_1.Funds.length : Nat) : Int)), (19, i6 y_17)]) (⟨[(C_Ledger l_1), (C_Bill x_12), [.int .u8 b_18], (C_Fund x_27)], [(c_6.length, 2)]⟩) (by kernel_rfl) ⟨LGet.of hx_27 rfl, trivial⟩ rfl ?_
        refine Ex.seq ?_
        obtain ⟨r_28, hr_28, h⟩ := bE h
        refine Ex.reg (rn 2 [1, 3, 5, 6, 7, 10, 11, 12, 17, 18, 19, 24, 25] (mkS 39 [(1, .ptr 0 0), (3, .sl (c_6.map A_claim) (some 0)), (5, .ptr 1 0), (6, .ptr 2 0), (7, i6 y_17), (10, .sl (l_1.Bills.map A_Bill) none), (11, i6 ((l_1.Bills.length : Nat) : Int)), (12, i6 y_7), (17, .sl (l_1.Funds.map A_Fund) none), (18, i6 ((l_1.Funds.length : Nat) : Int)), (19, i6 y_17), (24, (A_Fund x_27)), (25, (A_Bill x_12))]) ⟨[(C_Ledger l_1), (C_Bill x_12), [.int .u8 b_18], (C_Fund x_27)], [(c_6.length, 2)]⟩ ?_)
        refine ExO.callL [] [(A_Fund x_27), (A_Bill x_12)] rfl rfl (a_canPay x_27 x_12) rfl rfl (d_canPay N x_27 x_12 r_28 hr_28) (b_canPay _ _ _ _) rfl ?_
        refine rn 0 [1, 3, 5, 6, 7, 10, 11, 12, 17, 18, 19, 26] (mkS 39 [(1, .ptr 0 0), (3, .sl (c_6.map A_claim) (some 0)), (5, .ptr 1 0), (6, .ptr 2 0), (7, i6 y_17), (10, .sl (l_1.Bills.map A_Bill) none), (11, i6 ((l_1.Bills.length : Nat) : Int)), (12, i6 y_7), (17, .sl (l_1.Funds.map A_Fund) none), (18, i6 ((l_1.Funds.length : Nat) : Int)), (19, i6 y_17), (26, .bool r_28)]) ⟨[(C_Ledger l_1), (C_Bill x_12), [.int .u8 b_18], (C_Fund x_27)], [(c_6.length, 2)]⟩ ?_
        refine ExO.nil ?_
        rcases condI h with ⟨hc_29, h⟩ | ⟨hc_29, h⟩
        ·refine Ex.condT _ rfl hc_29 ?_
         obtain ⟨r_30, hr_30, h⟩ := bE h
         refine Ex.reg (rn 1 [1, 3, 5, 6, 10, 11, 12, 17, 18, 19, 27] (mkS 39 [(1, .ptr 0 0), (3, .sl (c_6.map A_claim) (some 0)), (5, .ptr 1 0), (6, .ptr 2 0), (10, .sl (l_1.Bills.map A_Bill) none), (11, i6 ((l_1.Bills.length : Nat) : Int)), (12, i6 y_7), (17, .sl (l_1.Funds.map A_Fund) none), (18, i6 ((l_1.Funds.length : Nat) : Int)), (19, i6 y_17), (27, i6 y_17)]) ⟨[(C_Ledger l_1), (C_Bill x_12), [.int .u8 b_18], (C_Fund x_27)], [(c_6.length, 2)]⟩ ?_)
         refine ExO.callL [2] [.ptr 2 0, i6 y_17] rfl rfl (by simp; try rfl) rfl (by simp) (d_set_add N b_18 y_17 r_30 hr_30) (b_set_add _ _ _ _) (by simp) ?_
         refine rn 0 [1, 3, 5, 6, 10, 11, 12, 17, 18, 19] (mkS 39 [(1, .ptr 0 0), (3, .sl (c_6.map A_claim) (some 0)), (5, .ptr 1 0), (6, .ptr 2 0), (10, .sl (l_1.Bills.map A_Bill) none), (11, i6 ((l_1.Bills.length : Nat) : Int)), (12, i6 y_7), (17, .sl (l_1.Funds.map A_Fund) none), (18, i6 ((l_1.Funds.length : Nat) : Int)), (19, i6 y_17)]) ⟨[(C_Ledger l_1), (C_Bill x_12), [.int .u8 r_30], (C_Fund x_27)], [(c_6.length, 2)]⟩ ?_
         refine ExO.nil ?_
         (try simp only [reduceCtorEq, AEx.ex.injEq, Nat.reduceEqDiff, if_true, if_false])
         exact ⟨_, _, forgetA (m := 39) 3 [0] [(1, .ptr 0 0), (3, .sl (c_6.map A_claim) (some 0)), (5, .ptr 1 0), (6, .ptr 2 0), (10, .sl (l_1.Bills.map A_Bill) none), (11, i6 ((l_1.Bills.length : Nat) : Int)), (12, i6 y_7), (17, .sl (l_1.Funds.map A_Fund) none), (18, i6 ((l_1.Funds.length : Nat) : Int)), (19, i6 y_17)] [(C_Ledger l_1), (C_Bill x_12), [.int .u8 r_30]] [(c_6.length, 2)] (by simp [setAll]) (by simp) ⟨rfl, (reT (KL_claim _) rfl), rfl, rfl, (reN (KL_Bill _)), rfl, rfl, (reN (KL_Fund _)), rfl, rfl, trivial⟩ (by simp) rfl (by decide), r_30, h, rfl, rfl⟩
        ·refine Ex.condF _ rfl hc_29 ?_
         refine Ex.skip ?_
         (try simp only [reduceCtorEq, AEx.ex.injEq, Nat.reduceEqDiff, if_true, if_false])
         exact ⟨_, _, forgetA (m := 39) 3 [0] [(1, .ptr 0 0), (3, .sl (c_6.map A_claim) (some 0)), (5, .ptr 1 0), (6, .ptr 2 0), (10, .sl (l_1.Bills.map A_Bill) none), (11, i6 ((l_1.Bills.length : Nat) : Int)), (12, i6 y_7), (17, .sl (l_1.Funds.map A_Fund) none), (18, i6 ((l_1.Funds.length : Nat) : Int)), (19, i6 y_17)] [(C_Ledger l_1), (C_Bill x_12), [.int .u8 b_18]] [(c_6.length, 2)] (by simp [setAll]) (by simp) ⟨rfl, (reT (KL_claim _) rfl), rfl, rfl, (reN (KL_Bill _)), rfl, rfl, (reN (KL_Fund _)), rfl, rfl, trivial⟩ (by simp) rfl (by decide), b_18, h, rfl, rfl⟩
       ·rintro a S ⟨b_23, h, rfl, rfl⟩
        subst hK_26
        refine rg 2 [1, 3, 5, 6, 10, 11, 12, 17, 18, 19] (mkS 39 [(1, .ptr 0 0), (3, .sl (c_6.map A_claim) (some 0)), (5, .ptr 1 0), (6, .ptr 2 0), (10, .sl (l_1.Bills.map A_Bill) none), (11, i6 ((l_1.Bills.length : Nat) : Int)), (12, i6 y_7), (17, .sl (l_1.Funds.map A_Fund) none), (18, i6 ((l_1.Funds.length : Nat) : Int)), (19, i6 (IntKind.i64.wrap (y_17 + 1)))]) ⟨[(C_Ledger l_1), (C_Bill x_12), [.int .u8 b_23]], [(c_6.length, 2)]⟩ ?_
        dsimp only
        exact ⟨_, _, Forgets.refl _ _ _, k, Nat.lt_succ_self k, (IntKind.i64.wrap (y_17 + 1)), b_23, h, rfl, rfl⟩
      ·refine Ex.condF _ rfl hc_22 ?_
       refine Ex.exit ?_
       (try simp only [reduceCtorEq, AEx.ex.injEq, Nat.reduceEqDiff, if_true, if_false])
       exact ⟨_, _, forgetK [1, 3, 5, 6, 10, 11, 12], b_18, h, rfl, rfl⟩
    ·rintro a S ⟨b_13, h, rfl, rfl⟩
     subst hK_16
     obtain ⟨l_31, hl_31, h⟩ := bE h
     refine regH 8 [(6, .app (l_31.map A_claim) l_31.length)] [1, 3, 10, 11, 12] [LApp c_6.length (c_6.map A_claim) (([(⟨x_12.Amount, b_13⟩ : T_claim)] : List T_claim).map A_claim) 2 (l_31.map A_claim) l_31.length] (mkS 39 [(1, .ptr 0 0), (3, .sl (l_31.map A_claim) (some 0)), (10, .sl (l_1.Bills.map A_Bill) none), (11, i6 ((l_1.Bills.length : Nat) : Int)), (12, i6 y_7)]) (⟨[(C_Ledger l_1), (C_Bill x_12), [.int .u8 b_13]], [(l_31.length, 2), (1, 2)]⟩) (by kernel_rfl) ⟨LApp.of hl_31 (fun _ => rfl), trivial⟩ rfl ?_
     refine rg 2 [1, 3, 10, 11, 12] (mkS 39 [(1, .ptr 0 0), (3, .sl (l_31.map A_claim) (some 0)), (10, .sl (l_1.Bills.map A_Bill) none), (11, i6 ((l_1.Bills.length : Nat) : Int)), (12, i6 (IntKind.i64.wrap (y_7 + 1)))]) ⟨[(C_Ledger l_1), (C_Bill x_12), [.int .u8 b_13]], [(l_31.length, 2), (1, 2)]⟩ ?_
     dsimp only
     exact ⟨_, _, forgetA (m := 39) 1 [0] [(1, .ptr 0 0), (3, .sl (l_31.map A_claim) (some 0)), (10, .sl (l_1.Bills.map A_Bill) none), (11, i6 ((l_1.Bills.length : Nat) : Int)), (12, i6 (IntKind.i64.wrap (y_7 + 1)))] [(C_Ledger l_1)] [(l_31.length, 2)] (by simp [setAll]) (by simp) ⟨rfl, (reT (KL_claim _) rfl), (reN (KL_Bill _)), rfl, rfl, trivial⟩ (by simp) rfl (by decide), k, Nat.lt_succ_self k, l_31, (IntKind.i64.wrap (y_7 + 1)), h, rfl, rfl⟩
   ·refine Ex.condF _ rfl hc_11 ?_
    refine Ex.exit ?_
    (try simp only [reduceCtorEq, AEx.ex.injEq, Nat.reduceEqDiff, if_true, if_false])
    exact ⟨_, _, forgetA (m := 39) 0 [0] [(3, .sl (c_6.map A_claim) (some 0))] [] [(c_6.length, 2)] (by simp [setAll]) (by simp) ⟨(reT (KL_claim _) rfl), trivial⟩ (by simp) rfl (by decide), c_6, h, rfl, rfl⟩
 ·rintro a S ⟨c_2, h, rfl, rfl⟩
  subst hK_5
  refine Ex.seq (rg 2 [2] (mkS 39 [(2, .sl (c_2.map A_claim) (some 0))]) ⟨[], [(c_2.length, 2)]⟩ ?_)
  refine Ex.ret ?_
  obtain rfl := sJ h
  exact rt (.sl (c_2.map A_claim) (some 0))
def p_purseOf (N : Nat) (l_1 : T_Ledger) : Option (T_V8_i64) := (letJ (fun (z_2 : T_V8_i64) => some z_2) (fun k_3 => (loop2 (fun rec_8 (y_6 : Int) (z_7 : T_V8_i64) => (bif (decide (y_6 < ((l_1.Funds.length : Nat) : Int))) then ((getI l_1.Funds y_6).bind fun x_12 => ((idxI y_6 8).bind fun u_13 => ((some (T_V8_i64.ofl (z_7.l.set (Int.toNat y_6) x_12.Amount))).bind fun z_14 => (rec_8 (IntKind.i64.wrap (y_6 + 1)) z_14)))) else (k_3 z_7))) N 0 (⟨0, 0, 0, 0, 0, 0, 0, 0⟩ : T_V8_i64))))
def v_purseOf (r : T_V8_i64) : AV := (A_V8_i64 r)
attribute [local simp] v_purseOf
theorem a_purseOf (l_1 : T_Ledger) : [(A_Ledger l_1)].mapM (ren []) = some [(A_Ledger l_1)] := by simp
theorem b_purseOf (r : T_V8_i64) (n n2 m : Nat) : back n n2 m (v_purseOf r) = some (v_purseOf r) := by simp
theorem d_purseOf (N : Nat) (l_1 : T_Ledger) (r : T_V8_i64) (h : p_purseOf N l_1 = some r) : Does Try.prog 39 [(A_Ledger l_1)] [] fun v c => v = v_purseOf r ∧ c = [] := by
 unfold p_purseOf at h
 refine Does.ofL comp39 _ _ rfl rfl ?_
 refine Ex.seq (rg 2 [1, 2] (mkS 21 [(1, .ptr 0 0), (2, .ptr 1 0)]) ⟨[(C_Ledger l_1), [i6 0, i6 0, i6 0, i6 0, i6 0, i6 0, i6 0, i6 0]], []⟩ ?_)
 refine Ex.seq (rg 3 [1, 2, 3] (mkS 21 [(1, .ptr 0 0), (2, .ptr 1 0), (3, .ptr 2 0)]) ⟨[(C_Ledger l_1), [i6 0, i6 0, i6 0, i6 0, i6 0, i6 0, i6 0, i6 0], [i6 0, i6 0, i6 0, i6 0, i6 0, i6 0, i6 0, i6 0]], []⟩ ?_)
 refine Ex.seq (Ex.seq ?_)
 refine regH 4 [(2, .eq (i6 ((l_1.Funds.length : Nat) : Int)))] [2, 3, 8, 9, 10] [AV.int .i64 (((l_1.Funds.map A_Fund).length : Nat) : Int) = AV.int .i64 ((l_1.Funds.length : Nat) : Int)] (mkS 21 [(2, .ptr 1 0), (3, .ptr 2 0), (8, .sl (l_1.Funds.map A_Fund) none), (9, i6 ((l_1.Funds.length : Nat) : Int)), (10, i6 0)]) (⟨[(C_Ledger l_1), [i6 0, i6 0, i6 0, i6 0, i6 0, i6 0, i6 0, i6 0], [i6 0, i6 0, i6 0, i6 0, i6 0, i6 0, i6 0, i6 0]], []⟩) (by kernel_rfl) ⟨lenM _ _, trivial⟩ rfl ?_
 obtain ⟨K_4, hK_5, h⟩ := letE h
 refine Ex.blockJ (fun a S => ∃ (z_2 : T_V8_i64), K_4 z_2 = some r ∧ a = mkS 21 [(2, .ptr 1 0), (3, .ptr 2 0)] ∧ S = ⟨[(C_Ledger l_1), [i6 0, i6 0, i6 0, i6 0, i6 0, i6 0, i6 0, i6 0], (C_V8_i64 z_2)], []⟩) ?_ ?_
 ·obtain ⟨B_9, hB_10, h⟩ := loop2I h
  refine Ex.loopF (fun k a S => ∃ (y_6 : Int), ∃ (z_7 : T_V8_i64), loop2 B_9 k y_6 z_7 = some r ∧ a = mkS 21 [(2, .ptr 1 0), (3, .ptr 2 0), (8, .sl (l_1.Funds.map A_Fund) none), (9, i6 ((l_1.Funds.length : Nat) : Int)), (10, i6 y_6)] ∧ S = ⟨[(C_Ledger l_1), [i6 0, i6 0, i6 0, i6 0, i6 0, i6 0, i6 0, i6 0], (C_V8_i64 z_7)], []⟩) N ⟨_, _, Forgets.refl _ _ _, 0, (⟨0, 0, 0, 0, 0, 0, 0, 0⟩ : T_V8_i64), h, rfl, rfl⟩ ?_
  rintro k a S ⟨y_6, z_7, h, rfl, rfl⟩
  cases k with
  | zero => exact (loop2Z h).elim
  | succ k =>
   replace h := loop2S h hB_10
   refine Ex.seq (rg 1 [2, 3, 8, 9, 10, 11] (mkS 21 [(2, .ptr 1 0), (3, .ptr 2 0), (8, .sl (l_1.Funds.map A_Fund) none), (9, i6 ((l_1.Funds.length : Nat) : Int)), (10, i6 y_6), (11, .bool (decide (y_6 < ((l_1.Funds.length : Nat) : Int))))]) ⟨[(C_Ledger l_1), [i6 0, i6 0, i6 0, i6 0, i6 0, i6 0, i6 0, i6 0], (C_V8_i64 z_7)], []⟩ ?_)
   refine Ex.seq ?_
   rcases condI h with ⟨hc_11, h⟩ | ⟨hc_11, h⟩
   ·refine Ex.condT _ rfl hc_11 ?_
    refine Ex.skip ?_
    refine Ex.seq ?_
    refine Ex.blockK ?_
    refine Ex.seq ?_
    obtain ⟨x_12, hx_12, h⟩ := bE h
    refine regH 6 [(1, .rop (C_Fund x_12))] [2, 3, 4, 5, 8, 9, 10] [LGet (l_1.Funds.map A_Fund) y_6 4 (C_Fund x_12)] (mkS 21 [(2, .ptr 1 0), (3, .ptr 2 0), (4, i6 y_6), (5, .ptr 3 0), (8, .sl (l_1.Funds.map A_Fund) none), (9, i6 ((l_1.Funds.length : Nat) : Int)), (10, i6 y_6)]) (⟨[(C_Ledger l_1), [i6 0, i6 0, i6 0, i6 0, i6 0, i6 0, i6 0, i6 0], (C_V8_i64 z_7), (C_Fund x_12)], []⟩) (by kernel_rfl) ⟨LGet.of hx_12 rfl, trivial⟩ rfl ?_
    obtain ⟨u_13, hu_13, h⟩ := bE h
    obtain ⟨z_14, hz_14, h⟩ := bE h
    refine regH 5 [(3, .adr), (4, .st (C_V8_i64 z_14))] [2, 3, 8, 9, 10] [0 ≤ y_6 ∧ y_6 < ((8 : Nat) : Int), 0 + Int.toNat y_6 * 1 + 1 ≤ ((C_V8_i64 z_7)).length ∧ layAt (C_V8_i64 z_7) (0 + Int.toNat y_6 * 1) [i6 x_12.Amount] = (C_V8_i64 z_14)] (mkS 21 [(2, .ptr 1 0), (3, .ptr 2 0), (8, .sl (l_1.Funds.map A_Fund) none), (9, i6 ((l_1.Funds.length : Nat) : Int)), (10, i6 y_6)]) (⟨[(C_Ledger l_1), [i6 0, i6 0, i6 0, i6 0, i6 0, i6 0, i6 0, i6 0], (C_V8_i64 z_14), (C_Fund x_12)], []⟩) (by kernel_rfl) ⟨idxI.of hu_13, (by obtain rfl := Option.some.inj hz_14; exact stArr z_7.l _ (C_V8_i64 z_7) _ 0 8 y_6 x_12.Amount (fun _ => rfl) (by kernel_rfl) (by kernel_rfl) rfl (T_V8_i64.l_ofl _ (by simp [T_V8_i64.l])) hu_13 (by kernel_rfl) (by kernel_rfl)), trivial⟩ rfl ?_
    refine rg 2 [2, 3, 8, 9, 10] (mkS 21 [(2, .ptr 1 0), (3, .ptr 2 0), (8, .sl (l_1.Funds.map A_Fund) none), (9, i6 ((l_1.Funds.length : Nat) : Int)), (10, i6 (IntKind.i64.wrap (y_6 + 1)))]) ⟨[(C_Ledger l_1), [i6 0, i6 0, i6 0, i6 0, i6 0, i6 0, i6 0, i6 0], (C_V8_i64 z_14), (C_Fund x_12)], []⟩ ?_
    dsimp only
    exact ⟨_, _, forgetA (m := 21) 3 [] [(2, .ptr 1 0), (3, .ptr 2 0), (8, .sl (l_1.Funds.map A_Fund) none), (9, i6 ((l_1.Funds.length : Nat) : Int)), (10, i6 (IntKind.i64.wrap (y_6 + 1)))] [(C_Ledger l_1), [i6 0, i6 0, i6 0, i6 0, i6 0, i6 0, i6 0, i6 0], (C_V8_i64 z_14)] [] (by simp [setAll]) (by simp) ⟨rfl, rfl, (reN (KL_Fund _)), rfl, rfl, trivial⟩ (by simp) rfl (by decide), k, Nat.lt_succ_self k, (IntKind.i64.wrap (y_6 + 1)), z_14, h, rfl, rfl⟩
   ·refine Ex.condF _ rfl hc_11 ?_
    refine Ex.exit ?_
    (try simp only [reduceCtorEq, AEx.ex.injEq, Nat.reduceEqDiff, if_true, if_false])
    exact ⟨_, _, forgetK [2, 3], z_7, h, rfl, rfl⟩
 ·rintro a S ⟨z_2, h, rfl, rfl⟩
  subst hK_5
  refine Ex.seq (rg 2 [2] (mkS 21 [(2, .ptr 1 0)]) ⟨[(C_Ledger l_1), (C_V8_i64 z_2), (C_V8_i64 z_2)], []⟩ ?_)
  refine Ex.ret ?_
  obtain rfl := sJ h
  exact rt ((A_V8_i64 z_2))
def p_setsOf (N : Nat) (size_1 : Int) (bound_2 : Int) : Option (Int × Int) := some (bound_2, size_1)
def v_setsOf (r : Int × Int) : AV := .fn 91 [] [.rop [i6 r.1], .rop [i6 r.2]]
attribute [local simp] v_setsOf
theorem a_setsOf (size_1 : Int) (bound_2 : Int) : [i6 size_1, i6 bound_2].mapM (ren []) = some [i6 size_1, i6 bound_2] := by simp
theorem b_setsOf (r : Int × Int) (n n2 m : Nat) : back n n2 m (v_setsOf r) = some (v_setsOf r) := by simp
theorem d_setsOf (N : Nat) (size_1 : Int) (bound_2 : Int) (r : Int × Int) (h : p_setsOf N size_1 bound_2 = some r) : Does Try.prog 71 [i6 size_1, i6 bound_2] [] fun v c => v = v_setsOf r ∧ c = [] := by
 unfold p_setsOf at h
 refine Does.ofL comp71 _ _ rfl rfl ?_
 refine Ex.seq (rg 3 [2, 3] (mkS 6 [(2, .ptr 0 0), (3, .ptr 1 0)]) ⟨[[i6 size_1], [i6 bound_2]], []⟩ ?_)
 refine Ex.seq (rg 2 [4] (mkS 6 [(4, .fn 91 [] [.ptr 1 0, .ptr 0 0])]) ⟨[[i6 size_1], [i6 bound_2]], []⟩ ?_)
 refine Ex.forget (forgetK [4]) ?_
 refine Ex.castA (a2 := mkS 6 [(4, .fn 91 [] [.ptr 1 0, .ptr 0 0])]) (S2 := ⟨[[i6 size_1], [i6 bound_2]], []⟩) (by kernel_rfl) (by kernel_rfl) ?_
 obtain rfl := sJ h
 refine Ex.forget (chillP 4 1 [i6 bound_2] _ rfl rfl) ?_
 refine Ex.forget (chillP 4 0 [i6 size_1] _ rfl rfl) ?_
 refine Ex.castA (a2 := mkS 6 [(4, .fn 91 [] [.rop [i6 bound_2], .rop [i6 size_1]])]) (S2 := ⟨[[], []], []⟩) (by kernel_rfl) (by kernel_rfl) ?_
 refine Ex.ret ?_
 exact rt (.fn 91 [] [.rop [i6 bound_2], .rop [i6 size_1]])
def p_claims_missing (N : Nat) (c_1 : (List T_claim)) (left_2 : T_V8_i64) : Option (Int) := (letJ (fun (b_3 : Int) => some b_3) (fun k_4 => (loop2 (fun rec_9 (y_7 : Int) (b_8 : Int) => (bif (decide (y_7 < (IntKind.i64.wrap (((c_1.length : Nat) : Int) + 1)))) then ((p_setsOf N y_7 ((c_1.length : Nat) : Int)).bind fun r_13 => (letJ (fun (b_21 : Int) => (rec_9 (IntKind.i64.wrap (y_7 + 1)) b_21)) (fun k_22 => (letJ (fun (b_34 : Int) => (k_22 b_34)) (fun k_75 => ((loop4 (ρ := (Int)) (fun rec_35 (begun_30 : Int) (next_31 : Int) (more_32 : Int) (b_33 : Int) => (bif (more_32 == 0) then (letJ (fun (b_52 : Int) => some b_52) (fun k_53 => ((p_claims_lack N c_1 begun_30 left_2).bind fun r_56 => (k_53 (if r_56 > b_33 then r_56 else b_33))))) else (letJ (fun (b_58 : Int) => some b_58) (fun k_59 => (loop2 (fun rec_64 (n_62 : Int) (b_63 : Int) => (bif (decide ((IntKind.i64.wrap (n_62 + more_32)) ≤ r_13.1)) then ((p_set_add N begun_30 n_62).bind fun r_68 => (letJ (fun (b_71 : Int) => (rec_64 (IntKind.i64.wrap (n_62 + 1)) b_71)) (fun k_72 => ((rec_35 r_68 (IntKind.i64.wrap (n_62 + 1)) (IntKind.i64.wrap (more_32 - 1)) b_63).bind fun s_69 => ((fun t => k_72 t) s_69))))) else (k_59 b_63))) N next_31 b_33))))) N 0 0 r_13.2 b_8).bind fun s_41 => ((fun t => k_75 t) s_41))))))) else (k_4 b_8))) N 0 0)))
def v_claims_missing (r : Int) : AV := i6 r
attribute [local simp] v_claims_missing
theorem a_claims_missing (c_1 : (List T_claim)) (left_2 : T_V8_i64) : [.sl (c_1.map A_claim) none, (A_V8_i64 left_2)].mapM (ren []) = some [.sl (c_1.map A_claim) none, (A_V8_i64 left_2)] := by simp
theorem b_claims_missing (r : Int) (n n2 m : Nat) : back n n2 m (v_claims_missing r) = some (v_claims_missing r) := by simp
theorem d_claims_missing (N : Nat) (c_1 : (List T_claim)) (left_2 : T_V8_i64) (r : Int) (h : p_claims_missing N c_1 left_2 = some r) : Does Try.prog 40 [.sl (c_1.map A_claim) none, (A_V8_i64 left_2)] [] fun v c => v = v_claims_missing r ∧ c = [] := by
 unfold p_claims_missing at h
 refine Does.ofL comp40 _ _ rfl rfl ?_
 refine Ex.seq (rg 3 [2, 3, 4] (mkS 27 [(2, .ptr 0 0), (3, .ptr 1 0), (4, i6 0)]) ⟨[[.sl (c_1.map A_claim) none], (C_V8_i64 left_2)], []⟩ ?_)
 refine Ex.seq (rg 2 [2, 3, 4, 5] (mkS 27 [(2, .ptr 0 0), (3, .ptr 1 0), (4, i6 0), (5, .ptr 2 0)]) ⟨[[.sl (c_1.map A_claim) none], (C_V8_i64 left_2), [i6 0]], []⟩ ?_)
 refine Ex.seq (Ex.seq ?_)
 refine regH 4 [(1, .eq (i6 ((c_1.length : Nat) : Int)))] [2, 3, 4, 5, 10, 11] [AV.int .i64 (((c_1.map A_claim).length : Nat) : Int) = AV.int .i64 ((c_1.length : Nat) : Int)] (mkS 27 [(2, .ptr 0 0), (3, .ptr 1 0), (4, i6 0), (5, .ptr 2 0), (10, i6 (IntKind.i64.wrap (((c_1.length : Nat) : Int) + 1))), (11, i6 0)]) (⟨[[.sl (c_1.map A_claim) none], (C_V8_i64 left_2), [i6 0]], []⟩) (by kernel_rfl) ⟨lenM _ _, trivial⟩ rfl ?_
 obtain ⟨K_5, hK_6, h⟩ := letE h
 refine Ex.blockJ (fun a S => ∃ (b_3 : Int), K_5 b_3 = some r ∧ a = mkS 27 [(5, .ptr 2 0)] ∧ S = ⟨[[.sl (c_1.map A_claim) none], (C_V8_i64 left_2), [i6 b_3]], []⟩) ?_ ?_
 ·obtain ⟨B_10, hB_11, h⟩ := loop2I h
  refine Ex.loopF (fun k a S => ∃ (y_7 : Int), ∃ (b_8 : Int), loop2 B_10 k y_7 b_8 = some r ∧ a = mkS 27 [(2, .ptr 0 0), (3, .ptr 1 0), (4, i6 0), (5, .ptr 2 0), (10, i6 (IntKind.i64.wrap (((c_1.length : Nat) : Int) + 1))), (11, i6 y_7)] ∧ S = ⟨[[.sl (c_1.map A_claim) none], (C_V8_i64 left_2), [i6 b_8]], []⟩) N ⟨_, _, Forgets.refl _ _ _, 0, 0, h, rfl, rfl⟩ ?_
  rintro k a S ⟨y_7, b_8, h, rfl, rfl⟩
  cases k with
  | zero => exact (loop2Z h).elim
  | succ k =>
   replace h := loop2S h hB_11
   refine Ex.seq (rg 1 [2, 3, 4, 5, 10, 11, 12] (mkS 27 [(2, .ptr 0 0), (3, .ptr 1 0), (4, i6 0), (5, .ptr 2 0), (10, i6 (IntKind.i64.wrap (((c_1.length : Nat) : Int) + 1))), (11, i6 y_7), (12, .bool (decide (y_7 < (IntKind.i64.wrap (((c_1.length : Nat) : Int) + 1)))))]) ⟨[[.sl (c_1.map A_claim) none], (C_V8_i64 left_2), [i6 b_8]], []⟩ ?_)
   refine Ex.seq ?_
   rcases condI h with ⟨hc_12, h⟩ | ⟨hc_12, h⟩
   ·refine Ex.condT _ rfl hc_12 ?_
    refine Ex.skip ?_
    refine Ex.seq ?_
    refine Ex.blockK ?_
    refine Ex.seq (rg 2 [2, 3, 4, 5, 6, 10, 11] (mkS 27 [(2, .ptr 0 0), (3, .ptr 1 0), (4, i6 0), (5, .ptr 2 0), (6, i6 y_7), (10, i6 (IntKind.i64.wrap (((c_1.length : Nat) : Int) + 1))), (11, i6 y_7)]) ⟨[[.sl (c_1.map A_claim) none], (C_V8_i64 left_2), [i6 b_8]], []⟩ ?_)
    refine Ex.seq ?_
    obtain ⟨r_13, hr_13, h⟩ := bE h
    refine Ex.reg ?_
    refine runH 3 [(2, .eq (i6 ((c_1.length : Nat) : Int)))] [2, 3, 4, 5, 10, 11, 14, 16] [AV.int .i64 (((c_1.map A_claim).length : Nat) : Int) = AV.int .i64 ((c_1.length : Nat) : Int)] (mkS 27 [(2, .ptr 0 0), (3, .ptr 1 0), (4, i6 0), (5, .ptr 2 0), (10, i6 (IntKind.i64.wrap (((c_1.length : Nat) : Int) + 1))), (11, i6 y_7), (14, i6 y_7), (16, i6 ((c_1.length : Nat) : Int))]) (⟨[[.sl (c_1.map A_claim) none], (C_V8_i64 left_2), [i6 b_8]], []⟩) (by kernel_rfl) ⟨lenM _ _, trivial⟩ ?_
    refine ExO.callL [] [i6 y_7, i6 ((c_1.length : Nat) : Int)] rfl rfl (a_setsOf y_7 ((c_1.length : Nat) : Int)) rfl rfl (d_setsOf N y_7 ((c_1.length : Nat) : Int) r_13 hr_13) (b_setsOf _ _ _ _) rfl ?_
    refine rn 0 [2, 3, 4, 5, 10, 11, 17] (mkS 27 [(2, .ptr 0 0), (3, .ptr 1 0), (4, i6 0), (5, .ptr 2 0), (10, i6 (IntKind.i64.wrap (((c_1.length : Nat) : Int) + 1))), (11, i6 y_7), (17, .fn 91 [] [.rop [i6 r_13.1], .rop [i6 r_13.2]])]) ⟨[[.sl (c_1.map A_claim) none], (C_V8_i64 left_2), [i6 b_8]], []⟩ ?_
    refine ExO.nil ?_
    refine Ex.blockK ?_
    obtain ⟨K_23, hK_24, h⟩ := letE h
    refine Ex.rangeJ (fun k S => (k = 0 ∧ ∃ (b_21 : Int), K_23 b_21 = some r ∧ S = ⟨[[.sl (c_1.map A_claim) none], (C_V8_i64 left_2), [i6 b_21]], [(0, 0)]⟩)) 91 [.rop [i6 r_13.1], .rop [i6 r_13.2]] _ rfl comp91 rfl (by simp [setAll]) (by exact trivial) (mkS 9 [(1, .rop [i6 r_13.1]), (2, .rop [i6 r_13.2]), (3, .tup []), (4, .tup []), (5, .tup []), (6, .tup []), (7, .tup []), (8, .tup [])]) (⟨[[.sl (c_1.map A_claim) none], (C_V8_i64 left_2), [i6 b_8]], [(0, 0)]⟩) (fun _ => by kernel_rfl) (by kernel_rfl) ?_ ?_
    ·intro cx_15 Lp_14 hcn_16 hcm_17 hLt_18 hL_19 hup_20
     refine Ex.castA (a2 := mkS 9 [(0, .yld Lp_14.l 0), (1, .rop [i6 r_13.1]), (2, .rop [i6 r_13.2]), (3, .tup []), (4, .tup []), (5, .tup []), (6, .tup []), (7, .tup []), (8, .tup [])]) (S2 := ⟨[[.sl (c_1.map A_claim) none], (C_V8_i64 left_2), [i6 b_8]], [(0, 0)]⟩) (by kernel_rfl) rfl ?_
     refine Ex.seq (rg 1 [1, 2, 3] (mkS 9 [(1, .rop [i6 r_13.1]), (2, .rop [i6 r_13.2]), (3, .ptr 3 0)]) ⟨[[.sl (c_1.map A_claim) none], (C_V8_i64 left_2), [i6 b_8], [.yld Lp_14.l 0]], [(0, 0)]⟩ ?_)
     refine Ex.seq (rg 1 [1, 2, 3, 4] (mkS 9 [(1, .rop [i6 r_13.1]), (2, .rop [i6 r_13.2]), (3, .ptr 3 0), (4, .ptr 4 0)]) ⟨[[.sl (c_1.map A_claim) none], (C_V8_i64 left_2), [i6 b_8], [.yld Lp_14.l 0], [.nilf]], [(0, 0)]⟩ ?_)
     refine Ex.seq (rg 2 [2, 4] (mkS 9 [(2, .rop [i6 r_13.2]), (4, .ptr 4 0)]) ⟨[[.sl (c_1.map A_claim) none], (C_V8_i64 left_2), [i6 b_8], [.yld Lp_14.l 0], [.fn 92 [] [.ptr 3 0, .rop [i6 r_13.1], .ptr 4 0]]], [(0, 0)]⟩ ?_)
     refine Ex.regI ?_
     refine runI 2 [] [6, 7] [] (mkS 9 [(6, .fn 92 [] [.ptr 3 0, .rop [i6 r_13.1], .ptr 4 0]), (7, i6 r_13.2)]) (⟨[[.sl (c_1.map A_claim) none], (C_V8_i64 left_2), [i6 b_8], [.yld Lp_14.l 0], [.fn 92 [] [.ptr 3 0, .rop [i6 r_13.1], .ptr 4 0]]], [(0, 0)]⟩) (by kernel_rfl) trivial ?_
     obtain ⟨K_76, hK_77, h⟩ := letE h
     obtain ⟨s_41, hs_42, h⟩ := bE h
     obtain ⟨B_36, hB_37, hs_42⟩ := loop4I hs_42
     have hY_40 : ∀ (k : Nat) (begun_30 : Int) (next_31 : Int) (more_32 : Int) (b_33 : Int) (r : (Int)), loop4 B_36 k begun_30 next_31 more_32 b_33 = some r → ∀ (cx_25 : Cx), cx_25.n = 5 → cx_25.m = 1 → (∀ L' a' ps' x' y', LpOk Try.prog cx_15 L' a' ps' x' y' → LpOk Try.prog cx_25 L' a' ps' x' y') → Ex cx_25 .plain Try.prog F92.code (mkS 36 [(0, .int .u8 begun_30), (1, i6 next_31), (2, i6 more_32), (3, .ptr 3 0), (4, .rop [i6 r_13.1]), (5, .ptr 4 0), (6, .tup []), (7, .tup []), (8, .tup []), (9, .tup []), (10, .tup []), (11, .tup []), (12, .tup []), (13, .tup []), (14, .tup []), (15, .tup []), (16, .tup []), (17, .tup []), (18, .tup []), (19, .tup []), (20, .tup []), (21, .tup []), (22, .tup []), (23, .tup []), (24, .tup []), (25, .tup []), (26, .tup []), (27, .tup []), (28, .tup []), (29, .tup []), (30, .tup []), (31, .tup []), (32, .tup []), (33, .tup []), (34, .tup []), (35, .tup [])]) (⟨[[.sl (c_1.map A_claim) none], (C_V8_i64 left_2), [i6 b_33], [.yld Lp_14.l 0], [.fn 92 [] [.ptr 3 0, .rop [i6 r_13.1], .ptr 4 0]]], [(0, 0)]⟩) fun z a' S' => ∃ a2 S2, Forgets cx_25 a' S' a2 S2 ∧ (z = .norm ∨ z = .ret) ∧ ∃ v, evRes a2 S2 F92.res = some v ∧ (fun v S => (∃ (b_34 : Int), b_34 = r ∧ v = .bool true ∧ S = ⟨[[.sl (c_1.map A_claim) none], (C_V8_i64 left_2), [i6 b_34], [.yld Lp_14.l 0], [.fn 92 [] [.ptr 3 0, .rop [i6 r_13.1], .ptr 4 0]]], [(0, 0)]⟩)) v S2 := by
      intro k_38
      induction k_38 with
      | zero => intro begun_30 next_31 more_32 b_33 r h; exact (loop4Z h).elim
      | succ k ih_39 =>
       intro begun_30 next_31 more_32 b_33 r h cx_25 hcn_26 hcm_27 hup_28
       replace h := loop4S h hB_37
       have hL_29 := hup_28 _ _ _ _ _ hL_19
       refine Ex.seq (rg 1 [0, 1, 2, 3, 4, 5] (mkS 36 [(0, .int .u8 begun_30), (1, i6 next_31), (2, i6 more_32), (3, .ptr 3 0), (4, .rop [i6 r_13.1]), (5, .ptr 4 0)]) ⟨[[.sl (c_1.map A_claim) none], (C_V8_i64 left_2), [i6 b_33], [.yld Lp_14.l 0], [.fn 92 [] [.ptr 3 0, .rop [i6 r_13.1], .ptr 4 0]]], [(0, 0)]⟩ ?_)
       refine Ex.seq (Ex.seq ?_)
       refine rg 2 [0, 1, 2, 3, 4, 5, 13] (mkS 36 [(0, .int .u8 begun_30), (1, i6 next_31), (2, i6 more_32), (3, .ptr 3 0), (4, .rop [i6 r_13.1]), (5, .ptr 4 0), (13, .bool (more_32 == 0))]) ⟨[[.sl (c_1.map A_claim) none], (C_V8_i64 left_2), [i6 b_33], [.yld Lp_14.l 0], [.fn 92 [] [.ptr 3 0, .rop [i6 r_13.1], .ptr 4 0]]], [(0, 0)]⟩ ?_
       rcases condI h with ⟨hc_43, h⟩ | ⟨hc_43, h⟩
       ·refine Ex.condT _ rfl hc_43 ?_
        refine Ex.seq ?_
        refine Ex.regI ?_
        refine runI 2 [] [14, 15] [] (mkS 36 [(14, .yld Lp_14.l 0), (15, .int .u8 begun_30)]) (⟨[[.sl (c_1.map A_claim) none], (C_V8_i64 left_2), [i6 b_33], [.yld Lp_14.l 0], [.fn 92 [] [.ptr 3 0, .rop [i6 r_13.1], .ptr 4 0]]], [(0, 0)]⟩) (by kernel_rfl) trivial ?_
        obtain ⟨K_54, hK_55, h⟩ := letE h
        refine ExI.yieldT 0 hLt_18 hL_29 [.int .u8 begun_30] rfl rfl rfl (by kernel_rfl) rfl rfl (leC hcn_26 (by simp [setAll])) ?_
        intro ca_44 cb_45 ha_46 hb_47 hma_48 hmb_49 hup_50 hbz_51
        refine Ex.castA (a2 := mkS 27 [(2, .ptr 0 0), (3, .ptr 1 0), (4, i6 0), (5, .ptr 2 0), (10, i6 (IntKind.i64.wrap (((c_1.length : Nat) : Int) + 1))), (11, i6 y_7), (17, .fn 91 [] [.rop [i6 r_13.1], .rop [i6 r_13.2]]), (18, .int .u8 begun_30)]) (S2 := ⟨[[.sl (c_1.map A_claim) none], (C_V8_i64 left_2), [i6 b_33], [.yld Lp_14.l 0], [.fn 92 [] [.ptr 3 0, .rop [i6 r_13.1], .ptr 4 0]]], [(0, 0)]⟩) (by kernel_rfl) (by kernel_rfl) ?_
        refine Ex.two (fun z S => (z = AEx.norm ∧ ∃ (b_52 : Int), K_54 b_52 = some r ∧ S = ⟨[[.sl (c_1.map A_claim) none], (C_V8_i64 left_2), [i6 b_52], [.yld Lp_14.l 0], [.fn 92 [] [.ptr 3 0, .rop [i6 r_13.1], .ptr 4 0]]], [(0, 0)]⟩)) ?_ ?_
        ·refine rg 1 [2, 3, 5, 7] (mkS 27 [(2, .ptr 0 0), (3, .ptr 1 0), (5, .ptr 2 0), (7, .int .u8 begun_30)]) ⟨[[.sl (c_1.map A_claim) none], (C_V8_i64 left_2), [i6 b_33], [.yld Lp_14.l 0], [.fn 92 [] [.ptr 3 0, .rop [i6 r_13.1], .ptr 4 0]]], [(0, 0)]⟩ ?_
         refine ⟨rfl, rfl, ?_⟩
         refine Ex.blockK ?_
         obtain ⟨r_56, hr_56, h⟩ := bE h
         have hT_57 : DoesA Try.prog [⟨72, [.sl (c_1.map A_claim) none, .int .u8 begun_30, (A_V8_i64 left_2)], [], (v_claims_lack r_56), []⟩] ∧ ConsA [⟨72, [.sl (c_1.map A_claim) none, .int .u8 begun_30, (A_V8_i64 left_2)], [], (v_claims_lack r_56), []⟩] := ⟨⟨(d_claims_lack N c_1 begun_30 left_2 r_56 hr_56), rfl, trivial⟩, ⟨trivial, trivial⟩⟩
         refine Ex.drawE (a1 := mkS 27 [(2, .ptr 0 0), (3, .ptr 1 0), (5, .ptr 2 0), (7, .int .u8 begun_30), (19, i6 b_33), (20, .sl (c_1.map A_claim) none), (21, .int .u8 begun_30), (22, (A_V8_i64 left_2)), (23, i6 r_56)]) (tabO_ok hT_57.1) [] [] [] ?_ ?_
         ·refine drS [0, 1, 2, 3, 4] 4 [] [] (mkS 27 [(2, .ptr 0 0), (3, .ptr 1 0), (5, .ptr 2 0), (7, .int .u8 begun_30), (19, i6 b_33), (20, .sl (c_1.map A_claim) none), (21, .int .u8 begun_30), (22, (A_V8_i64 left_2))]) (by simp) (by kernel_rfl) trivial (by kernel_rfl) ?_
          refine drC hT_57.2 0 _ [.sl (c_1.map A_claim) none, .int .u8 begun_30, (A_V8_i64 left_2)] (v_claims_lack r_56) rfl rfl rfl rfl rfl (fun _ => rfl) rfl (by simp; try rfl) (fun _ => b_claims_lack _ _ _ _) ?_
          exact DrO.nil rfl
         ·dsimp only [List.getLastD_cons, List.getLastD_nil]
          refine rn 2 [] (mkS 27 []) ⟨[[.sl (c_1.map A_claim) none], (C_V8_i64 left_2), [i6 (if r_56 > b_33 then r_56 else b_33)], [.yld Lp_14.l 0], [.fn 92 [] [.ptr 3 0, .rop [i6 r_13.1], .ptr 4 0]]], [(0, 0)]⟩ ?_
          refine ExO.nil ?_
          (try simp only [reduceCtorEq, AEx.ex.injEq, Nat.reduceEqDiff, if_true, if_false])
          exact ⟨_, _, Forgets.refl _ _ _, ⟨by first | rfl | trivial, (if r_56 > b_33 then r_56 else b_33), h, rfl⟩⟩
        ·rintro z a2 S (⟨rfl, b_52, h, rfl⟩)
         subst hK_55
         refine runI 1 [] [9] [] (mkS 36 [(9, .bool true)]) (⟨[[.sl (c_1.map A_claim) none], (C_V8_i64 left_2), [i6 b_52], [.yld Lp_14.l 0], [.fn 92 [] [.ptr 3 0, .rop [i6 r_13.1], .ptr 4 0]]], [(0, 0)]⟩) (by kernel_rfl) trivial ?_
         refine ExI.nil ?_
         refine Ex.ret ?_
         obtain rfl := sJ h
         exact ⟨_, _, Forgets.refl _ _ _, .inr rfl, _, by kernel_rfl, ⟨b_52, rfl, rfl, rfl⟩⟩
       ·refine Ex.condF _ rfl hc_43 ?_
        refine Ex.skip ?_
        refine Ex.seq (Ex.seq ?_)
        refine rg 2 [0, 2, 4, 5, 10] (mkS 36 [(0, .int .u8 begun_30), (2, i6 more_32), (4, .rop [i6 r_13.1]), (5, .ptr 4 0), (10, i6 next_31)]) ⟨[[.sl (c_1.map A_claim) none], (C_V8_i64 left_2), [i6 b_33], [.yld Lp_14.l 0], [.fn 92 [] [.ptr 3 0, .rop [i6 r_13.1], .ptr 4 0]]], [(0, 0)]⟩ ?_
        obtain ⟨K_60, hK_61, h⟩ := letE h
        refine Ex.blockJ (fun a S => ∃ (b_58 : Int), K_60 b_58 = some r ∧ a = mkS 36 [] ∧ S = ⟨[[.sl (c_1.map A_claim) none], (C_V8_i64 left_2), [i6 b_58], [.yld Lp_14.l 0], [.fn 92 [] [.ptr 3 0, .rop [i6 r_13.1], .ptr 4 0]]], [(0, 0)]⟩) ?_ ?_
        ·obtain ⟨B_65, hB_66, h⟩ := loop2I h
         refine Ex.loopF (fun k a S => ∃ (n_62 : Int), ∃ (b_63 : Int), loop2 B_65 k n_62 b_63 = some r ∧ a = mkS 36 [(0, .int .u8 begun_30), (2, i6 more_32), (4, .rop [i6 r_13.1]), (5, .ptr 4 0), (10, i6 n_62)] ∧ S = ⟨[[.sl (c_1.map A_claim) none], (C_V8_i64 left_2), [i6 b_63], [.yld Lp_14.l 0], [.fn 92 [] [.ptr 3 0, .rop [i6 r_13.1], .ptr 4 0]]], [(0, 0)]⟩) N ⟨_, _, Forgets.refl _ _ _, next_31, b_33, h, rfl, rfl⟩ ?_
         rintro k a S ⟨n_62, b_63, h, rfl, rfl⟩
         cases k with
         | zero => exact (loop2Z h).elim
         | succ k =>
          replace h := loop2S h hB_66
          refine Ex.seq (Ex.seq ?_)
          refine rg 5 [0, 2, 4, 5, 10, 22] (mkS 36 [(0, .int .u8 begun_30), (2, i6 more_32), (4, .rop [i6 r_13.1]), (5, .ptr 4 0), (10, i6 n_62), (22, .bool (decide ((IntKind.i64.wrap (n_62 + more_32)) ≤ r_13.1)))]) ⟨[[.sl (c_1.map A_claim) none], (C_V8_i64 left_2), [i6 b_63], [.yld Lp_14.l 0], [.fn 92 [] [.ptr 3 0, .rop [i6 r_13.1], .ptr 4 0]]], [(0, 0)]⟩ ?_
          rcases condI h with ⟨hc_67, h⟩ | ⟨hc_67, h⟩
          ·refine Ex.condT _ rfl hc_67 ?_
           refine Ex.skip ?_
           refine Ex.seq ?_
           refine Ex.blockK ?_
           refine Ex.seq (rg 3 [0, 2, 4, 5, 10, 11] (mkS 36 [(0, .int .u8 begun_30), (2, i6 more_32), (4, .rop [i6 r_13.1]), (5, .ptr 4 0), (10, i6 n_62), (11, .ptr 5 0)]) ⟨[[.sl (c_1.map A_claim) none], (C_V8_i64 left_2), [i6 b_63], [.yld Lp_14.l 0], [.fn 92 [] [.ptr 3 0, .rop [i6 r_13.1], .ptr 4 0]], [.int .u8 begun_30]], [(0, 0)]⟩ ?_)
           refine Ex.seq ?_
           obtain ⟨r_68, hr_68, h⟩ := bE h
           refine Ex.reg (rn 1 [0, 2, 4, 5, 10, 11, 26] (mkS 36 [(0, .int .u8 begun_30), (2, i6 more_32), (4, .rop [i6 r_13.1]), (5, .ptr 4 0), (10, i6 n_62), (11, .ptr 5 0), (26, i6 n_62)]) ⟨[[.sl (c_1.map A_claim) none], (C_V8_i64 left_2), [i6 b_63], [.yld Lp_14.l 0], [.fn 92 [] [.ptr 3 0, .rop [i6 r_13.1], .ptr 4 0]], [.int .u8 begun_30]], [(0, 0)]⟩ ?_)
           refine ExO.callL [5] [.ptr 5 0, i6 n_62] rfl rfl (by simp; try rfl) rfl (by simp) (d_set_add N begun_30 n_62 r_68 hr_68) (b_set_add _ _ _ _) (by simp) ?_
           refine rn 0 [0, 2, 4, 5, 10, 11] (mkS 36 [(0, .int .u8 begun_30), (2, i6 more_32), (4, .rop [i6 r_13.1]), (5, .ptr 4 0), (10, i6 n_62), (11, .ptr 5 0)]) ⟨[[.sl (c_1.map A_claim) none], (C_V8_i64 left_2), [i6 b_63], [.yld Lp_14.l 0], [.fn 92 [] [.ptr 3 0, .rop [i6 r_13.1], .ptr 4 0]], [.int .u8 r_68]], [(0, 0)]⟩ ?_
           refine ExO.nil ?_
           refine Ex.seq ?_
           refine Ex.regI ?_
           refine runI 6 [] [0, 2, 4, 5, 10, 28, 29, 31, 33] [] (mkS 36 [(0, .int .u8 begun_30), (2, i6 more_32), (4, .rop [i6 r_13.1]), (5, .ptr 4 0), (10, i6 n_62), (28, .fn 92 [] [.ptr 3 0, .rop [i6 r_13.1], .ptr 4 0]), (29, .int .u8 r_68), (31, i6 (IntKind.i64.wrap (n_62 + 1))), (33, i6 (IntKind.i64.wrap (more_32 - 1)))]) (⟨[[.sl (c_1.map A_claim) none], (C_V8_i64 left_2), [i6 b_63], [.yld Lp_14.l 0], [.fn 92 [] [.ptr 3 0, .rop [i6 r_13.1], .ptr 4 0]], [.int .u8 r_68]], [(0, 0)]⟩) (by kernel_rfl) trivial ?_
           obtain ⟨K_73, hK_74, h⟩ := letE h
           obtain ⟨s_69, hs_70, h⟩ := bE h
           refine ExI.forget (forgetA (m := 36) 5 [0] [(0, .int .u8 begun_30), (2, i6 more_32), (4, .rop [i6 r_13.1]), (5, .ptr 4 0), (10, i6 n_62), (28, .fn 92 [] [.ptr 3 0, .rop [i6 r_13.1], .ptr 4 0]), (29, .int .u8 r_68), (31, i6 (IntKind.i64.wrap (n_62 + 1))), (33, i6 (IntKind.i64.wrap (more_32 - 1)))] [[.sl (c_1.map A_claim) none], (C_V8_i64 left_2), [i6 b_63], [.yld Lp_14.l 0], [.fn 92 [] [.ptr 3 0, .rop [i6 r_13.1], .ptr 4 0]]] [(0, 0)] (leC hcn_26 (by simp [setAll])) (by simp) ⟨rfl, rfl, (by show re 5 [0] (.rop [i6 r_13.1]) = some (.rop [i6 r_13.1]); simp [re, re1, AV.clean, List.idxOf?, List.findIdx?, List.findIdx?.go, cleanL, cleanI, cleanBo, cleanSt, cleanII, KL_bk_Drum, KL_Fund, KL_Bill, KL_Ledger, KL_claim, KL_V8_i64, A_bk_Drum, C_bk_Drum, A_Fund, C_Fund, A_Bill, C_Bill, A_Ledger, C_Ledger, A_claim, C_claim, A_V8_i64, C_V8_i64]), rfl, rfl, (by show re 5 [0] (.fn 92 [] [.ptr 3 0, .rop [i6 r_13.1], .ptr 4 0]) = some (.fn 92 [] [.ptr 3 0, .rop [i6 r_13.1], .ptr 4 0]); simp [re, re1, AV.clean, List.idxOf?, List.findIdx?, List.findIdx?.go, cleanL, cleanI, cleanBo, cleanSt, cleanII, KL_bk_Drum, KL_Fund, KL_Bill, KL_Ledger, KL_claim, KL_V8_i64, A_bk_Drum, C_bk_Drum, A_Fund, C_Fund, A_Bill, C_Bill, A_Ledger, C_Ledger, A_claim, C_claim, A_V8_i64, C_V8_i64]), rfl, rfl, rfl, trivial⟩ (by simp) rfl (by decide) (sig0 1 hcm_27 rfl)) ?_
           refine ExI.castA (a2 := mkS 36 [(0, .int .u8 begun_30), (2, i6 more_32), (4, .rop [i6 r_13.1]), (5, .ptr 4 0), (10, i6 n_62), (28, .fn 92 [] [.ptr 3 0, .rop [i6 r_13.1], .ptr 4 0]), (29, .int .u8 r_68), (31, i6 (IntKind.i64.wrap (n_62 + 1))), (33, i6 (IntKind.i64.wrap (more_32 - 1)))]) (S2 := ⟨[[.sl (c_1.map A_claim) none], (C_V8_i64 left_2), [i6 b_63], [.yld Lp_14.l 0], [.fn 92 [] [.ptr 3 0, .rop [i6 r_13.1], .ptr 4 0]]], [(0, 0)]⟩) (by kernel_rfl) (by kernel_rfl) ?_
           refine ExI.one ?_
           refine ExO.inlY (fun v S => (∃ (b_71 : Int), b_71 = s_69 ∧ v = .bool true ∧ S = ⟨[[.sl (c_1.map A_claim) none], (C_V8_i64 left_2), [i6 b_71], [.yld Lp_14.l 0], [.fn 92 [] [.ptr 3 0, .rop [i6 r_13.1], .ptr 4 0]]], [(0, 0)]⟩)) 92 [.int .u8 r_68, i6 (IntKind.i64.wrap (n_62 + 1)), i6 (IntKind.i64.wrap (more_32 - 1)), .ptr 3 0, .rop [i6 r_13.1], .ptr 4 0] _ comp92 (leC hcn_26 (by simp [setAll])) rfl (by kernel_rfl) (mkS 36 [(0, .int .u8 r_68), (1, i6 (IntKind.i64.wrap (n_62 + 1))), (2, i6 (IntKind.i64.wrap (more_32 - 1))), (3, .ptr 3 0), (4, .rop [i6 r_13.1]), (5, .ptr 4 0), (6, .tup []), (7, .tup []), (8, .tup []), (9, .tup []), (10, .tup []), (11, .tup []), (12, .tup []), (13, .tup []), (14, .tup []), (15, .tup []), (16, .tup []), (17, .tup []), (18, .tup []), (19, .tup []), (20, .tup []), (21, .tup []), (22, .tup []), (23, .tup []), (24, .tup []), (25, .tup []), (26, .tup []), (27, .tup []), (28, .tup []), (29, .tup []), (30, .tup []), (31, .tup []), (32, .tup []), (33, .tup []), (34, .tup []), (35, .tup [])]) (by kernel_rfl) (fun c1 g1 g2 g3 => ih_39 r_68 (IntKind.i64.wrap (n_62 + 1)) (IntKind.i64.wrap (more_32 - 1)) b_63 _ hs_70 c1 g1 g2 (fun _ _ _ _ _ hq => g3 _ _ _ _ _ (hup_28 _ _ _ _ _ hq))) ?_
           rintro v S (⟨b_71, rfl, rfl, rfl⟩)
           replace h : K_73 b_71 = some r := h
           subst hK_74
           refine ExO.nil ?_
           refine runI 1 [] [0, 2, 4, 5, 10, 35] [] (mkS 36 [(0, .int .u8 begun_30), (2, i6 more_32), (4, .rop [i6 r_13.1]), (5, .ptr 4 0), (10, i6 n_62), (35, .bool false)]) (⟨[[.sl (c_1.map A_claim) none], (C_V8_i64 left_2), [i6 b_71], [.yld Lp_14.l 0], [.fn 92 [] [.ptr 3 0, .rop [i6 r_13.1], .ptr 4 0]]], [(0, 0)]⟩) (by kernel_rfl) trivial ?_
           refine ExI.nil ?_
           refine Ex.cond (b := false) rfl ?_
           refine Ex.skip ?_
           refine rg 3 [0, 2, 4, 5, 10] (mkS 36 [(0, .int .u8 begun_30), (2, i6 more_32), (4, .rop [i6 r_13.1]), (5, .ptr 4 0), (10, i6 (IntKind.i64.wrap (n_62 + 1)))]) ⟨[[.sl (c_1.map A_claim) none], (C_V8_i64 left_2), [i6 b_71], [.yld Lp_14.l 0], [.fn 92 [] [.ptr 3 0, .rop [i6 r_13.1], .ptr 4 0]]], [(0, 0)]⟩ ?_
           dsimp only
           exact ⟨_, _, Forgets.refl _ _ _, k, Nat.lt_succ_self k, (IntKind.i64.wrap (n_62 + 1)), b_71, h, rfl, rfl⟩
          ·refine Ex.condF _ rfl hc_67 ?_
           refine Ex.exit ?_
           (try simp only [reduceCtorEq, AEx.ex.injEq, Nat.reduceEqDiff, if_true, if_false])
           exact ⟨_, _, forgetK [], b_63, h, rfl, rfl⟩
        ·rintro a S ⟨b_58, h, rfl, rfl⟩
         subst hK_61
         refine Ex.seq (rg 1 [9] (mkS 36 [(9, .bool true)]) ⟨[[.sl (c_1.map A_claim) none], (C_V8_i64 left_2), [i6 b_58], [.yld Lp_14.l 0], [.fn 92 [] [.ptr 3 0, .rop [i6 r_13.1], .ptr 4 0]]], [(0, 0)]⟩ ?_)
         refine Ex.ret ?_
         obtain rfl := sJ h
         exact ⟨_, _, Forgets.refl _ _ _, .inr rfl, _, by kernel_rfl, ⟨b_58, rfl, rfl, rfl⟩⟩
     refine ExI.one ?_
     refine ExO.inlY (fun v S => (∃ (b_34 : Int), b_34 = s_41 ∧ v = .bool true ∧ S = ⟨[[.sl (c_1.map A_claim) none], (C_V8_i64 left_2), [i6 b_34], [.yld Lp_14.l 0], [.fn 92 [] [.ptr 3 0, .rop [i6 r_13.1], .ptr 4 0]]], [(0, 0)]⟩)) 92 [.int .u8 0, i6 0, i6 r_13.2, .ptr 3 0, .rop [i6 r_13.1], .ptr 4 0] _ comp92 (leC hcn_16 (by simp [setAll])) rfl (by kernel_rfl) (mkS 36 [(0, .int .u8 0), (1, i6 0), (2, i6 r_13.2), (3, .ptr 3 0), (4, .rop [i6 r_13.1]), (5, .ptr 4 0), (6, .tup []), (7, .tup []), (8, .tup []), (9, .tup []), (10, .tup []), (11, .tup []), (12, .tup []), (13, .tup []), (14, .tup []), (15, .tup []), (16, .tup []), (17, .tup []), (18, .tup []), (19, .tup []), (20, .tup []), (21, .tup []), (22, .tup []), (23, .tup []), (24, .tup []), (25, .tup []), (26, .tup []), (27, .tup []), (28, .tup []), (29, .tup []), (30, .tup []), (31, .tup []), (32, .tup []), (33, .tup []), (34, .tup []), (35, .tup [])]) (by kernel_rfl) (fun c1 g1 g2 g3 => hY_40 N 0 0 r_13.2 b_8 _ hs_42 c1 g1 g2 g3) ?_
     rintro v S (⟨b_34, rfl, rfl, rfl⟩)
     replace h : K_76 b_34 = some r := h
     subst hK_77
     refine ExO.nil ?_
     refine runI 0 [] [] [] (mkS 9 []) (⟨[[.sl (c_1.map A_claim) none], (C_V8_i64 left_2), [i6 b_34], [.yld Lp_14.l 0], [.fn 92 [] [.ptr 3 0, .rop [i6 r_13.1], .ptr 4 0]]], [(0, 0)]⟩) (by kernel_rfl) trivial ?_
     refine ExI.nil ?_
     exact ⟨_, _, forgetA (m := 9) 3 [0] [] [[.sl (c_1.map A_claim) none], (C_V8_i64 left_2), [i6 b_34]] [(0, 0)] (leC hcn_16 (by simp [setAll])) (by simp) trivial (by simp) rfl (by decide) (sig0 1 hcm_17 rfl), .inl rfl, 0, rfl, ⟨by first | rfl | trivial, b_34, h, rfl⟩⟩
    ·rintro k S (⟨rfl, b_21, h, rfl⟩)
     subst hK_24
     refine rg 2 [2, 3, 4, 5, 10, 11] (mkS 27 [(2, .ptr 0 0), (3, .ptr 1 0), (4, i6 0), (5, .ptr 2 0), (10, i6 (IntKind.i64.wrap (((c_1.length : Nat) : Int) + 1))), (11, i6 (IntKind.i64.wrap (y_7 + 1)))]) ⟨[[.sl (c_1.map A_claim) none], (C_V8_i64 left_2), [i6 b_21]], [(0, 0)]⟩ ?_
     dsimp only
     exact ⟨_, _, forgetA (m := 27) 3 [] [(2, .ptr 0 0), (3, .ptr 1 0), (4, i6 0), (5, .ptr 2 0), (10, i6 (IntKind.i64.wrap (((c_1.length : Nat) : Int) + 1))), (11, i6 (IntKind.i64.wrap (y_7 + 1)))] [[.sl (c_1.map A_claim) none], (C_V8_i64 left_2), [i6 b_21]] [] (by simp [setAll]) (by simp) ⟨rfl, rfl, rfl, rfl, rfl, rfl, trivial⟩ (by simp) rfl (by decide), k, Nat.lt_succ_self k, (IntKind.i64.wrap (y_7 + 1)), b_21, h, rfl, rfl⟩
   ·refine Ex.condF _ rfl hc_12 ?_
    refine Ex.exit ?_
    (try simp only [reduceCtorEq, AEx.ex.injEq, Nat.reduceEqDiff, if_true, if_false])
    exact ⟨_, _, forgetK [5], b_8, h, rfl, rfl⟩
 ·rintro a S ⟨b_3, h, rfl, rfl⟩
  subst hK_6
  refine Ex.seq (rg 2 [4] (mkS 27 [(4, i6 b_3)]) ⟨[[.sl (c_1.map A_claim) none], (C_V8_i64 left_2), [i6 b_3]], []⟩ ?_)
  refine Ex.ret ?_
  obtain rfl := sJ h
  exact rt (i6 b_3)
def p_purse_with (N : Nat) (p_1 : T_V8_i64) (fund_2 : Int) (coins_3 : Int) : Option (T_V8_i64) := ((idxI fund_2 8).bind fun u_4 => ((some (T_V8_i64.ofl (p_1.l.set (Int.toNat fund_2) coins_3))).bind fun z_5 => some z_5))
def v_purse_with (r : T_V8_i64) : AV := (A_V8_i64 r)
attribute [local simp] v_purse_with
theorem a_purse_with (p_1 : T_V8_i64) (fund_2 : Int) (coins_3 : Int) : [(A_V8_i64 p_1), i6 fund_2, i6 coins_3].mapM (ren []) = some [(A_V8_i64 p_1), i6 fund_2, i6 coins_3] := by simp
theorem b_purse_with (r : T_V8_i64) (n n2 m : Nat) : back n n2 m (v_purse_with r) = some (v_purse_with r) := by simp
theorem d_purse_with (N : Nat) (p_1 : T_V8_i64) (fund_2 : Int) (coins_3 : Int) (r : T_V8_i64) (h : p_purse_with N p_1 fund_2 coins_3 = some r) : Does Try.prog 52 [(A_V8_i64 p_1), i6 fund_2, i6 coins_3] [] fun v c => v = v_purse_with r ∧ c = [] := by
 unfold p_purse_with at h
 refine Does.ofL comp52 _ _ rfl rfl ?_
 refine Ex.seq (rg 2 [1, 2, 3, 6] (mkS 11 [(1, i6 fund_2), (2, i6 coins_3), (3, .ptr 0 0), (6, .ptr 1 0)]) ⟨[(C_V8_i64 p_1), [i6 0, i6 0, i6 0, i6 0, i6 0, i6 0, i6 0, i6 0]], []⟩ ?_)
 refine Ex.seq ?_
 obtain ⟨u_4, hu_4, h⟩ := bE h
 obtain ⟨z_5, hz_5, h⟩ := bE h
 refine regH 4 [(2, .adr), (3, .st (C_V8_i64 z_5))] [3, 6] [0 ≤ fund_2 ∧ fund_2 < ((8 : Nat) : Int), 0 + Int.toNat fund_2 * 1 + 1 ≤ ((C_V8_i64 p_1)).length ∧ layAt (C_V8_i64 p_1) (0 + Int.toNat fund_2 * 1) [i6 coins_3] = (C_V8_i64 z_5)] (mkS 11 [(3, .ptr 0 0), (6, .ptr 1 0)]) (⟨[(C_V8_i64 z_5), [i6 0, i6 0, i6 0, i6 0, i6 0, i6 0, i6 0, i6 0]], []⟩) (by kernel_rfl) ⟨idxI.of hu_4, (by obtain rfl := Option.some.inj hz_5; exact stArr p_1.l _ (C_V8_i64 p_1) _ 0 8 fund_2 coins_3 (fun _ => rfl) (by kernel_rfl) (by kernel_rfl) rfl (T_V8_i64.l_ofl _ (by simp [T_V8_i64.l])) hu_4 (by kernel_rfl) (by kernel_rfl)), trivial⟩ rfl ?_
 refine Ex.seq (rg 2 [6] (mkS 11 [(6, .ptr 1 0)]) ⟨[(C_V8_i64 z_5), (C_V8_i64 z_5)], []⟩ ?_)
 refine Ex.ret ?_
 obtain rfl := sJ h
 exact rt ((A_V8_i64 z_5))
def p_claims_payFirst (N : Nat) (c_1 : (List T_claim)) (left_2 : T_V8_i64) : Option (T_V8_i64 × T_V8_i64) := ((getI c_1 0).bind fun x_3 => ((partI c_1 1 ((c_1.length : Nat) : Int)).bind fun l_4 => ((getI c_1 0).bind fun x_5 => ((p_set_numbers N x_5.payers_).bind fun r_6 => (letJ (fun (z_14 : T_V8_i64) (z_15 : T_V8_i64) (b_16 : Int) => some (z_15, z_14)) (fun k_17 => (letJ (fun (z_20 : T_V8_i64) (z_21 : T_V8_i64) (b_22 : Int) => (k_17 z_20 z_21 b_22)) (fun k_23 => (loop4 (fun rec_30 (rest_26 : Int) (z_27 : T_V8_i64) (z_28 : T_V8_i64) (b_29 : Int) => (bif (rest_26 != 0) then ((p_math_bits_TrailingZeros8 N rest_26).bind fun r_34 => (letJ (fun (z_43 : T_V8_i64) (z_44 : T_V8_i64) (b_45 : Int) => ((some (IntKind.u8.wrap (((BitVec.ofInt (IntKind.bits .u8) rest_26 &&& BitVec.ofInt (IntKind.bits .u8) (IntKind.u8.wrap (rest_26 - 1))).toNat : Nat) : Int))).bind fun n_60 => (rec_30 n_60 z_43 z_44 b_45))) (fun k_46 => ((p_purse_with N z_27 r_34 0).bind fun r_49 => ((p_claims_missing N l_4 r_49).bind fun r_51 => ((idxI r_34 8).bind fun u_52 => ((z_27.l[Int.toNat r_34]?).bind fun x_53 => ((some (IntKind.i64.wrap (b_29 - (if (IntKind.i64.wrap (x_53 - r_51)) < b_29 then (IntKind.i64.wrap (x_53 - r_51)) else b_29)))).bind fun n_54 => ((p_purse_with N z_28 r_34 (if (IntKind.i64.wrap (x_53 - r_51)) < b_29 then (IntKind.i64.wrap (x_53 - r_51)) else b_29)).bind fun r_55 => ((idxI r_34 8).bind fun u_56 => ((z_27.l[Int.toNat r_34]?).bind fun x_57 => ((some (IntKind.i64.wrap (x_57 - (if (IntKind.i64.wrap (x_53 - r_51)) < b_29 then (IntKind.i64.wrap (x_53 - r_51)) else b_29)))).bind fun n_58 => ((p_purse_with N z_27 r_34 n_58).bind fun r_59 => (k_46 r_59 r_55 n_54)))))))))))))) else (k_23 z_27 z_28 b_29))) N r_6 left_2 (⟨0, 0, 0, 0, 0, 0, 0, 0⟩ : T_V8_i64) x_3.amount_)))))))))
def v_claims_payFirst (r : T_V8_i64 × T_V8_i64) : AV := .tup [(A_V8_i64 r.1), (A_V8_i64 r.2)]
attribute [local simp] v_claims_payFirst
theorem b_claims_payFirst (r : T_V8_i64 × T_V8_i64) (n n2 m : Nat) : back n n2 m (v_claims_payFirst r) = some (v_claims_payFirst r) := by simp
theorem d_claims_payFirst (N : Nat) (c_1 : (List T_claim)) (left_2 : T_V8_i64) (r : T_V8_i64 × T_V8_i64) (h : p_claims_payFirst N c_1 left_2 = some r) : Does Try.prog 41 [.sl (c_1.map A_claim) none, (A_V8_i64 left_2)] [] fun v c => v = v_claims_payFirst r ∧ c = [] := by
 unfold p_claims_payFirst at h
 refine Does.ofL comp41 _ _ rfl rfl ?_
 refine Ex.seq (rg 3 [0, 3, 4, 5] (mkS 52 [(0, .sl (c_1.map A_claim) none), (3, .ptr 0 0), (4, .ptr 1 0), (5, .ptr 2 0)]) ⟨[(C_V8_i64 left_2), [i6 0, i6 0, i6 0, i6 0, i6 0, i6 0, i6 0, i6 0], [i6 0, i6 0, i6 0, i6 0, i6 0, i6 0, i6 0, i6 0]], []⟩ ?_)
 refine Ex.seq ?_
 obtain ⟨x_3, hx_3, h⟩ := bE h
 obtain ⟨l_4, hl_4, h⟩ := bE h
 refine Ex.drawE (a1 := mkS 52 [(0, .sl (c_1.map A_claim) none), (3, .ptr 0 0), (4, .ptr 1 0), (5, .ptr 2 0), (6, .ptr 3 0), (7, .ptr 4 0), (11, .sl (c_1.map A_claim) none), (12, .rop (C_claim x_3)), (13, .rop (C_claim x_3)), (14, i6 x_3.amount_), (15, .sl (c_1.map A_claim) none), (16, .sl (l_4.map A_claim) none)]) (noClr_ok _) [[i6 0], [.nils]] [] [⟨[(C_V8_i64 left_2), [i6 0, i6 0, i6 0, i6 0, i6 0, i6 0, i6 0, i6 0], [i6 0, i6 0, i6 0, i6 0, i6 0, i6 0, i6 0, i6 0], [i6 x_3.amount_], [.nils]], []⟩] ?_ ?_
 ·refine drS [0, 1, 2, 4] 6 [(1, .rop (C_claim x_3)), (5, .sc (l_4.map A_claim))] [LGet (c_1.map A_claim) 0 2 (C_claim x_3), LSlc (c_1.map A_claim) (some 1) none 2 (l_4.map A_claim)] (mkS 52 [(0, .sl (c_1.map A_claim) none), (3, .ptr 0 0), (4, .ptr 1 0), (5, .ptr 2 0), (11, .sl (c_1.map A_claim) none), (12, .rop (C_claim x_3)), (13, .rop (C_claim x_3)), (14, i6 x_3.amount_), (15, .sl (c_1.map A_claim) none), (16, .sl (l_4.map A_claim) none)]) (by simp) (by kernel_rfl) ⟨LGet.of hx_3 rfl, partI.ofL (f := A_claim) (fun _ => rfl) hl_4, trivial⟩ (by kernel_rfl) ?_
  refine drXL 3 [i6 0] 6 rfl rfl (fun _ => by kernel_rfl) (by simp) (by simp) rfl (by kernel_rfl) rfl rfl ?_
  refine drX 4 [.nils] rfl rfl (fun _ => by kernel_rfl) (by simp) rfl rfl ?_
  refine drE none none (.tup []) _ _ rfl rfl rfl rfl rfl (by kernel_rfl) trivial ?_
  exact DrO.nil rfl
 ·dsimp only [List.getLastD_cons, List.getLastD_nil]
  refine rn 1 [0, 3, 4, 5, 6, 7] (mkS 52 [(0, .sl (c_1.map A_claim) none), (3, .ptr 0 0), (4, .ptr 1 0), (5, .ptr 2 0), (6, .ptr 3 0), (7, .ptr 4 0)]) ⟨[(C_V8_i64 left_2), [i6 0, i6 0, i6 0, i6 0, i6 0, i6 0, i6 0, i6 0], [i6 0, i6 0, i6 0, i6 0, i6 0, i6 0, i6 0, i6 0], [i6 x_3.amount_], [.sl (l_4.map A_claim) none]], []⟩ ?_
  refine ExO.nil ?_
  refine Ex.seq (Ex.seq ?_)
  obtain ⟨x_5, hx_5, h⟩ := bE h
  obtain ⟨r_6, hr_6, h⟩ := bE h
  refine Ex.reg ?_
  refine runH 4 [(1, .rop (C_claim x_5))] [3, 4, 5, 6, 7, 20] [LGet (c_1.map A_claim) 0 2 (C_claim x_5)] (mkS 52 [(3, .ptr 0 0), (4, .ptr 1 0), (5, .ptr 2 0), (6, .ptr 3 0), (7, .ptr 4 0), (20, .int .u8 x_5.payers_)]) (⟨[(C_V8_i64 left_2), [i6 0, i6 0, i6 0, i6 0, i6 0, i6 0, i6 0, i6 0], [i6 0, i6 0, i6 0, i6 0, i6 0, i6 0, i6 0, i6 0], [i6 x_3.amount_], [.sl (l_4.map A_claim) none]], []⟩) (by kernel_rfl) ⟨LGet.of hx_5 rfl, trivial⟩ ?_
  refine ExO.callL [] [.int .u8 x_5.payers_] rfl rfl (a_set_numbers x_5.payers_) rfl rfl (d_set_numbers N x_5.payers_ r_6 hr_6) (b_set_numbers _ _ _ _) rfl ?_
  refine rn 0 [3, 4, 5, 6, 7, 21] (mkS 52 [(3, .ptr 0 0), (4, .ptr 1 0), (5, .ptr 2 0), (6, .ptr 3 0), (7, .ptr 4 0), (21, .fn 74 [] [.rop [.int .u8 r_6]])]) ⟨[(C_V8_i64 left_2), [i6 0, i6 0, i6 0, i6 0, i6 0, i6 0, i6 0, i6 0], [i6 0, i6 0, i6 0, i6 0, i6 0, i6 0, i6 0, i6 0], [i6 x_3.amount_], [.sl (l_4.map A_claim) none]], []⟩ ?_
  refine ExO.nil ?_
  refine Ex.blockK ?_
  obtain ⟨K_18, hK_19, h⟩ := letE h
  refine Ex.rangeJ (fun k S => (k = 0 ∧ ∃ (z_14 : T_V8_i64), ∃ (z_15 : T_V8_i64), ∃ (b_16 : Int), K_18 z_14 z_15 b_16 = some r ∧ S = ⟨[(C_V8_i64 z_14), (C_V8_i64 z_15), [i6 0, i6 0, i6 0, i6 0, i6 0, i6 0, i6 0, i6 0], [i6 b_16], [.sl (l_4.map A_claim) none]], [(0, 0)]⟩)) 74 [.rop [.int .u8 r_6]] _ rfl comp74 rfl (by simp [setAll]) (by exact trivial) (mkS 16 [(1, .rop [.int .u8 r_6]), (2, .tup []), (3, .tup []), (4, .tup []), (5, .tup []), (6, .tup []), (7, .tup []), (8, .tup []), (9, .tup []), (10, .tup []), (11, .tup []), (12, .tup []), (13, .tup []), (14, .tup []), (15, .tup [])]) (⟨[(C_V8_i64 left_2), [i6 0, i6 0, i6 0, i6 0, i6 0, i6 0, i6 0, i6 0], [i6 0, i6 0, i6 0, i6 0, i6 0, i6 0, i6 0, i6 0], [i6 x_3.amount_], [.sl (l_4.map A_claim) none]], [(0, 0)]⟩) (fun _ => by kernel_rfl) (by kernel_rfl) ?_ ?_
  ·intro cx_8 Lp_7 hcn_9 hcm_10 hLt_11 hL_12 hup_13
   refine Ex.castA (a2 := mkS 16 [(0, .yld Lp_7.l 0), (1, .rop [.int .u8 r_6]), (2, .tup []), (3, .tup []), (4, .tup []), (5, .tup []), (6, .tup []), (7, .tup []), (8, .tup []), (9, .tup []), (10, .tup []), (11, .tup []), (12, .tup []), (13, .tup []), (14, .tup []), (15, .tup [])]) (S2 := ⟨[(C_V8_i64 left_2), [i6 0, i6 0, i6 0, i6 0, i6 0, i6 0, i6 0, i6 0], [i6 0, i6 0, i6 0, i6 0, i6 0, i6 0, i6 0, i6 0], [i6 x_3.amount_], [.sl (l_4.map A_claim) none]], [(0, 0)]⟩) (by kernel_rfl) rfl ?_
   refine Ex.seq (rg 2 [0, 3] (mkS 16 [(0, .yld Lp_7.l 0), (3, .int .u8 r_6)]) ⟨[(C_V8_i64 left_2), [i6 0, i6 0, i6 0, i6 0, i6 0, i6 0, i6 0, i6 0], [i6 0, i6 0, i6 0, i6 0, i6 0, i6 0, i6 0, i6 0], [i6 x_3.amount_], [.sl (l_4.map A_claim) none]], [(0, 0)]⟩ ?_)
   obtain ⟨K_24, hK_25, h⟩ := letE h
   refine Ex.blockJ (fun a S => ∃ (z_20 : T_V8_i64), ∃ (z_21 : T_V8_i64), ∃ (b_22 : Int), K_24 z_20 z_21 b_22 = some r ∧ a = mkS 16 [] ∧ S = ⟨[(C_V8_i64 z_20), (C_V8_i64 z_21), [i6 0, i6 0, i6 0, i6 0, i6 0, i6 0, i6 0, i6 0], [i6 b_22], [.sl (l_4.map A_claim) none]], [(0, 0)]⟩) ?_ ?_
   ·obtain ⟨B_31, hB_32, h⟩ := loop4I h
    refine Ex.loopF (fun k a S => ∃ (rest_26 : Int), ∃ (z_27 : T_V8_i64), ∃ (z_28 : T_V8_i64), ∃ (b_29 : Int), loop4 B_31 k rest_26 z_27 z_28 b_29 = some r ∧ a = mkS 16 [(0, .yld Lp_7.l 0), (3, .int .u8 rest_26)] ∧ S = ⟨[(C_V8_i64 z_27), (C_V8_i64 z_28), [i6 0, i6 0, i6 0, i6 0, i6 0, i6 0, i6 0, i6 0], [i6 b_29], [.sl (l_4.map A_claim) none]], [(0, 0)]⟩) N ⟨_, _, Forgets.refl _ _ _, r_6, left_2, (⟨0, 0, 0, 0, 0, 0, 0, 0⟩ : T_V8_i64), x_3.amount_, h, rfl, rfl⟩ ?_
    rintro k a S ⟨rest_26, z_27, z_28, b_29, h, rfl, rfl⟩
    cases k with
    | zero => exact (loop4Z h).elim
    | succ k =>
     replace h := loop4S h hB_32
     refine Ex.seq (Ex.seq ?_)
     refine rg 2 [0, 3, 6] (mkS 16 [(0, .yld Lp_7.l 0), (3, .int .u8 rest_26), (6, .bool (rest_26 != 0))]) ⟨[(C_V8_i64 z_27), (C_V8_i64 z_28), [i6 0, i6 0, i6 0, i6 0, i6 0, i6 0, i6 0, i6 0], [i6 b_29], [.sl (l_4.map A_claim) none]], [(0, 0)]⟩ ?_
     rcases condI h with ⟨hc_33, h⟩ | ⟨hc_33, h⟩
     ·refine Ex.condT _ rfl hc_33 ?_
      refine Ex.skip ?_
      refine Ex.seq ?_
      refine Ex.blockK ?_
      refine Ex.seq ?_
      obtain ⟨r_34, hr_34, h⟩ := bE h
      refine Ex.regI ?_
      refine runI 2 [] [0, 3, 11, 12] [] (mkS 16 [(0, .yld Lp_7.l 0), (3, .int .u8 rest_26), (11, .yld Lp_7.l 0), (12, .int .u8 rest_26)]) (⟨[(C_V8_i64 z_27), (C_V8_i64 z_28), [i6 0, i6 0, i6 0, i6 0, i6 0, i6 0, i6 0, i6 0], [i6 b_29], [.sl (l_4.map A_claim) none]], [(0, 0)]⟩) (by kernel_rfl) trivial ?_
      refine ExI.one ?_
      refine ExO.callL [] [.int .u8 rest_26] rfl rfl (a_math_bits_TrailingZeros8 rest_26) rfl rfl (d_math_bits_TrailingZeros8 N rest_26 r_34 hr_34) (b_math_bits_TrailingZeros8 _ _ _ _) rfl ?_
      refine ExO.nil ?_
      obtain ⟨K_47, hK_48, h⟩ := letE h
      refine ExI.yieldT 0 hLt_11 hL_12 [i6 r_34] rfl rfl rfl (by kernel_rfl) rfl rfl (leC hcn_9 (by simp [setAll])) ?_
      intro ca_35 cb_36 ha_37 hb_38 hma_39 hmb_40 hup_41 hbz_42
      refine Ex.castA (a2 := mkS 52 [(3, .ptr 0 0), (4, .ptr 1 0), (5, .ptr 2 0), (6, .ptr 3 0), (7, .ptr 4 0), (21, .fn 74 [] [.rop [.int .u8 r_6]]), (22, i6 r_34)]) (S2 := ⟨[(C_V8_i64 z_27), (C_V8_i64 z_28), [i6 0, i6 0, i6 0, i6 0, i6 0, i6 0, i6 0, i6 0], [i6 b_29], [.sl (l_4.map A_claim) none]], [(0, 0)]⟩) (by kernel_rfl) (by kernel_rfl) ?_
      refine Ex.two (fun z S => (z = AEx.norm ∧ ∃ (z_43 : T_V8_i64), ∃ (z_44 : T_V8_i64), ∃ (b_45 : Int), K_47 z_43 z_44 b_45 = some r ∧ S = ⟨[(C_V8_i64 z_43), (C_V8_i64 z_44), [i6 0, i6 0, i6 0, i6 0, i6 0, i6 0, i6 0, i6 0], [i6 b_45], [.sl (l_4.map A_claim) none]], [(0, 0)]⟩)) ?_ ?_
      ·refine rg 1 [3, 4, 6, 7, 8] (mkS 52 [(3, .ptr 0 0), (4, .ptr 1 0), (6, .ptr 3 0), (7, .ptr 4 0), (8, i6 r_34)]) ⟨[(C_V8_i64 z_27), (C_V8_i64 z_28), [i6 0, i6 0, i6 0, i6 0, i6 0, i6 0, i6 0, i6 0], [i6 b_29], [.sl (l_4.map A_claim) none]], [(0, 0)]⟩ ?_
       refine ⟨rfl, rfl, ?_⟩
       refine Ex.blockK ?_
       refine Ex.seq ?_
       obtain ⟨r_49, hr_49, h⟩ := bE h
       have hT_50 : DoesA Try.prog [⟨52, [(A_V8_i64 z_27), i6 r_34, i6 0], [], (v_purse_with r_49), []⟩] ∧ ConsA [⟨52, [(A_V8_i64 z_27), i6 r_34, i6 0], [], (v_purse_with r_49), []⟩] := ⟨⟨(d_purse_with N z_27 r_34 0 r_49 hr_49), rfl, trivial⟩, ⟨trivial, trivial⟩⟩
       refine Ex.drawE (a1 := mkS 52 [(3, .ptr 0 0), (4, .ptr 1 0), (6, .ptr 3 0), (7, .ptr 4 0), (8, i6 r_34), (23, .sl (l_4.map A_claim) none), (24, (A_V8_i64 z_27)), (25, i6 r_34), (26, (A_V8_i64 r_49))]) (tabO_ok hT_50.1) [] [] [] ?_ ?_
       ·refine drS [0, 1, 2, 3, 4] 3 [] [] (mkS 52 [(3, .ptr 0 0), (4, .ptr 1 0), (6, .ptr 3 0), (7, .ptr 4 0), (8, i6 r_34), (23, .sl (l_4.map A_claim) none), (24, (A_V8_i64 z_27)), (25, i6 r_34)]) (by simp) (by kernel_rfl) trivial (by kernel_rfl) ?_
        refine drC hT_50.2 0 _ [(A_V8_i64 z_27), i6 r_34, i6 0] (v_purse_with r_49) rfl rfl rfl rfl rfl (fun _ => rfl) rfl (by simp; try rfl) (fun _ => b_purse_with _ _ _ _) ?_
        exact DrO.nil rfl
       ·dsimp only [List.getLastD_cons, List.getLastD_nil]
        obtain ⟨r_51, hr_51, h⟩ := bE h
        refine ExO.callL [] [.sl (l_4.map A_claim) none, (A_V8_i64 r_49)] rfl rfl (a_claims_missing l_4 r_49) rfl rfl (d_claims_missing N l_4 r_49 r_51 hr_51) (b_claims_missing _ _ _ _) rfl ?_
        refine rn 1 [3, 4, 6, 8, 9] (mkS 52 [(3, .ptr 0 0), (4, .ptr 1 0), (6, .ptr 3 0), (8, i6 r_34), (9, i6 r_51)]) ⟨[(C_V8_i64 z_27), (C_V8_i64 z_28), [i6 0, i6 0, i6 0, i6 0, i6 0, i6 0, i6 0, i6 0], [i6 b_29], [.sl (l_4.map A_claim) none]], [(0, 0)]⟩ ?_
        refine ExO.nil ?_
        refine Ex.seq ?_
        obtain ⟨u_52, hu_52, h⟩ := bE h
        obtain ⟨x_53, hx_53, h⟩ := bE h
        refine Ex.drawE (a1 := mkS 52 [(3, .ptr 0 0), (4, .ptr 1 0), (6, .ptr 3 0), (8, i6 r_34), (9, i6 r_51), (28, i6 b_29), (29, i6 r_34), (30, .ptr 0 (0 + Int.toNat r_34 * 1)), (31, i6 x_53), (32, i6 r_51), (33, i6 (IntKind.i64.wrap (x_53 - r_51)))]) (noClr_ok _) [] [] [] ?_ ?_
        ·refine drS [0, 1, 2, 3, 4] 6 [(2, .adr), (3, .ld (i6 x_53))] [0 ≤ r_34 ∧ r_34 < ((8 : Nat) : Int), takeCells (C_V8_i64 z_27) (0 + Int.toNat r_34 * 1) none = some (i6 x_53)] (mkS 52 [(3, .ptr 0 0), (4, .ptr 1 0), (6, .ptr 3 0), (8, i6 r_34), (9, i6 r_51), (28, i6 b_29), (29, i6 r_34), (30, .ptr 0 (0 + Int.toNat r_34 * 1)), (31, i6 x_53), (32, i6 r_51), (33, i6 (IntKind.i64.wrap (x_53 - r_51)))]) (by simp) (by kernel_rfl) ⟨idxI.of hu_52, ldArr (f := (AV.int .i64)) z_27.l (C_V8_i64 z_27) 0 0 8 r_34 x_53 (i6 x_53) (fun _ => rfl) (by kernel_rfl) rfl hu_52 hx_53 rfl, trivial⟩ (by kernel_rfl) ?_
         exact DrO.nil rfl
        ·dsimp only [List.getLastD_cons, List.getLastD_nil]
         refine rn 2 [3, 4, 6, 8, 10] (mkS 52 [(3, .ptr 0 0), (4, .ptr 1 0), (6, .ptr 3 0), (8, i6 r_34), (10, i6 (if (IntKind.i64.wrap (x_53 - r_51)) < b_29 then (IntKind.i64.wrap (x_53 - r_51)) else b_29))]) ⟨[(C_V8_i64 z_27), (C_V8_i64 z_28), [i6 0, i6 0, i6 0, i6 0, i6 0, i6 0, i6 0, i6 0], [i6 b_29], [.sl (l_4.map A_claim) none]], [(0, 0)]⟩ ?_
         refine ExO.nil ?_
         refine Ex.seq ?_
         obtain ⟨n_54, hn_54, h⟩ := bE h
         refine regH 4 [(2, .eq (i6 n_54))] [3, 4, 8, 10] [AV.int .i64 (IntKind.i64.wrap (b_29 - (if (IntKind.i64.wrap (x_53 - r_51)) < b_29 then (IntKind.i64.wrap (x_53 - r_51)) else b_29))) = AV.int .i64 n_54] (mkS 52 [(3, .ptr 0 0), (4, .ptr 1 0), (8, i6 r_34), (10, i6 (if (IntKind.i64.wrap (x_53 - r_51)) < b_29 then (IntKind.i64.wrap (x_53 - r_51)) else b_29))]) (⟨[(C_V8_i64 z_27), (C_V8_i64 z_28), [i6 0, i6 0, i6 0, i6 0, i6 0, i6 0, i6 0, i6 0], [i6 n_54], [.sl (l_4.map A_claim) none]], [(0, 0)]⟩) (by kernel_rfl) ⟨congrArg (AV.int .i64) (Option.some.inj hn_54), trivial⟩ rfl ?_
         refine Ex.seq ?_
         obtain ⟨r_55, hr_55, h⟩ := bE h
         refine Ex.reg (rn 3 [3, 4, 8, 10, 38, 39, 40] (mkS 52 [(3, .ptr 0 0), (4, .ptr 1 0), (8, i6 r_34), (10, i6 (if (IntKind.i64.wrap (x_53 - r_51)) < b_29 then (IntKind.i64.wrap (x_53 - r_51)) else b_29)), (38, (A_V8_i64 z_28)), (39, i6 r_34), (40, i6 (if (IntKind.i64.wrap (x_53 - r_51)) < b_29 then (IntKind.i64.wrap (x_53 - r_51)) else b_29))]) ⟨[(C_V8_i64 z_27), (C_V8_i64 z_28), [i6 0, i6 0, i6 0, i6 0, i6 0, i6 0, i6 0, i6 0], [i6 n_54], [.sl (l_4.map A_claim) none]], [(0, 0)]⟩ ?_)
         refine ExO.callL [] [(A_V8_i64 z_28), i6 r_34, i6 (if (IntKind.i64.wrap (x_53 - r_51)) < b_29 then (IntKind.i64.wrap (x_53 - r_51)) else b_29)] rfl rfl (a_purse_with z_28 r_34 (if (IntKind.i64.wrap (x_53 - r_51)) < b_29 then (IntKind.i64.wrap (x_53 - r_51)) else b_29)) rfl rfl (d_purse_with N z_28 r_34 (if (IntKind.i64.wrap (x_53 - r_51)) < b_29 then (IntKind.i64.wrap (x_53 - r_51)) else b_29) r_55 hr_55) (b_purse_with _ _ _ _) rfl ?_
         refine rn 1 [3, 8, 10] (mkS 52 [(3, .ptr 0 0), (8, i6 r_34), (10, i6 (if (IntKind.i64.wrap (x_53 - r_51)) < b_29 then (IntKind.i64.wrap (x_53 - r_51)) else b_29))]) ⟨[(C_V8_i64 z_27), (C_V8_i64 r_55), [i6 0, i6 0, i6 0, i6 0, i6 0, i6 0, i6 0, i6 0], [i6 n_54], [.sl (l_4.map A_claim) none]], [(0, 0)]⟩ ?_
         refine ExO.nil ?_
         obtain ⟨u_56, hu_56, h⟩ := bE h
         obtain ⟨x_57, hx_57, h⟩ := bE h
         obtain ⟨n_58, hn_58, h⟩ := bE h
         refine Ex.drawE (a1 := mkS 52 [(3, .ptr 0 0), (8, i6 r_34), (10, i6 (if (IntKind.i64.wrap (x_53 - r_51)) < b_29 then (IntKind.i64.wrap (x_53 - r_51)) else b_29)), (42, (A_V8_i64 z_27)), (43, i6 r_34), (44, i6 r_34), (45, .ptr 0 (0 + Int.toNat r_34 * 1)), (46, i6 x_57), (47, i6 (if (IntKind.i64.wrap (x_53 - r_51)) < b_29 then (IntKind.i64.wrap (x_53 - r_51)) else b_29)), (48, i6 n_58)]) (noClr_ok _) [] [] [] ?_ ?_
         ·refine drS [0, 1, 2, 3, 4] 7 [(3, .adr), (4, .ld (i6 x_57)), (6, .eq (i6 n_58))] [0 ≤ r_34 ∧ r_34 < ((8 : Nat) : Int), takeCells (C_V8_i64 z_27) (0 + Int.toNat r_34 * 1) none = some (i6 x_57), AV.int .i64 (IntKind.i64.wrap (x_57 - (if (IntKind.i64.wrap (x_53 - r_51)) < b_29 then (IntKind.i64.wrap (x_53 - r_51)) else b_29))) = AV.int .i64 n_58] (mkS 52 [(3, .ptr 0 0), (8, i6 r_34), (10, i6 (if (IntKind.i64.wrap (x_53 - r_51)) < b_29 then (IntKind.i64.wrap (x_53 - r_51)) else b_29)), (42, (A_V8_i64 z_27)), (43, i6 r_34), (44, i6 r_34), (45, .ptr 0 (0 + Int.toNat r_34 * 1)), (46, i6 x_57), (47, i6 (if (IntKind.i64.wrap (x_53 - r_51)) < b_29 then (IntKind.i64.wrap (x_53 - r_51)) else b_29)), (48, i6 n_58)]) (by simp) (by kernel_rfl) ⟨idxI.of hu_56, ldArr (f := (AV.int .i64)) z_27.l (C_V8_i64 z_27) 0 0 8 r_34 x_57 (i6 x_57) (fun _ => rfl) (by kernel_rfl) rfl hu_56 hx_57 rfl, congrArg (AV.int .i64) (Option.some.inj hn_58), trivial⟩ (by kernel_rfl) ?_
          exact DrO.nil rfl
         ·dsimp only [List.getLastD_cons, List.getLastD_nil]
          obtain ⟨r_59, hr_59, h⟩ := bE h
          refine ExO.callL [] [(A_V8_i64 z_27), i6 r_34, i6 n_58] rfl rfl (a_purse_with z_27 r_34 n_58) rfl rfl (d_purse_with N z_27 r_34 n_58 r_59 hr_59) (b_purse_with _ _ _ _) rfl ?_
          refine rn 1 [] (mkS 52 []) ⟨[(C_V8_i64 r_59), (C_V8_i64 r_55), [i6 0, i6 0, i6 0, i6 0, i6 0, i6 0, i6 0, i6 0], [i6 n_54], [.sl (l_4.map A_claim) none]], [(0, 0)]⟩ ?_
          refine ExO.nil ?_
          (try simp only [reduceCtorEq, AEx.ex.injEq, Nat.reduceEqDiff, if_true, if_false])
          exact ⟨_, _, Forgets.refl _ _ _, ⟨by first | rfl | trivial, r_59, r_55, n_54, h, rfl⟩⟩
      ·rintro z a2 S (⟨rfl, z_43, z_44, b_45, h, rfl⟩)
       subst hK_48
       refine runI 1 [] [0, 3, 15] [] (mkS 16 [(0, .yld Lp_7.l 0), (3, .int .u8 rest_26), (15, .bool false)]) (⟨[(C_V8_i64 z_43), (C_V8_i64 z_44), [i6 0, i6 0, i6 0, i6 0, i6 0, i6 0, i6 0, i6 0], [i6 b_45], [.sl (l_4.map A_claim) none]], [(0, 0)]⟩) (by kernel_rfl) trivial ?_
       refine ExI.nil ?_
       refine Ex.cond (b := false) rfl ?_
       refine Ex.skip ?_
       obtain ⟨n_60, hn_60, h⟩ := bE h
       refine regH 5 [(3, .eq (.int .u8 n_60))] [0, 3] [AV.int .u8 (IntKind.u8.wrap (((BitVec.ofInt (IntKind.bits .u8) rest_26 &&& BitVec.ofInt (IntKind.bits .u8) (IntKind.u8.wrap (rest_26 - 1))).toNat : Nat) : Int)) = AV.int .u8 n_60] (mkS 16 [(0, .yld Lp_7.l 0), (3, .int .u8 n_60)]) (⟨[(C_V8_i64 z_43), (C_V8_i64 z_44), [i6 0, i6 0, i6 0, i6 0, i6 0, i6 0, i6 0, i6 0], [i6 b_45], [.sl (l_4.map A_claim) none]], [(0, 0)]⟩) (by kernel_rfl) ⟨congrArg (AV.int .u8) (Option.some.inj hn_60), trivial⟩ rfl ?_
       dsimp only
       exact ⟨_, _, Forgets.refl _ _ _, k, Nat.lt_succ_self k, n_60, z_43, z_44, b_45, h, rfl, rfl⟩
     ·refine Ex.condF _ rfl hc_33 ?_
      refine Ex.exit ?_
      (try simp only [reduceCtorEq, AEx.ex.injEq, Nat.reduceEqDiff, if_true, if_false])
      exact ⟨_, _, forgetK [], z_27, z_28, b_29, h, rfl, rfl⟩
   ·rintro a S ⟨z_20, z_21, b_22, h, rfl, rfl⟩
    subst hK_25
    exact ⟨_, _, Forgets.refl _ _ _, .inl rfl, 0, rfl, ⟨by first | rfl | trivial, z_20, z_21, b_22, h, rfl⟩⟩
  ·rintro k S (⟨rfl, z_14, z_15, b_16, h, rfl⟩)
   subst hK_19
   refine Ex.seq ?_
   refine Ex.drawE (a1 := mkS 52 [(3, .ptr 0 0), (4, .ptr 1 0), (5, .ptr 2 0), (6, .ptr 3 0), (7, .ptr 4 0), (21, .fn 74 [] [.rop [.int .u8 r_6]]), (50, (A_V8_i64 z_15)), (51, (A_V8_i64 z_14))]) (noClr_ok _) [] [] [⟨[(C_V8_i64 z_14), (C_V8_i64 z_15), [i6 0, i6 0, i6 0, i6 0, i6 0, i6 0, i6 0, i6 0], [i6 b_16], [.sl (l_4.map A_claim) none]], [(0, 0)]⟩] ?_ ?_
   ·refine drS [0, 1, 2, 3, 4] 2 [] [] (mkS 52 [(3, .ptr 0 0), (4, .ptr 1 0), (5, .ptr 2 0), (6, .ptr 3 0), (7, .ptr 4 0), (21, .fn 74 [] [.rop [.int .u8 r_6]]), (50, (A_V8_i64 z_15)), (51, (A_V8_i64 z_14))]) (by simp) (by kernel_rfl) trivial (by kernel_rfl) ?_
    refine drE none none (.tup []) _ _ rfl rfl rfl rfl rfl (by kernel_rfl) trivial ?_
    exact DrO.nil rfl
   ·dsimp only [List.getLastD_cons, List.getLastD_nil]
    refine rn 1 [4, 5] (mkS 52 [(4, .ptr 1 0), (5, .ptr 2 0)]) ⟨[(C_V8_i64 z_14), (C_V8_i64 z_15), (C_V8_i64 z_14), [i6 b_16], [.sl (l_4.map A_claim) none]], [(0, 0)]⟩ ?_
    refine ExO.nil ?_
    refine Ex.ret ?_
    obtain rfl := sJ h
    exact rt (.tup [(A_V8_i64 z_15), (A_V8_i64 z_14)])
def p_Trace (N : Nat) (l_1 : T_Ledger) : Option ((List (List Int)) × Int) := ((p_Check N l_1).bind fun r_2 => (bif (r_2 != 0) then some ([], r_2) else ((p_claimsOf N l_1).bind fun r_4 => ((p_purseOf N l_1).bind fun r_5 => ((p_claims_missing N r_4 r_5).bind fun r_7 => (bif (decide (r_7 > 0)) then some ([], 4) else ((mkI ((r_4.length : Nat) : Int)).bind fun k_9 => (letJ (fun (z_10 : T_V8_i64) (w_11 : List (List Int)) => ((lenI w_11 k_9).bind fun u_32 => some (w_11, 0))) (fun k_12 => (loop4 (fun rec_19 (y_15 : Int) (z_16 : T_V8_i64) (w_17 : List (List Int)) (z_18 : T_V8_i64) => (bif (decide (y_15 < ((k_9 : Nat) : Int))) then ((partI r_4 y_15 ((r_4.length : Nat) : Int)).bind fun l_23 => ((p_claims_payFirst N l_23 z_16).bind fun r_24 => ((mkI ((l_1.Funds.length : Nat) : Int)).bind fun k_26 => ((idxI y_15 k_9).bind fun u_27 => ((w_17[Int.toNat y_15]?).bind fun x_28 => ((idxI y_15 k_9).bind fun u_29 => ((copyI (List.replicate k_26 0) k_26 r_24.1.l 8).bind fun l_30 => ((lenI l_30 k_26).bind fun u_31 => (rec_19 (IntKind.i64.wrap (y_15 + 1)) r_24.2 (w_17.set (Int.toNat y_15) l_30) r_24.1))))))))) else (k_12 z_16 w_17))) N 0 r_5 (List.replicate k_9 []) (⟨0, 0, 0, 0, 0, 0, 0, 0⟩ : T_V8_i64)))))))))))
def v_Trace (r : (List (List Int)) × Int) : AV := .tup [.sl (r.1.map (SV (AV.int .i64))) none, i6 r.2]
attribute [local simp] v_Trace
theorem a_Trace (l_1 : T_Ledger) : [(A_Ledger l_1)].mapM (ren []) = some [(A_Ledger l_1)] := by simp
theorem b_Trace (r : (List (List Int)) × Int) (n n2 m : Nat) : back n n2 m (v_Trace r) = some (v_Trace r) := by simp
theorem d_Trace (N : Nat) (l_1 : T_Ledger) (r : (List (List Int)) × Int) (h : p_Trace N l_1 = some r) : Does Try.prog 15 [(A_Ledger l_1)] [] fun v c => v = v_Trace r ∧ c = [] := by
 unfold p_Trace at h
 refine Does.ofL comp15 _ _ rfl rfl ?_
 refine Ex.seq (rg 3 [1] (mkS 55 [(1, .ptr 0 0)]) ⟨[(C_Ledger l_1)], []⟩ ?_)
 refine Ex.seq (Ex.seq ?_)
 obtain ⟨r_2, hr_2, h⟩ := bE h
 refine Ex.reg (rn 1 [1, 10] (mkS 55 [(1, .ptr 0 0), (10, (A_Ledger l_1))]) ⟨[(C_Ledger l_1)], []⟩ ?_)
 refine ExO.callL [] [(A_Ledger l_1)] rfl rfl (a_Check l_1) rfl rfl (d_Check N l_1 r_2 hr_2) (b_Check _ _ _ _) rfl ?_
 refine rn 1 [1, 4] (mkS 55 [(1, .ptr 0 0), (4, i6 r_2)]) ⟨[(C_Ledger l_1)], []⟩ ?_
 refine ExO.nil ?_
 refine Ex.seq (rg 2 [1, 4, 13] (mkS 55 [(1, .ptr 0 0), (4, i6 r_2), (13, .bool (r_2 != 0))]) ⟨[(C_Ledger l_1)], []⟩ ?_)
 rcases condI h with ⟨hc_3, h⟩ | ⟨hc_3, h⟩
 ·refine Ex.condT _ rfl hc_3 ?_
  refine Ex.seq (rg 3 [2, 3] (mkS 55 [(2, .nils), (3, i6 r_2)]) ⟨[(C_Ledger l_1)], []⟩ ?_)
  refine Ex.ret ?_
  obtain rfl := sJ h
  exact rt (.tup [.nils, i6 r_2])
 ·refine Ex.condF _ rfl hc_3 ?_
  refine Ex.skip ?_
  refine Ex.seq ?_
  obtain ⟨r_4, hr_4, h⟩ := bE h
  obtain ⟨r_5, hr_5, h⟩ := bE h
  have hT_6 : DoesA Try.prog [⟨38, [(A_Ledger l_1)], [], (v_claimsOf r_4), []⟩, ⟨39, [(A_Ledger l_1)], [], (v_purseOf r_5), []⟩] ∧ ConsA [⟨38, [(A_Ledger l_1)], [], (v_claimsOf r_4), []⟩, ⟨39, [(A_Ledger l_1)], [], (v_purseOf r_5), []⟩] := ⟨⟨(d_claimsOf N l_1 r_4 hr_4), rfl, (d_purseOf N l_1 r_5 hr_5), rfl, trivial⟩, ⟨⟨ConsR.ne rfl, trivial⟩, trivial, trivial⟩⟩
  refine Ex.drawE (a1 := mkS 55 [(1, .ptr 0 0), (4, i6 r_2), (6, .ptr 1 0), (13, .bool (r_2 != 0)), (15, (A_Ledger l_1)), (16, .sl (r_4.map A_claim) none), (17, (A_Ledger l_1)), (18, (A_V8_i64 r_5))]) (tabO_ok hT_6.1) [[i6 0, i6 0, i6 0, i6 0, i6 0, i6 0, i6 0, i6 0]] [] [] ?_ ?_
  ·refine drS [0, 1] 1 [] [] (mkS 55 [(1, .ptr 0 0), (4, i6 r_2), (13, .bool (r_2 != 0)), (15, (A_Ledger l_1))]) (by simp) (by kernel_rfl) trivial (by kernel_rfl) ?_
   refine drC hT_6.2 0 _ [(A_Ledger l_1)] (v_claimsOf r_4) rfl rfl rfl rfl rfl (fun _ => rfl) rfl (by simp; try rfl) (fun _ => b_claimsOf _ _ _ _) ?_
   refine drS [0, 1] 1 [] [] (mkS 55 [(1, .ptr 0 0), (4, i6 r_2), (13, .bool (r_2 != 0)), (15, (A_Ledger l_1)), (16, .sl (r_4.map A_claim) none), (17, (A_Ledger l_1))]) (by simp) (by kernel_rfl) trivial (by kernel_rfl) ?_
   refine drC hT_6.2 1 _ [(A_Ledger l_1)] (v_purseOf r_5) rfl rfl rfl rfl rfl (fun _ => rfl) rfl (by simp; try rfl) (fun _ => b_purseOf _ _ _ _) ?_
   refine drX 1 [i6 0, i6 0, i6 0, i6 0, i6 0, i6 0, i6 0, i6 0] rfl rfl (fun _ => by kernel_rfl) (by simp) rfl rfl ?_
   exact DrO.nil rfl
  ·dsimp only [List.getLastD_cons, List.getLastD_nil]
   refine rn 2 [1, 5, 6] (mkS 55 [(1, .ptr 0 0), (5, .sl (r_4.map A_claim) none), (6, .ptr 1 0)]) ⟨[(C_Ledger l_1), (C_V8_i64 r_5)], []⟩ ?_
   refine ExO.nil ?_
   refine Ex.seq (Ex.seq ?_)
   obtain ⟨r_7, hr_7, h⟩ := bE h
   refine Ex.reg (rn 2 [1, 5, 6, 19, 20] (mkS 55 [(1, .ptr 0 0), (5, .sl (r_4.map A_claim) none), (6, .ptr 1 0), (19, .sl (r_4.map A_claim) none), (20, (A_V8_i64 r_5))]) ⟨[(C_Ledger l_1), (C_V8_i64 r_5)], []⟩ ?_)
   refine ExO.callL [] [.sl (r_4.map A_claim) none, (A_V8_i64 r_5)] rfl rfl (a_claims_missing r_4 r_5) rfl rfl (d_claims_missing N r_4 r_5 r_7 hr_7) (b_claims_missing _ _ _ _) rfl ?_
   refine rn 1 [1, 5, 6, 22] (mkS 55 [(1, .ptr 0 0), (5, .sl (r_4.map A_claim) none), (6, .ptr 1 0), (22, .bool (decide (r_7 > 0)))]) ⟨[(C_Ledger l_1), (C_V8_i64 r_5)], []⟩ ?_
   refine ExO.nil ?_
   rcases condI h with ⟨hc_8, h⟩ | ⟨hc_8, h⟩
   ·refine Ex.condT _ rfl hc_8 ?_
    refine Ex.seq (rg 2 [2, 3] (mkS 55 [(2, .nils), (3, i6 4)]) ⟨[(C_Ledger l_1), (C_V8_i64 r_5)], []⟩ ?_)
    refine Ex.ret ?_
    obtain rfl := sJ h
    exact rt (.tup [.nils, i6 4])
   ·refine Ex.condF _ rfl hc_8 ?_
    refine Ex.skip ?_
    refine Ex.seq ?_
    obtain ⟨k_9, hk_9, h⟩ := bE h
    refine regH 4 [(1, .eq (i6 ((r_4.length : Nat) : Int))), (2, .mk (rep [.nils] k_9) k_9)] [1, 5, 6, 7] [AV.int .i64 (((r_4.map A_claim).length : Nat) : Int) = AV.int .i64 ((r_4.length : Nat) : Int), ((r_4.length : Nat) : Int) = ((k_9 : Nat) : Int) ∧ k_9 ≤ 65536 ∧ rep [.nils] k_9 = (rep [.nils] k_9)] (mkS 55 [(1, .ptr 0 0), (5, .sl (r_4.map A_claim) none), (6, .ptr 1 0), (7, .ms 2 k_9 1)]) (⟨[(C_Ledger l_1), (C_V8_i64 r_5), (rep [.nils] k_9)], []⟩) (by kernel_rfl) ⟨lenM _ _, ⟨(mkI.of hk_9).1, (mkI.of hk_9).2, rfl⟩, trivial⟩ rfl ?_
    refine Ex.forget (nilsB (g := (AV.int .i64)) 2 k_9 rfl) ?_
    refine Ex.castA (a2 := mkS 55 [(1, .ptr 0 0), (5, .sl (r_4.map A_claim) none), (6, .ptr 1 0), (7, .ms 2 k_9 1)]) (S2 := ⟨[(C_Ledger l_1), (C_V8_i64 r_5), (flat ((List.replicate k_9 []).map (SV (AV.int .i64))))], []⟩) (by kernel_rfl) (by kernel_rfl) ?_
    refine Ex.seq (rg 3 [1, 5, 6, 7, 8] (mkS 55 [(1, .ptr 0 0), (5, .sl (r_4.map A_claim) none), (6, .ptr 1 0), (7, .ms 2 k_9 1), (8, .ptr 3 0)]) ⟨[(C_Ledger l_1), (C_V8_i64 r_5), (flat ((List.replicate k_9 []).map (SV (AV.int .i64)))), [i6 0, i6 0, i6 0, i6 0, i6 0, i6 0, i6 0, i6 0]], []⟩ ?_)
    refine Ex.seq (Ex.seq ?_)
    refine rg 3 [1, 5, 6, 7, 8, 28, 29] (mkS 55 [(1, .ptr 0 0), (5, .sl (r_4.map A_claim) none), (6, .ptr 1 0), (7, .ms 2 k_9 1), (8, .ptr 3 0), (28, i6 ((k_9 : Nat) : Int)), (29, i6 0)]) ⟨[(C_Ledger l_1), (C_V8_i64 r_5), (flat ((List.replicate k_9 []).map (SV (AV.int .i64)))), [i6 0, i6 0, i6 0, i6 0, i6 0, i6 0, i6 0, i6 0]], []⟩ ?_
    obtain ⟨K_13, hK_14, h⟩ := letE h
    refine Ex.blockJ (fun a S => ∃ (z_10 : T_V8_i64), ∃ (w_11 : List (List Int)), K_13 z_10 w_11 = some r ∧ a = mkS 55 [(7, .ms 2 k_9 1)] ∧ S = ⟨[(C_Ledger l_1), (C_V8_i64 z_10), (flat (w_11.map (SV (AV.int .i64))))], []⟩) ?_ ?_
    ·obtain ⟨B_20, hB_21, h⟩ := loop4I h
     refine Ex.loopF (fun k a S => ∃ (y_15 : Int), ∃ (z_16 : T_V8_i64), ∃ (w_17 : List (List Int)), ∃ (z_18 : T_V8_i64), loop4 B_20 k y_15 z_16 w_17 z_18 = some r ∧ a = mkS 55 [(1, .ptr 0 0), (5, .sl (r_4.map A_claim) none), (6, .ptr 1 0), (7, .ms 2 k_9 1), (8, .ptr 3 0), (28, i6 ((k_9 : Nat) : Int)), (29, i6 y_15)] ∧ S = ⟨[(C_Ledger l_1), (C_V8_i64 z_16), (flat (w_17.map (SV (AV.int .i64)))), (C_V8_i64 z_18)], []⟩) N ⟨_, _, Forgets.refl _ _ _, 0, r_5, (List.replicate k_9 []), (⟨0, 0, 0, 0, 0, 0, 0, 0⟩ : T_V8_i64), h, rfl, rfl⟩ ?_
     rintro k a S ⟨y_15, z_16, w_17, z_18, h, rfl, rfl⟩
     cases k with
     | zero => exact (loop4Z h).elim
     | succ k =>
      replace h := loop4S h hB_21
      refine Ex.seq (rg 1 [1, 5, 6, 7, 8, 28, 29, 30] (mkS 55 [(1, .ptr 0 0), (5, .sl (r_4.map A_claim) none), (6, .ptr 1 0), (7, .ms 2 k_9 1), (8, .ptr 3 0), (28, i6 ((k_9 : Nat) : Int)), (29, i6 y_15), (30, .bool (decide (y_15 < ((k_9 : Nat) : Int))))]) ⟨[(C_Ledger l_1), (C_V8_i64 z_16), (flat (w_17.map (SV (AV.int .i64)))), (C_V8_i64 z_18)], []⟩ ?_)
      refine Ex.seq ?_
      rcases condI h with ⟨hc_22, h⟩ | ⟨hc_22, h⟩
      ·refine Ex.condT _ rfl hc_22 ?_
       refine Ex.skip ?_
       refine Ex.seq ?_
       refine Ex.blockK ?_
       refine Ex.seq (rg 2 [1, 5, 6, 7, 8, 9, 28, 29] (mkS 55 [(1, .ptr 0 0), (5, .sl (r_4.map A_claim) none), (6, .ptr 1 0), (7, .ms 2 k_9 1), (8, .ptr 3 0), (9, i6 y_15), (28, i6 ((k_9 : Nat) : Int)), (29, i6 y_15)]) ⟨[(C_Ledger l_1), (C_V8_i64 z_16), (flat (w_17.map (SV (AV.int .i64)))), (C_V8_i64 z_18)], []⟩ ?_)
       refine Ex.seq ?_
       obtain ⟨l_23, hl_23, h⟩ := bE h
       obtain ⟨r_24, hr_24, h⟩ := bE h
       have hT_25 : DoesA Try.prog [⟨41, [.sl (l_23.map A_claim) none, (A_V8_i64 z_16)], [], (v_claims_payFirst r_24), []⟩] ∧ ConsA [⟨41, [.sl (l_23.map A_claim) none, (A_V8_i64 z_16)], [], (v_claims_payFirst r_24), []⟩] := ⟨⟨(d_claims_payFirst N l_23 z_16 r_24 hr_24), rfl, trivial⟩, ⟨trivial, trivial⟩⟩
       refine Ex.drawE (a1 := mkS 55 [(1, .ptr 0 0), (5, .sl (r_4.map A_claim) none), (6, .ptr 1 0), (7, .ms 2 k_9 1), (8, .ptr 3 0), (9, i6 y_15), (28, i6 ((k_9 : Nat) : Int)), (29, i6 y_15), (32, .tup [(A_V8_i64 r_24.1), (A_V8_i64 r_24.2)]), (33, .sl (r_4.map A_claim) none), (34, i6 y_15), (35, .sl (l_23.map A_claim) none), (36, (A_V8_i64 z_16)), (37, .tup [(A_V8_i64 r_24.1), (A_V8_i64 r_24.2)]), (38, (A_V8_i64 r_24.1)), (39, (A_V8_i64 r_24.2))]) (tabO_ok hT_25.1) [] [] [⟨[(C_Ledger l_1), (C_V8_i64 z_16), (flat (w_17.map (SV (AV.int .i64)))), (C_V8_i64 r_24.1)], []⟩] ?_ ?_
       ·refine drS [0, 1, 2] 4 [(2, .sc (l_23.map A_claim))] [LSlc (r_4.map A_claim) (some y_15) none 2 (l_23.map A_claim)] (mkS 55 [(1, .ptr 0 0), (5, .sl (r_4.map A_claim) none), (6, .ptr 1 0), (7, .ms 2 k_9 1), (8, .ptr 3 0), (9, i6 y_15), (28, i6 ((k_9 : Nat) : Int)), (29, i6 y_15), (33, .sl (r_4.map A_claim) none), (34, i6 y_15), (35, .sl (l_23.map A_claim) none), (36, (A_V8_i64 z_16))]) (by simp) (by kernel_rfl) ⟨partI.ofL (f := A_claim) (fun _ => rfl) hl_23, trivial⟩ (by kernel_rfl) ?_
        refine drC hT_25.2 0 _ [.sl (l_23.map A_claim) none, (A_V8_i64 z_16)] (v_claims_payFirst r_24) rfl rfl rfl rfl rfl (fun _ => rfl) rfl (by simp; try rfl) (fun _ => b_claims_payFirst _ _ _ _) ?_
        refine drS [0, 1, 2] 3 [] [] (mkS 55 [(1, .ptr 0 0), (5, .sl (r_4.map A_claim) none), (6, .ptr 1 0), (7, .ms 2 k_9 1), (8, .ptr 3 0), (9, i6 y_15), (28, i6 ((k_9 : Nat) : Int)), (29, i6 y_15), (32, .tup [(A_V8_i64 r_24.1), (A_V8_i64 r_24.2)]), (33, .sl (r_4.map A_claim) none), (34, i6 y_15), (35, .sl (l_23.map A_claim) none), (36, (A_V8_i64 z_16)), (37, .tup [(A_V8_i64 r_24.1), (A_V8_i64 r_24.2)]), (38, (A_V8_i64 r_24.1)), (39, (A_V8_i64 r_24.2))]) (by simp) (by kernel_rfl) trivial (by kernel_rfl) ?_
        refine drE none none (.tup []) _ _ rfl rfl rfl rfl rfl (by kernel_rfl) trivial ?_
        exact DrO.nil rfl
       ·dsimp only [List.getLastD_cons, List.getLastD_nil]
        refine rn 1 [1, 5, 6, 7, 8, 9, 28, 29] (mkS 55 [(1, .ptr 0 0), (5, .sl (r_4.map A_claim) none), (6, .ptr 1 0), (7, .ms 2 k_9 1), (8, .ptr 3 0), (9, i6 y_15), (28, i6 ((k_9 : Nat) : Int)), (29, i6 y_15)]) ⟨[(C_Ledger l_1), (C_V8_i64 r_24.2), (flat (w_17.map (SV (AV.int .i64)))), (C_V8_i64 r_24.1)], []⟩ ?_
        refine ExO.nil ?_
        refine Ex.seq ?_
        obtain ⟨k_26, hk_26, h⟩ := bE h
        obtain ⟨u_27, hu_27, h⟩ := bE h
        obtain ⟨x_28, hx_28, h⟩ := bE h
        refine regH 8 [(4, .eq (i6 ((l_1.Funds.length : Nat) : Int))), (5, .mk (flat ((List.replicate k_26 0).map (AV.int .i64))) k_26), (6, .adm), (7, .st (layAt (flat (w_17.map (SV (AV.int .i64)))) (0 + Int.toNat y_15 * 1) [.ms 4 k_26 1]))] [1, 5, 6, 7, 8, 9, 28, 29] [AV.int .i64 (((l_1.Funds.map A_Fund).length : Nat) : Int) = AV.int .i64 ((l_1.Funds.length : Nat) : Int), ((l_1.Funds.length : Nat) : Int) = ((k_26 : Nat) : Int) ∧ k_26 ≤ 65536 ∧ rep [i6 0] k_26 = (flat ((List.replicate k_26 0).map (AV.int .i64))), 0 ≤ y_15 ∧ y_15 < ((k_9 : Nat) : Int), 0 + Int.toNat y_15 * 1 + 1 ≤ ((flat (w_17.map (SV (AV.int .i64))))).length ∧ layAt (flat (w_17.map (SV (AV.int .i64)))) (0 + Int.toNat y_15 * 1) [.ms 4 k_26 1] = (layAt (flat (w_17.map (SV (AV.int .i64)))) (0 + Int.toNat y_15 * 1) [.ms 4 k_26 1])] (mkS 55 [(1, .ptr 0 0), (5, .sl (r_4.map A_claim) none), (6, .ptr 1 0), (7, .ms 2 k_9 1), (8, .ptr 3 0), (9, i6 y_15), (28, i6 ((k_9 : Nat) : Int)), (29, i6 y_15)]) (⟨[(C_Ledger l_1), (C_V8_i64 r_24.2), (layAt (flat (w_17.map (SV (AV.int .i64)))) (0 + Int.toNat y_15 * 1) [.ms 4 k_26 1]), (C_V8_i64 r_24.1), (flat ((List.replicate k_26 0).map (AV.int .i64)))], []⟩) (by kernel_rfl) ⟨lenM _ _, mk_of (f := (AV.int .i64)) 0 rfl hk_26, idxI.of hu_27, stHole (f := (SV (AV.int .i64))) w_17 _ y_15 x_28 _ (fun _ => rfl) hx_28 (by omega), trivial⟩ rfl ?_
        obtain ⟨u_29, hu_29, h⟩ := bE h
        refine Ex.drawE (a1 := mkS 55 [(1, .ptr 0 0), (5, .sl (r_4.map A_claim) none), (6, .ptr 1 0), (7, .ms 2 k_9 1), (8, .ptr 3 0), (9, i6 y_15), (28, i6 ((k_9 : Nat) : Int)), (29, i6 y_15), (47, .ms 2 k_9 1), (48, i6 y_15), (49, .ptr 2 (0 + Int.toNat y_15 * 1)), (50, .ms 4 k_26 1), (51, .ms 3 8 1)]) (noClr_ok _) [] [] [] ?_ ?_
        ·refine drS [0, 1, 2, 3, 4] 5 [(2, .adm), (3, .ld (.ms 4 k_26 1))] [0 ≤ y_15 ∧ y_15 < ((k_9 : Nat) : Int), takeCells (layAt (flat (w_17.map (SV (AV.int .i64)))) (0 + Int.toNat y_15 * 1) [.ms 4 k_26 1]) (0 + Int.toNat y_15 * 1) none = some (.ms 4 k_26 1)] (mkS 55 [(1, .ptr 0 0), (5, .sl (r_4.map A_claim) none), (6, .ptr 1 0), (7, .ms 2 k_9 1), (8, .ptr 3 0), (9, i6 y_15), (28, i6 ((k_9 : Nat) : Int)), (29, i6 y_15), (47, .ms 2 k_9 1), (48, i6 y_15), (49, .ptr 2 (0 + Int.toNat y_15 * 1)), (50, .ms 4 k_26 1), (51, .ms 3 8 1)]) (by simp) (by kernel_rfl) ⟨idxI.of hu_29, ldHole (f := (SV (AV.int .i64))) w_17 _ y_15 x_28 _ (fun _ => rfl) hx_28 (by omega), trivial⟩ (by kernel_rfl) ?_
         exact DrO.nil rfl
        ·dsimp only [List.getLastD_cons, List.getLastD_nil]
         obtain ⟨l_30, hl_30, h⟩ := bE h
         refine ExO.cpyL (f := (AV.int .i64)) 4 k_26 3 8 (List.replicate k_26 0) r_24.1.l (fun _ => rfl) (fun _ => rfl) rfl rfl rfl rfl rfl (by kernel_rfl) hl_30 ?_
         refine rn 0 [1, 5, 6, 7, 8, 28, 29] (mkS 55 [(1, .ptr 0 0), (5, .sl (r_4.map A_claim) none), (6, .ptr 1 0), (7, .ms 2 k_9 1), (8, .ptr 3 0), (28, i6 ((k_9 : Nat) : Int)), (29, i6 y_15)]) ⟨[(C_Ledger l_1), (C_V8_i64 r_24.2), (layAt (flat (w_17.map (SV (AV.int .i64)))) (0 + Int.toNat y_15 * 1) [.ms 4 k_26 1]), (C_V8_i64 r_24.1), (flat (l_30.map (AV.int .i64)))], []⟩ ?_
         refine ExO.nil ?_
         obtain ⟨u_31, hu_31, h⟩ := bE h
         refine Ex.forget (chillH (g := (AV.int .i64)) 4 2 k_26 1 _ y_15 l_30 w_17 hu_31 rfl (fun _ => rfl) hx_28 (by simp) rfl (by decide)) ?_
         refine Ex.castA (a2 := mkS 55 [(1, .ptr 0 0), (5, .sl (r_4.map A_claim) none), (6, .ptr 1 0), (7, .ms 2 k_9 1), (8, .ptr 3 0), (28, i6 ((k_9 : Nat) : Int)), (29, i6 y_15)]) (S2 := ⟨[(C_Ledger l_1), (C_V8_i64 r_24.2), (flat ((w_17.set (Int.toNat y_15) l_30).map (SV (AV.int .i64)))), (C_V8_i64 r_24.1), []], []⟩) (by kernel_rfl) (by kernel_rfl) ?_
         refine rg 2 [1, 5, 6, 7, 8, 28, 29] (mkS 55 [(1, .ptr 0 0), (5, .sl (r_4.map A_claim) none), (6, .ptr 1 0), (7, .ms 2 k_9 1), (8, .ptr 3 0), (28, i6 ((k_9 : Nat) : Int)), (29, i6 (IntKind.i64.wrap (y_15 + 1)))]) ⟨[(C_Ledger l_1), (C_V8_i64 r_24.2), (flat ((w_17.set (Int.toNat y_15) l_30).map (SV (AV.int .i64)))), (C_V8_i64 r_24.1), []], []⟩ ?_
         dsimp only
         exact ⟨_, _, forgetA (m := 55) 4 [] [(1, .ptr 0 0), (5, .sl (r_4.map A_claim) none), (6, .ptr 1 0), (7, .ms 2 k_9 1), (8, .ptr 3 0), (28, i6 ((k_9 : Nat) : Int)), (29, i6 (IntKind.i64.wrap (y_15 + 1)))] [(C_Ledger l_1), (C_V8_i64 r_24.2), (flat ((w_17.set (Int.toNat y_15) l_30).map (SV (AV.int .i64)))), (C_V8_i64 r_24.1)] [] (by simp [setAll]) (by simp) ⟨rfl, (reN (KL_claim _)), rfl, rfl, rfl, rfl, rfl, trivial⟩ (mapMC (show List.mapM (re 4 []) (C_Ledger l_1) = some (C_Ledger l_1) by simp) (mapMC (show List.mapM (re 4 []) (C_V8_i64 r_24.2) = some (C_V8_i64 r_24.2) by simp) (mapMC (flat_reC (f := (SV (AV.int .i64))) (fun x c hc => by obtain rfl := List.mem_singleton.1 hc; exact (cleanI _ _)) _ _ _) (mapMC (show List.mapM (re 4 []) (C_V8_i64 r_24.1) = some (C_V8_i64 r_24.1) by simp) rfl)))) rfl (by decide), k, Nat.lt_succ_self k, (IntKind.i64.wrap (y_15 + 1)), r_24.2, (w_17.set (Int.toNat y_15) l_30), r_24.1, h, rfl, rfl⟩
      ·refine Ex.condF _ rfl hc_22 ?_
       refine Ex.exit ?_
       (try simp only [reduceCtorEq, AEx.ex.injEq, Nat.reduceEqDiff, if_true, if_false])
       exact ⟨_, _, forgetA (m := 55) 3 [] [(7, .ms 2 k_9 1)] [(C_Ledger l_1), (C_V8_i64 z_16), (flat (w_17.map (SV (AV.int .i64))))] [] (by simp [setAll]) (by simp) ⟨rfl, trivial⟩ (mapMC (show List.mapM (re 3 []) (C_Ledger l_1) = some (C_Ledger l_1) by simp) (mapMC (show List.mapM (re 3 []) (C_V8_i64 z_16) = some (C_V8_i64 z_16) by simp) (mapMC (flat_reC (f := (SV (AV.int .i64))) (fun x c hc => by obtain rfl := List.mem_singleton.1 hc; exact (cleanI _ _)) _ _ _) rfl))) rfl (by decide), z_16, w_17, h, rfl, rfl⟩
    ·rintro a S ⟨z_10, w_11, h, rfl, rfl⟩
     subst hK_14
     refine Ex.seq (rg 3 [2, 3] (mkS 55 [(2, .ms 2 k_9 1), (3, i6 0)]) ⟨[(C_Ledger l_1), (C_V8_i64 z_10), (flat (w_11.map (SV (AV.int .i64))))], []⟩ ?_)
     obtain ⟨u_32, hu_32, h⟩ := bE h
     refine Ex.forget (chillK (f := (SV (AV.int .i64))) 2 2 k_9 1 w_11 (.ms 2 k_9 1) (.sl (w_11.map (SV (AV.int .i64))) none) hu_32 rfl (fun _ => rfl) rfl (by simp)) ?_
     refine Ex.castA (a2 := mkS 55 [(2, .sl (w_11.map (SV (AV.int .i64))) none), (3, i6 0)]) (S2 := ⟨[(C_Ledger l_1), (C_V8_i64 z_10), []], []⟩) (by kernel_rfl) (by kernel_rfl) ?_
     refine Ex.ret ?_
     obtain rfl := sJ h
     exact rt (.tup [.sl (w_11.map (SV (AV.int .i64))) none, i6 0])
def p_claims_proof (N : Nat) (c_1 : (List T_claim)) (left_2 : T_V8_i64) : Option (Int) := (letJ (fun (b_3 : Int) => some b_3) (fun k_4 => (loop1 (fun rec_8 (y_7 : Int) => (bif (decide (y_7 < (IntKind.i64.wrap (((c_1.length : Nat) : Int) + 1)))) then ((p_setsOf N y_7 ((c_1.length : Nat) : Int)).bind fun r_12 => (letJ (fun (_ : Unit) => (rec_8 (IntKind.i64.wrap (y_7 + 1)))) (fun k_20 => (letJ (fun (b_23 : Int) => (k_4 b_23)) (fun k_24 => (letJ (fun (_ : Unit) => (k_20 ())) (fun k_79 => (letJ (fun (b_35 : Int) => (k_24 b_35)) (fun k_82 => ((loop3 (ρ := (Unit) ⊕ (Int)) (fun rec_36 (begun_32 : Int) (next_33 : Int) (more_34 : Int) => (bif (more_34 == 0) then (letJ (fun (_ : Unit) => some (.inl ())) (fun k_53 => (letJ (fun (_ : Unit) => some (.inr begun_32)) (fun k_56 => ((p_claims_lack N c_1 begun_32 left_2).bind fun r_59 => (bif (decide (r_59 > 0)) then (k_56 ()) else (k_53 ()))))))) else (letJ (fun (_ : Unit) => some (.inl ())) (fun k_61 => (loop1 (fun rec_65 (n_64 : Int) => (bif (decide ((IntKind.i64.wrap (n_64 + more_34)) ≤ r_12.1)) then ((p_set_add N begun_32 n_64).bind fun r_69 => (letJ (fun (_ : Unit) => (rec_65 (IntKind.i64.wrap (n_64 + 1)))) (fun k_73 => (letJ (fun (b_72 : Int) => some (.inr b_72)) (fun k_76 => ((rec_36 r_69 (IntKind.i64.wrap (n_64 + 1)) (IntKind.i64.wrap (more_34 - 1))).bind fun s_70 => (caseS s_70 (fun t => k_73 ()) (fun t => k_76 t)))))))) else (k_61 ()))) N next_33))))) N 0 0 r_12.2).bind fun s_42 => (caseS s_42 (fun t => k_79 ()) (fun t => k_82 t)))))))))))) else (k_4 0))) N 0)))
def v_claims_proof (r : Int) : AV := .int .u8 r
attribute [local simp] v_claims_proof
theorem a_claims_proof (c_1 : (List T_claim)) (left_2 : T_V8_i64) : [.sl (c_1.map A_claim) none, (A_V8_i64 left_2)].mapM (ren []) = some [.sl (c_1.map A_claim) none, (A_V8_i64 left_2)] := by simp
theorem b_claims_proof (r : Int) (n n2 m : Nat) : back n n2 m (v_claims_proof r) = some (v_claims_proof r) := by simp
theorem d_claims_proof (N : Nat) (c_1 : (List T_claim)) (left_2 : T_V8_i64) (r : Int) (h : p_claims_proof N c_1 left_2 = some r) : Does Try.prog 46 [.sl (c_1.map A_claim) none, (A_V8_i64 left_2)] [] fun v c => v = v_claims_proof r ∧ c = [] := by
 unfold p_claims_proof at h
 refine Does.ofL comp46 _ _ rfl rfl ?_
 refine Ex.seq (rg 3 [2, 3, 4] (mkS 27 [(2, .ptr 0 0), (3, .ptr 1 0), (4, .int .u8 0)]) ⟨[[.sl (c_1.map A_claim) none], (C_V8_i64 left_2)], []⟩ ?_)
 refine Ex.scope ?_
 refine Ex.seq (rg 2 [2, 3, 4, 5] (mkS 27 [(2, .ptr 0 0), (3, .ptr 1 0), (4, .int .u8 0), (5, .ptr 2 0)]) ⟨[[.sl (c_1.map A_claim) none], (C_V8_i64 left_2), [.int .u8 0]], []⟩ ?_)
 refine Ex.seq ?_
 refine Ex.skip ?_
 refine Ex.seq (Ex.seq ?_)
 refine regH 4 [(1, .eq (i6 ((c_1.length : Nat) : Int)))] [2, 3, 4, 5, 10, 11] [AV.int .i64 (((c_1.map A_claim).length : Nat) : Int) = AV.int .i64 ((c_1.length : Nat) : Int)] (mkS 27 [(2, .ptr 0 0), (3, .ptr 1 0), (4, .int .u8 0), (5, .ptr 2 0), (10, i6 (IntKind.i64.wrap (((c_1.length : Nat) : Int) + 1))), (11, i6 0)]) (⟨[[.sl (c_1.map A_claim) none], (C_V8_i64 left_2), [.int .u8 0]], []⟩) (by kernel_rfl) ⟨lenM _ _, trivial⟩ rfl ?_
 obtain ⟨K_5, hK_6, h⟩ := letE h
 refine Ex.blockJ (fun a S => ∃ (b_3 : Int), K_5 b_3 = some r ∧ a = mkS 27 [(5, .ptr 2 0)] ∧ S = ⟨[[.sl (c_1.map A_claim) none], (C_V8_i64 left_2), [.int .u8 b_3]], []⟩) ?_ ?_
 ·obtain ⟨B_9, hB_10, h⟩ := loop1I h
  refine Ex.loopF (fun k a S => ∃ (y_7 : Int), loop1 B_9 k y_7 = some r ∧ a = mkS 27 [(2, .ptr 0 0), (3, .ptr 1 0), (4, .int .u8 0), (5, .ptr 2 0), (10, i6 (IntKind.i64.wrap (((c_1.length : Nat) : Int) + 1))), (11, i6 y_7)] ∧ S = ⟨[[.sl (c_1.map A_claim) none], (C_V8_i64 left_2), [.int .u8 0]], []⟩) N ⟨_, _, Forgets.refl _ _ _, 0, h, rfl, rfl⟩ ?_
  rintro k a S ⟨y_7, h, rfl, rfl⟩
  cases k with
  | zero => exact (loop1Z h).elim
  | succ k =>
   replace h := loop1S h hB_10
   refine Ex.seq (rg 1 [2, 3, 4, 5, 10, 11, 12] (mkS 27 [(2, .ptr 0 0), (3, .ptr 1 0), (4, .int .u8 0), (5, .ptr 2 0), (10, i6 (IntKind.i64.wrap (((c_1.length : Nat) : Int) + 1))), (11, i6 y_7), (12, .bool (decide (y_7 < (IntKind.i64.wrap (((c_1.length : Nat) : Int) + 1)))))]) ⟨[[.sl (c_1.map A_claim) none], (C_V8_i64 left_2), [.int .u8 0]], []⟩ ?_)
   refine Ex.seq ?_
   rcases condI h with ⟨hc_11, h⟩ | ⟨hc_11, h⟩
   ·refine Ex.condT _ rfl hc_11 ?_
    refine Ex.skip ?_
    refine Ex.seq ?_
    refine Ex.blockK ?_
    refine Ex.seq (rg 2 [2, 3, 4, 5, 6, 10, 11] (mkS 27 [(2, .ptr 0 0), (3, .ptr 1 0), (4, .int .u8 0), (5, .ptr 2 0), (6, i6 y_7), (10, i6 (IntKind.i64.wrap (((c_1.length : Nat) : Int) + 1))), (11, i6 y_7)]) ⟨[[.sl (c_1.map A_claim) none], (C_V8_i64 left_2), [.int .u8 0]], []⟩ ?_)
    refine Ex.seq ?_
    obtain ⟨r_12, hr_12, h⟩ := bE h
    refine Ex.reg ?_
    refine runH 3 [(2, .eq (i6 ((c_1.length : Nat) : Int)))] [2, 3, 4, 5, 10, 11, 14, 16] [AV.int .i64 (((c_1.map A_claim).length : Nat) : Int) = AV.int .i64 ((c_1.length : Nat) : Int)] (mkS 27 [(2, .ptr 0 0), (3, .ptr 1 0), (4, .int .u8 0), (5, .ptr 2 0), (10, i6 (IntKind.i64.wrap (((c_1.length : Nat) : Int) + 1))), (11, i6 y_7), (14, i6 y_7), (16, i6 ((c_1.length : Nat) : Int))]) (⟨[[.sl (c_1.map A_claim) none], (C_V8_i64 left_2), [.int .u8 0]], []⟩) (by kernel_rfl) ⟨lenM _ _, trivial⟩ ?_
    refine ExO.callL [] [i6 y_7, i6 ((c_1.length : Nat) : Int)] rfl rfl (a_setsOf y_7 ((c_1.length : Nat) : Int)) rfl rfl (d_setsOf N y_7 ((c_1.length : Nat) : Int) r_12 hr_12) (b_setsOf _ _ _ _) rfl ?_
    refine rn 0 [2, 3, 4, 5, 10, 11, 17] (mkS 27 [(2, .ptr 0 0), (3, .ptr 1 0), (4, .int .u8 0), (5, .ptr 2 0), (10, i6 (IntKind.i64.wrap (((c_1.length : Nat) : Int) + 1))), (11, i6 y_7), (17, .fn 91 [] [.rop [i6 r_12.1], .rop [i6 r_12.2]])]) ⟨[[.sl (c_1.map A_claim) none], (C_V8_i64 left_2), [.int .u8 0]], []⟩ ?_
    refine ExO.nil ?_
    refine Ex.blockK ?_
    obtain ⟨K_21, hK_22, h⟩ := letE h
    obtain ⟨K_25, hK_26, h⟩ := letE h
    refine Ex.rangeJ (fun k S => (k = 0 ∧ K_21 () = some r ∧ S = ⟨[[.sl (c_1.map A_claim) none], (C_V8_i64 left_2), [.int .u8 0]], [(0, 0)]⟩) ∨ (k = 2 ∧ ∃ (b_23 : Int), K_25 b_23 = some r ∧ S = ⟨[[.sl (c_1.map A_claim) none], (C_V8_i64 left_2), [.int .u8 b_23]], [(2, 0)]⟩)) 91 [.rop [i6 r_12.1], .rop [i6 r_12.2]] _ rfl comp91 rfl (by simp [setAll]) (by exact trivial) (mkS 9 [(1, .rop [i6 r_12.1]), (2, .rop [i6 r_12.2]), (3, .tup []), (4, .tup []), (5, .tup []), (6, .tup []), (7, .tup []), (8, .tup [])]) (⟨[[.sl (c_1.map A_claim) none], (C_V8_i64 left_2), [.int .u8 0]], [(0, 0)]⟩) (fun _ => by kernel_rfl) (by kernel_rfl) ?_ ?_
    ·intro cx_14 Lp_13 hcn_15 hcm_16 hLt_17 hL_18 hup_19
     refine Ex.castA (a2 := mkS 9 [(0, .yld Lp_13.l 0), (1, .rop [i6 r_12.1]), (2, .rop [i6 r_12.2]), (3, .tup []), (4, .tup []), (5, .tup []), (6, .tup []), (7, .tup []), (8, .tup [])]) (S2 := ⟨[[.sl (c_1.map A_claim) none], (C_V8_i64 left_2), [.int .u8 0]], [(0, 0)]⟩) (by kernel_rfl) rfl ?_
     refine Ex.seq (rg 1 [1, 2, 3] (mkS 9 [(1, .rop [i6 r_12.1]), (2, .rop [i6 r_12.2]), (3, .ptr 3 0)]) ⟨[[.sl (c_1.map A_claim) none], (C_V8_i64 left_2), [.int .u8 0], [.yld Lp_13.l 0]], [(0, 0)]⟩ ?_)
     refine Ex.seq (rg 1 [1, 2, 3, 4] (mkS 9 [(1, .rop [i6 r_12.1]), (2, .rop [i6 r_12.2]), (3, .ptr 3 0), (4, .ptr 4 0)]) ⟨[[.sl (c_1.map A_claim) none], (C_V8_i64 left_2), [.int .u8 0], [.yld Lp_13.l 0], [.nilf]], [(0, 0)]⟩ ?_)
     refine Ex.seq (rg 2 [2, 4] (mkS 9 [(2, .rop [i6 r_12.2]), (4, .ptr 4 0)]) ⟨[[.sl (c_1.map A_claim) none], (C_V8_i64 left_2), [.int .u8 0], [.yld Lp_13.l 0], [.fn 92 [] [.ptr 3 0, .rop [i6 r_12.1], .ptr 4 0]]], [(0, 0)]⟩ ?_)
     refine Ex.regI ?_
     refine runI 2 [] [6, 7] [] (mkS 9 [(6, .fn 92 [] [.ptr 3 0, .rop [i6 r_12.1], .ptr 4 0]), (7, i6 r_12.2)]) (⟨[[.sl (c_1.map A_claim) none], (C_V8_i64 left_2), [.int .u8 0], [.yld Lp_13.l 0], [.fn 92 [] [.ptr 3 0, .rop [i6 r_12.1], .ptr 4 0]]], [(0, 0)]⟩) (by kernel_rfl) trivial ?_
     obtain ⟨K_80, hK_81, h⟩ := letE h
     obtain ⟨K_83, hK_84, h⟩ := letE h
     obtain ⟨s_42, hs_43, h⟩ := bE h
     obtain ⟨B_37, hB_38, hs_43⟩ := loop3I hs_43
     have hY_41 : ∀ (k : Nat) (begun_32 : Int) (next_33 : Int) (more_34 : Int) (r : (Unit) ⊕ (Int)), loop3 B_37 k begun_32 next_33 more_34 = some r → ∀ (cx_27 : Cx), cx_27.n = 5 → cx_27.m = 1 → (∀ L' a' ps' x' y', LpOk Try.prog cx_14 L' a' ps' x' y' → LpOk Try.prog cx_27 L' a' ps' x' y') → Ex cx_27 .plain Try.prog F92.code (mkS 36 [(0, .int .u8 begun_32), (1, i6 next_33), (2, i6 more_34), (3, .ptr 3 0), (4, .rop [i6 r_12.1]), (5, .ptr 4 0), (6, .tup []), (7, .tup []), (8, .tup []), (9, .tup []), (10, .tup []), (11, .tup []), (12, .tup []), (13, .tup []), (14, .tup []), (15, .tup []), (16, .tup []), (17, .tup []), (18, .tup []), (19, .tup []), (20, .tup []), (21, .tup []), (22, .tup []), (23, .tup []), (24, .tup []), (25, .tup []), (26, .tup []), (27, .tup []), (28, .tup []), (29, .tup []), (30, .tup []), (31, .tup []), (32, .tup []), (33, .tup []), (34, .tup []), (35, .tup [])]) (⟨[[.sl (c_1.map A_claim) none], (C_V8_i64 left_2), [.int .u8 0], [.yld Lp_13.l 0], [.fn 92 [] [.ptr 3 0, .rop [i6 r_12.1], .ptr 4 0]]], [(0, 0)]⟩) fun z a' S' => ∃ a2 S2, Forgets cx_27 a' S' a2 S2 ∧ (z = .norm ∨ z = .ret) ∧ ∃ v, evRes a2 S2 F92.res = some v ∧ (fun v S => ((.inl ()) = r ∧ v = .bool true ∧ S = ⟨[[.sl (c_1.map A_claim) none], (C_V8_i64 left_2), [.int .u8 0], [.yld Lp_13.l 0], [.fn 92 [] [.ptr 3 0, .rop [i6 r_12.1], .ptr 4 0]]], [(0, 0)]⟩) ∨ (∃ (b_35 : Int), (.inr b_35) = r ∧ v = .bool false ∧ S = ⟨[[.sl (c_1.map A_claim) none], (C_V8_i64 left_2), [.int .u8 b_35], [.yld Lp_13.l 0], [.fn 92 [] [.ptr 3 0, .rop [i6 r_12.1], .ptr 4 0]]], [(2, 0)]⟩)) v S2 := by
      intro k_39
      induction k_39 with
      | zero => intro begun_32 next_33 more_34 r h; exact (loop3Z h).elim
      | succ k ih_40 =>
       intro begun_32 next_33 more_34 r h cx_27 hcn_28 hcm_29 hup_30
       replace h := loop3S h hB_38
       have hL_31 := hup_30 _ _ _ _ _ hL_18
       refine Ex.seq (rg 1 [0, 1, 2, 3, 4, 5] (mkS 36 [(0, .int .u8 begun_32), (1, i6 next_33), (2, i6 more_34), (3, .ptr 3 0), (4, .rop [i6 r_12.1]), (5, .ptr 4 0)]) ⟨[[.sl (c_1.map A_claim) none], (C_V8_i64 left_2), [.int .u8 0], [.yld Lp_13.l 0], [.fn 92 [] [.ptr 3 0, .rop [i6 r_12.1], .ptr 4 0]]], [(0, 0)]⟩ ?_)
       refine Ex.seq (Ex.seq ?_)
       refine rg 2 [0, 1, 2, 3, 4, 5, 13] (mkS 36 [(0, .int .u8 begun_32), (1, i6 next_33), (2, i6 more_34), (3, .ptr 3 0), (4, .rop [i6 r_12.1]), (5, .ptr 4 0), (13, .bool (more_34 == 0))]) ⟨[[.sl (c_1.map A_claim) none], (C_V8_i64 left_2), [.int .u8 0], [.yld Lp_13.l 0], [.fn 92 [] [.ptr 3 0, .rop [i6 r_12.1], .ptr 4 0]]], [(0, 0)]⟩ ?_
       rcases condI h with ⟨hc_44, h⟩ | ⟨hc_44, h⟩
       ·refine Ex.condT _ rfl hc_44 ?_
        refine Ex.seq ?_
        refine Ex.regI ?_
        refine runI 2 [] [14, 15] [] (mkS 36 [(14, .yld Lp_13.l 0), (15, .int .u8 begun_32)]) (⟨[[.sl (c_1.map A_claim) none], (C_V8_i64 left_2), [.int .u8 0], [.yld Lp_13.l 0], [.fn 92 [] [.ptr 3 0, .rop [i6 r_12.1], .ptr 4 0]]], [(0, 0)]⟩) (by kernel_rfl) trivial ?_
        obtain ⟨K_54, hK_55, h⟩ := letE h
        obtain ⟨K_57, hK_58, h⟩ := letE h
        refine ExI.yieldT 0 hLt_17 hL_31 [.int .u8 begun_32] rfl rfl rfl (by kernel_rfl) rfl rfl (leC hcn_28 (by simp [setAll])) ?_
        intro ca_45 cb_46 ha_47 hb_48 hma_49 hmb_50 hup_51 hbz_52
        refine Ex.castA (a2 := mkS 27 [(2, .ptr 0 0), (3, .ptr 1 0), (4, .int .u8 0), (5, .ptr 2 0), (10, i6 (IntKind.i64.wrap (((c_1.length : Nat) : Int) + 1))), (11, i6 y_7), (17, .fn 91 [] [.rop [i6 r_12.1], .rop [i6 r_12.2]]), (18, .int .u8 begun_32)]) (S2 := ⟨[[.sl (c_1.map A_claim) none], (C_V8_i64 left_2), [.int .u8 0], [.yld Lp_13.l 0], [.fn 92 [] [.ptr 3 0, .rop [i6 r_12.1], .ptr 4 0]]], [(0, 0)]⟩) (by kernel_rfl) (by kernel_rfl) ?_
        refine Ex.two (fun z S => (z = AEx.norm ∧ K_54 () = some r ∧ S = ⟨[[.sl (c_1.map A_claim) none], (C_V8_i64 left_2), [.int .u8 0], [.yld Lp_13.l 0], [.fn 92 [] [.ptr 3 0, .rop [i6 r_12.1], .ptr 4 0]]], [(0, 0)]⟩) ∨ (z = AEx.ex 0 ∧ K_57 () = some r ∧ S = ⟨[[.sl (c_1.map A_claim) none], (C_V8_i64 left_2), [.int .u8 begun_32], [.yld Lp_13.l 0], [.fn 92 [] [.ptr 3 0, .rop [i6 r_12.1], .ptr 4 0]]], [(0, 0)]⟩)) ?_ ?_
        ·refine rg 1 [2, 3, 5, 7] (mkS 27 [(2, .ptr 0 0), (3, .ptr 1 0), (5, .ptr 2 0), (7, .int .u8 begun_32)]) ⟨[[.sl (c_1.map A_claim) none], (C_V8_i64 left_2), [.int .u8 0], [.yld Lp_13.l 0], [.fn 92 [] [.ptr 3 0, .rop [i6 r_12.1], .ptr 4 0]]], [(0, 0)]⟩ ?_
         refine ⟨rfl, rfl, ?_⟩
         refine Ex.blockK ?_
         refine Ex.seq ?_
         obtain ⟨r_59, hr_59, h⟩ := bE h
         refine Ex.reg (rn 3 [5, 7, 19, 20, 21] (mkS 27 [(5, .ptr 2 0), (7, .int .u8 begun_32), (19, .sl (c_1.map A_claim) none), (20, .int .u8 begun_32), (21, (A_V8_i64 left_2))]) ⟨[[.sl (c_1.map A_claim) none], (C_V8_i64 left_2), [.int .u8 0], [.yld Lp_13.l 0], [.fn 92 [] [.ptr 3 0, .rop [i6 r_12.1], .ptr 4 0]]], [(0, 0)]⟩ ?_)
         refine ExO.callL [] [.sl (c_1.map A_claim) none, .int .u8 begun_32, (A_V8_i64 left_2)] rfl rfl (a_claims_lack c_1 begun_32 left_2) rfl rfl (d_claims_lack N c_1 begun_32 left_2 r_59 hr_59) (b_claims_lack _ _ _ _) rfl ?_
         refine rn 1 [5, 7, 23] (mkS 27 [(5, .ptr 2 0), (7, .int .u8 begun_32), (23, .bool (decide (r_59 > 0)))]) ⟨[[.sl (c_1.map A_claim) none], (C_V8_i64 left_2), [.int .u8 0], [.yld Lp_13.l 0], [.fn 92 [] [.ptr 3 0, .rop [i6 r_12.1], .ptr 4 0]]], [(0, 0)]⟩ ?_
         refine ExO.nil ?_
         rcases condI h with ⟨hc_60, h⟩ | ⟨hc_60, h⟩
         ·refine Ex.condT _ rfl hc_60 ?_
          refine Ex.seq (rg 2 [] (mkS 27 []) ⟨[[.sl (c_1.map A_claim) none], (C_V8_i64 left_2), [.int .u8 begun_32], [.yld Lp_13.l 0], [.fn 92 [] [.ptr 3 0, .rop [i6 r_12.1], .ptr 4 0]]], [(0, 0)]⟩ ?_)
          refine Ex.exit ?_
          (try simp only [reduceCtorEq, AEx.ex.injEq, Nat.reduceEqDiff, if_true, if_false])
          exact ⟨_, _, Forgets.refl _ _ _, (.inr (⟨by first | rfl | trivial, h, rfl⟩))⟩
         ·refine Ex.condF _ rfl hc_60 ?_
          refine Ex.skip ?_
          (try simp only [reduceCtorEq, AEx.ex.injEq, Nat.reduceEqDiff, if_true, if_false])
          exact ⟨_, _, forgetK [], (.inl ⟨by first | rfl | trivial, h, rfl⟩)⟩
        ·rintro z a2 S (⟨rfl, h, rfl⟩ | ⟨rfl, h, rfl⟩)
         ·subst hK_55
          refine runI 1 [] [9] [] (mkS 36 [(9, .bool true)]) (⟨[[.sl (c_1.map A_claim) none], (C_V8_i64 left_2), [.int .u8 0], [.yld Lp_13.l 0], [.fn 92 [] [.ptr 3 0, .rop [i6 r_12.1], .ptr 4 0]]], [(0, 0)]⟩) (by kernel_rfl) trivial ?_
          refine ExI.nil ?_
          refine Ex.ret ?_
          obtain rfl := sJ h
          exact ⟨_, _, Forgets.refl _ _ _, .inr rfl, _, by kernel_rfl, .inl ⟨rfl, rfl, rfl⟩⟩
         ·subst hK_58
          refine runI 1 [] [9] [] (mkS 36 [(9, .bool false)]) (⟨[[.sl (c_1.map A_claim) none], (C_V8_i64 left_2), [.int .u8 begun_32], [.yld Lp_13.l 0], [.fn 92 [] [.ptr 3 0, .rop [i6 r_12.1], .ptr 4 0]]], [(2, 0)]⟩) (by kernel_rfl) trivial ?_
          refine ExI.nil ?_
          refine Ex.ret ?_
          obtain rfl := sJ h
          exact ⟨_, _, Forgets.refl _ _ _, .inr rfl, _, by kernel_rfl, .inr (⟨begun_32, rfl, rfl, rfl⟩)⟩
       ·refine Ex.condF _ rfl hc_44 ?_
        refine Ex.skip ?_
        refine Ex.seq (Ex.seq ?_)
        refine rg 2 [0, 2, 4, 5, 10] (mkS 36 [(0, .int .u8 begun_32), (2, i6 more_34), (4, .rop [i6 r_12.1]), (5, .ptr 4 0), (10, i6 next_33)]) ⟨[[.sl (c_1.map A_claim) none], (C_V8_i64 left_2), [.int .u8 0], [.yld Lp_13.l 0], [.fn 92 [] [.ptr 3 0, .rop [i6 r_12.1], .ptr 4 0]]], [(0, 0)]⟩ ?_
        obtain ⟨K_62, hK_63, h⟩ := letE h
        refine Ex.blockJ (fun a S => K_62 () = some r ∧ a = mkS 36 [] ∧ S = ⟨[[.sl (c_1.map A_claim) none], (C_V8_i64 left_2), [.int .u8 0], [.yld Lp_13.l 0], [.fn 92 [] [.ptr 3 0, .rop [i6 r_12.1], .ptr 4 0]]], [(0, 0)]⟩) ?_ ?_
        ·obtain ⟨B_66, hB_67, h⟩ := loop1I h
         refine Ex.loopF (fun k a S => ∃ (n_64 : Int), loop1 B_66 k n_64 = some r ∧ a = mkS 36 [(0, .int .u8 begun_32), (2, i6 more_34), (4, .rop [i6 r_12.1]), (5, .ptr 4 0), (10, i6 n_64)] ∧ S = ⟨[[.sl (c_1.map A_claim) none], (C_V8_i64 left_2), [.int .u8 0], [.yld Lp_13.l 0], [.fn 92 [] [.ptr 3 0, .rop [i6 r_12.1], .ptr 4 0]]], [(0, 0)]⟩) N ⟨_, _, Forgets.refl _ _ _, next_33, h, rfl, rfl⟩ ?_
         rintro k a S ⟨n_64, h, rfl, rfl⟩
         cases k with
         | zero => exact (loop1Z h).elim
         | succ k =>
          replace h := loop1S h hB_67
          refine Ex.seq (Ex.seq ?_)
          refine rg 5 [0, 2, 4, 5, 10, 22] (mkS 36 [(0, .int .u8 begun_32), (2, i6 more_34), (4, .rop [i6 r_12.1]), (5, .ptr 4 0), (10, i6 n_64), (22, .bool (decide ((IntKind.i64.wrap (n_64 + more_34)) ≤ r_12.1)))]) ⟨[[.sl (c_1.map A_claim) none], (C_V8_i64 left_2), [.int .u8 0], [.yld Lp_13.l 0], [.fn 92 [] [.ptr 3 0, .rop [i6 r_12.1], .ptr 4 0]]], [(0, 0)]⟩ ?_
          rcases condI h with ⟨hc_68, h⟩ | ⟨hc_68, h⟩
          ·refine Ex.condT _ rfl hc_68 ?_
           refine Ex.skip ?_
           refine Ex.seq ?_
           refine Ex.blockK ?_
           refine Ex.seq (rg 3 [0, 2, 4, 5, 10, 11] (mkS 36 [(0, .int .u8 begun_32), (2, i6 more_34), (4, .rop [i6 r_12.1]), (5, .ptr 4 0), (10, i6 n_64), (11, .ptr 5 0)]) ⟨[[.sl (c_1.map A_claim) none], (C_V8_i64 left_2), [.int .u8 0], [.yld Lp_13.l 0], [.fn 92 [] [.ptr 3 0, .rop [i6 r_12.1], .ptr 4 0]], [.int .u8 begun_32]], [(0, 0)]⟩ ?_)
           refine Ex.seq ?_
           obtain ⟨r_69, hr_69, h⟩ := bE h
           refine Ex.reg (rn 1 [0, 2, 4, 5, 10, 11, 26] (mkS 36 [(0, .int .u8 begun_32), (2, i6 more_34), (4, .rop [i6 r_12.1]), (5, .ptr 4 0), (10, i6 n_64), (11, .ptr 5 0), (26, i6 n_64)]) ⟨[[.sl (c_1.map A_claim) none], (C_V8_i64 left_2), [.int .u8 0], [.yld Lp_13.l 0], [.fn 92 [] [.ptr 3 0, .rop [i6 r_12.1], .ptr 4 0]], [.int .u8 begun_32]], [(0, 0)]⟩ ?_)
           refine ExO.callL [5] [.ptr 5 0, i6 n_64] rfl rfl (by simp; try rfl) rfl (by simp) (d_set_add N begun_32 n_64 r_69 hr_69) (b_set_add _ _ _ _) (by simp) ?_
           refine rn 0 [0, 2, 4, 5, 10, 11] (mkS 36 [(0, .int .u8 begun_32), (2, i6 more_34), (4, .rop [i6 r_12.1]), (5, .ptr 4 0), (10, i6 n_64), (11, .ptr 5 0)]) ⟨[[.sl (c_1.map A_claim) none], (C_V8_i64 left_2), [.int .u8 0], [.yld Lp_13.l 0], [.fn 92 [] [.ptr 3 0, .rop [i6 r_12.1], .ptr 4 0]], [.int .u8 r_69]], [(0, 0)]⟩ ?_
           refine ExO.nil ?_
           refine Ex.seq ?_
           refine Ex.regI ?_
           refine runI 6 [] [0, 2, 4, 5, 10, 28, 29, 31, 33] [] (mkS 36 [(0, .int .u8 begun_32), (2, i6 more_34), (4, .rop [i6 r_12.1]), (5, .ptr 4 0), (10, i6 n_64), (28, .fn 92 [] [.ptr 3 0, .rop [i6 r_12.1], .ptr 4 0]), (29, .int .u8 r_69), (31, i6 (IntKind.i64.wrap (n_64 + 1))), (33, i6 (IntKind.i64.wrap (more_34 - 1)))]) (⟨[[.sl (c_1.map A_claim) none], (C_V8_i64 left_2), [.int .u8 0], [.yld Lp_13.l 0], [.fn 92 [] [.ptr 3 0, .rop [i6 r_12.1], .ptr 4 0]], [.int .u8 r_69]], [(0, 0)]⟩) (by kernel_rfl) trivial ?_
           obtain ⟨K_74, hK_75, h⟩ := letE h
           obtain ⟨K_77, hK_78, h⟩ := letE h
           obtain ⟨s_70, hs_71, h⟩ := bE h
           refine ExI.forget (forgetA (m := 36) 5 [0] [(0, .int .u8 begun_32), (2, i6 more_34), (4, .rop [i6 r_12.1]), (5, .ptr 4 0), (10, i6 n_64), (28, .fn 92 [] [.ptr 3 0, .rop [i6 r_12.1], .ptr 4 0]), (29, .int .u8 r_69), (31, i6 (IntKind.i64.wrap (n_64 + 1))), (33, i6 (IntKind.i64.wrap (more_34 - 1)))] [[.sl (c_1.map A_claim) none], (C_V8_i64 left_2), [.int .u8 0], [.yld Lp_13.l 0], [.fn 92 [] [.ptr 3 0, .rop [i6 r_12.1], .ptr 4 0]]] [(0, 0)] (leC hcn_28 (by simp [setAll])) (by simp) ⟨rfl, rfl, (by show re 5 [0] (.rop [i6 r_12.1]) = some (.rop [i6 r_12.1]); simp [re, re1, AV.clean, List.idxOf?, List.findIdx?, List.findIdx?.go, cleanL, cleanI, cleanBo, cleanSt, cleanII, KL_bk_Drum, KL_Fund, KL_Bill, KL_Ledger, KL_claim, KL_V8_i64, A_bk_Drum, C_bk_Drum, A_Fund, C_Fund, A_Bill, C_Bill, A_Ledger, C_Ledger, A_claim, C_claim, A_V8_i64, C_V8_i64]), rfl, rfl, (by show re 5 [0] (.fn 92 [] [.ptr 3 0, .rop [i6 r_12.1], .ptr 4 0]) = some (.fn 92 [] [.ptr 3 0, .rop [i6 r_12.1], .ptr 4 0]); simp [re, re1, AV.clean, List.idxOf?, List.findIdx?, List.findIdx?.go, cleanL, cleanI, cleanBo, cleanSt, cleanII, KL_bk_Drum, KL_Fund, KL_Bill, KL_Ledger, KL_claim, KL_V8_i64, A_bk_Drum, C_bk_Drum, A_Fund, C_Fund, A_Bill, C_Bill, A_Ledger, C_Ledger, A_claim, C_claim, A_V8_i64, C_V8_i64]), rfl, rfl, rfl, trivial⟩ (by simp) rfl (by decide) (sig0 1 hcm_29 rfl)) ?_
           refine ExI.castA (a2 := mkS 36 [(0, .int .u8 begun_32), (2, i6 more_34), (4, .rop [i6 r_12.1]), (5, .ptr 4 0), (10, i6 n_64), (28, .fn 92 [] [.ptr 3 0, .rop [i6 r_12.1], .ptr 4 0]), (29, .int .u8 r_69), (31, i6 (IntKind.i64.wrap (n_64 + 1))), (33, i6 (IntKind.i64.wrap (more_34 - 1)))]) (S2 := ⟨[[.sl (c_1.map A_claim) none], (C_V8_i64 left_2), [.int .u8 0], [.yld Lp_13.l 0], [.fn 92 [] [.ptr 3 0, .rop [i6 r_12.1], .ptr 4 0]]], [(0, 0)]⟩) (by kernel_rfl) (by kernel_rfl) ?_
           refine ExI.one ?_
           refine ExO.inlY (fun v S => ((.inl ()) = s_70 ∧ v = .bool true ∧ S = ⟨[[.sl (c_1.map A_claim) none], (C_V8_i64 left_2), [.int .u8 0], [.yld Lp_13.l 0], [.fn 92 [] [.ptr 3 0, .rop [i6 r_12.1], .ptr 4 0]]], [(0, 0)]⟩) ∨ (∃ (b_72 : Int), (.inr b_72) = s_70 ∧ v = .bool false ∧ S = ⟨[[.sl (c_1.map A_claim) none], (C_V8_i64 left_2), [.int .u8 b_72], [.yld Lp_13.l 0], [.fn 92 [] [.ptr 3 0, .rop [i6 r_12.1], .ptr 4 0]]], [(2, 0)]⟩)) 92 [.int .u8 r_69, i6 (IntKind.i64.wrap (n_64 + 1)), i6 (IntKind.i64.wrap (more_34 - 1)), .ptr 3 0, .rop [i6 r_12.1], .ptr 4 0] _ comp92 (leC hcn_28 (by simp [setAll])) rfl (by kernel_rfl) (mkS 36 [(0, .int .u8 r_69), (1, i6 (IntKind.i64.wrap (n_64 + 1))), (2, i6 (IntKind.i64.wrap (more_34 - 1))), (3, .ptr 3 0), (4, .rop [i6 r_12.1]), (5, .ptr 4 0), (6, .tup []), (7, .tup []), (8, .tup []), (9, .tup []), (10, .tup []), (11, .tup []), (12, .tup []), (13, .tup []), (14, .tup []), (15, .tup []), (16, .tup []), (17, .tup []), (18, .tup []), (19, .tup []), (20, .tup []), (21, .tup []), (22, .tup []), (23, .tup []), (24, .tup []), (25, .tup []), (26, .tup []), (27, .tup []), (28, .tup []), (29, .tup []), (30, .tup []), (31, .tup []), (32, .tup []), (33, .tup []), (34, .tup []), (35, .tup [])]) (by kernel_rfl) (fun c1 g1 g2 g3 => ih_40 r_69 (IntKind.i64.wrap (n_64 + 1)) (IntKind.i64.wrap (more_34 - 1)) _ hs_71 c1 g1 g2 (fun _ _ _ _ _ hq => g3 _ _ _ _ _ (hup_30 _ _ _ _ _ hq))) ?_
           rintro v S (⟨rfl, rfl, rfl⟩ | ⟨b_72, rfl, rfl, rfl⟩)
           ·replace h : K_74 () = some r := h
            subst hK_75
            refine ExO.nil ?_
            refine runI 1 [] [0, 2, 4, 5, 10, 35] [] (mkS 36 [(0, .int .u8 begun_32), (2, i6 more_34), (4, .rop [i6 r_12.1]), (5, .ptr 4 0), (10, i6 n_64), (35, .bool false)]) (⟨[[.sl (c_1.map A_claim) none], (C_V8_i64 left_2), [.int .u8 0], [.yld Lp_13.l 0], [.fn 92 [] [.ptr 3 0, .rop [i6 r_12.1], .ptr 4 0]]], [(0, 0)]⟩) (by kernel_rfl) trivial ?_
            refine ExI.nil ?_
            refine Ex.cond (b := false) rfl ?_
            refine Ex.skip ?_
            refine rg 3 [0, 2, 4, 5, 10] (mkS 36 [(0, .int .u8 begun_32), (2, i6 more_34), (4, .rop [i6 r_12.1]), (5, .ptr 4 0), (10, i6 (IntKind.i64.wrap (n_64 + 1)))]) ⟨[[.sl (c_1.map A_claim) none], (C_V8_i64 left_2), [.int .u8 0], [.yld Lp_13.l 0], [.fn 92 [] [.ptr 3 0, .rop [i6 r_12.1], .ptr 4 0]]], [(0, 0)]⟩ ?_
            dsimp only
            exact ⟨_, _, Forgets.refl _ _ _, k, Nat.lt_succ_self k, (IntKind.i64.wrap (n_64 + 1)), h, rfl, rfl⟩
           ·replace h : K_77 b_72 = some r := h
            subst hK_78
            refine ExO.nil ?_
            refine runI 1 [] [0, 2, 4, 5, 10, 35] [] (mkS 36 [(0, .int .u8 begun_32), (2, i6 more_34), (4, .rop [i6 r_12.1]), (5, .ptr 4 0), (10, i6 n_64), (35, .bool true)]) (⟨[[.sl (c_1.map A_claim) none], (C_V8_i64 left_2), [.int .u8 b_72], [.yld Lp_13.l 0], [.fn 92 [] [.ptr 3 0, .rop [i6 r_12.1], .ptr 4 0]]], [(2, 0)]⟩) (by kernel_rfl) trivial ?_
            refine ExI.nil ?_
            refine Ex.cond (b := true) rfl ?_
            refine Ex.seq (rg 1 [9] (mkS 36 [(9, .bool false)]) ⟨[[.sl (c_1.map A_claim) none], (C_V8_i64 left_2), [.int .u8 b_72], [.yld Lp_13.l 0], [.fn 92 [] [.ptr 3 0, .rop [i6 r_12.1], .ptr 4 0]]], [(2, 0)]⟩ ?_)
            refine Ex.ret ?_
            obtain rfl := sJ h
            exact ⟨_, _, Forgets.refl _ _ _, .inr rfl, _, by kernel_rfl, .inr (⟨b_72, rfl, rfl, rfl⟩)⟩
          ·refine Ex.condF _ rfl hc_68 ?_
           refine Ex.exit ?_
           (try simp only [reduceCtorEq, AEx.ex.injEq, Nat.reduceEqDiff, if_true, if_false])
           exact ⟨_, _, forgetK [], h, rfl, rfl⟩
        ·rintro a S ⟨h, rfl, rfl⟩
         subst hK_63
         refine Ex.seq (rg 1 [9] (mkS 36 [(9, .bool true)]) ⟨[[.sl (c_1.map A_claim) none], (C_V8_i64 left_2), [.int .u8 0], [.yld Lp_13.l 0], [.fn 92 [] [.ptr 3 0, .rop [i6 r_12.1], .ptr 4 0]]], [(0, 0)]⟩ ?_)
         refine Ex.ret ?_
         obtain rfl := sJ h
         exact ⟨_, _, Forgets.refl _ _ _, .inr rfl, _, by kernel_rfl, .inl ⟨rfl, rfl, rfl⟩⟩
     refine ExI.one ?_
     refine ExO.inlY (fun v S => ((.inl ()) = s_42 ∧ v = .bool true ∧ S = ⟨[[.sl (c_1.map A_claim) none], (C_V8_i64 left_2), [.int .u8 0], [.yld Lp_13.l 0], [.fn 92 [] [.ptr 3 0, .rop [i6 r_12.1], .ptr 4 0]]], [(0, 0)]⟩) ∨ (∃ (b_35 : Int), (.inr b_35) = s_42 ∧ v = .bool false ∧ S = ⟨[[.sl (c_1.map A_claim) none], (C_V8_i64 left_2), [.int .u8 b_35], [.yld Lp_13.l 0], [.fn 92 [] [.ptr 3 0, .rop [i6 r_12.1], .ptr 4 0]]], [(2, 0)]⟩)) 92 [.int .u8 0, i6 0, i6 r_12.2, .ptr 3 0, .rop [i6 r_12.1], .ptr 4 0] _ comp92 (leC hcn_15 (by simp [setAll])) rfl (by kernel_rfl) (mkS 36 [(0, .int .u8 0), (1, i6 0), (2, i6 r_12.2), (3, .ptr 3 0), (4, .rop [i6 r_12.1]), (5, .ptr 4 0), (6, .tup []), (7, .tup []), (8, .tup []), (9, .tup []), (10, .tup []), (11, .tup []), (12, .tup []), (13, .tup []), (14, .tup []), (15, .tup []), (16, .tup []), (17, .tup []), (18, .tup []), (19, .tup []), (20, .tup []), (21, .tup []), (22, .tup []), (23, .tup []), (24, .tup []), (25, .tup []), (26, .tup []), (27, .tup []), (28, .tup []), (29, .tup []), (30, .tup []), (31, .tup []), (32, .tup []), (33, .tup []), (34, .tup []), (35, .tup [])]) (by kernel_rfl) (fun c1 g1 g2 g3 => hY_41 N 0 0 r_12.2 _ hs_43 c1 g1 g2 g3) ?_
     rintro v S (⟨rfl, rfl, rfl⟩ | ⟨b_35, rfl, rfl, rfl⟩)
     ·replace h : K_80 () = some r := h
      subst hK_81
      refine ExO.nil ?_
      refine runI 0 [] [] [] (mkS 9 []) (⟨[[.sl (c_1.map A_claim) none], (C_V8_i64 left_2), [.int .u8 0], [.yld Lp_13.l 0], [.fn 92 [] [.ptr 3 0, .rop [i6 r_12.1], .ptr 4 0]]], [(0, 0)]⟩) (by kernel_rfl) trivial ?_
      refine ExI.nil ?_
      exact ⟨_, _, forgetA (m := 9) 3 [0] [] [[.sl (c_1.map A_claim) none], (C_V8_i64 left_2), [.int .u8 0]] [(0, 0)] (leC hcn_15 (by simp [setAll])) (by simp) trivial (by simp) rfl (by decide) (sig0 1 hcm_16 rfl), .inl rfl, 0, rfl, (.inl ⟨by first | rfl | trivial, h, rfl⟩)⟩
     ·replace h : K_83 b_35 = some r := h
      subst hK_84
      refine ExO.nil ?_
      refine runI 0 [] [] [] (mkS 9 []) (⟨[[.sl (c_1.map A_claim) none], (C_V8_i64 left_2), [.int .u8 b_35], [.yld Lp_13.l 0], [.fn 92 [] [.ptr 3 0, .rop [i6 r_12.1], .ptr 4 0]]], [(2, 0)]⟩) (by kernel_rfl) trivial ?_
      refine ExI.nil ?_
      exact ⟨_, _, forgetA (m := 9) 3 [0] [] [[.sl (c_1.map A_claim) none], (C_V8_i64 left_2), [.int .u8 b_35]] [(2, 0)] (leC hcn_15 (by simp [setAll])) (by simp) trivial (by simp) rfl (by decide) (sig0 1 hcm_16 rfl), .inl rfl, 2, rfl, (.inr (⟨by first | rfl | trivial, b_35, h, rfl⟩))⟩
    ·rintro k S (⟨rfl, h, rfl⟩ | ⟨rfl, b_23, h, rfl⟩)
     ·subst hK_22
      refine rg 2 [2, 3, 4, 5, 10, 11] (mkS 27 [(2, .ptr 0 0), (3, .ptr 1 0), (4, .int .u8 0), (5, .ptr 2 0), (10, i6 (IntKind.i64.wrap (((c_1.length : Nat) : Int) + 1))), (11, i6 (IntKind.i64.wrap (y_7 + 1)))]) ⟨[[.sl (c_1.map A_claim) none], (C_V8_i64 left_2), [.int .u8 0]], [(0, 0)]⟩ ?_
      dsimp only
      exact ⟨_, _, forgetA (m := 27) 3 [] [(2, .ptr 0 0), (3, .ptr 1 0), (4, .int .u8 0), (5, .ptr 2 0), (10, i6 (IntKind.i64.wrap (((c_1.length : Nat) : Int) + 1))), (11, i6 (IntKind.i64.wrap (y_7 + 1)))] [[.sl (c_1.map A_claim) none], (C_V8_i64 left_2), [.int .u8 0]] [] (by simp [setAll]) (by simp) ⟨rfl, rfl, rfl, rfl, rfl, rfl, trivial⟩ (by simp) rfl (by decide), k, Nat.lt_succ_self k, (IntKind.i64.wrap (y_7 + 1)), h, rfl, rfl⟩
     ·subst hK_26
      (try simp only [reduceCtorEq, AEx.ex.injEq, Nat.reduceEqDiff, if_true, if_false])
      exact ⟨_, _, forgetA (m := 27) 3 [] [(5, .ptr 2 0)] [[.sl (c_1.map A_claim) none], (C_V8_i64 left_2), [.int .u8 b_23]] [] (by simp [setAll]) (by simp) ⟨rfl, trivial⟩ (by simp) rfl (by decide), b_23, h, rfl, rfl⟩
   ·refine Ex.condF _ rfl hc_11 ?_
    refine Ex.exit ?_
    (try simp only [reduceCtorEq, AEx.ex.injEq, Nat.reduceEqDiff, if_true, if_false])
    exact ⟨_, _, forgetK [5], 0, h, rfl, rfl⟩
 ·rintro a S ⟨b_3, h, rfl, rfl⟩
  subst hK_6
  refine Ex.seq (rg 2 [4] (mkS 27 [(4, .int .u8 b_3)]) ⟨[[.sl (c_1.map A_claim) none], (C_V8_i64 left_2), [.int .u8 b_3]], []⟩ ?_)
  refine Ex.ret ?_
  obtain rfl := sJ h
  exact rt (.int .u8 b_3)
def p_slices_AppendSeq_int_intn_set_numbers_1r (N : Nat) (a_1 : Int) : Option ((List Int)) := (letJ (fun (b_9 : List Int) => some b_9) (fun k_10 => (letJ (fun (b_13 : List Int) => (k_10 b_13)) (fun k_14 => (loop2 (fun rec_19 (rest_17 : Int) (b_18 : List Int) => (bif (rest_17 != 0) then ((p_math_bits_TrailingZeros8 N rest_17).bind fun r_23 => (letJ (fun (b_32 : List Int) => ((some (IntKind.u8.wrap (((BitVec.ofInt (IntKind.bits .u8) rest_17 &&& BitVec.ofInt (IntKind.bits .u8) (IntKind.u8.wrap (rest_17 - 1))).toNat : Nat) : Int))).bind fun n_37 => (rec_19 n_37 b_32))) (fun k_33 => ((pushI b_18 ([r_23] : List Int)).bind fun l_36 => (k_33 l_36))))) else (k_14 b_18))) N a_1 [])))))
def v_slices_AppendSeq_int_intn_set_numbers_1r (r : (List Int)) : AV := .sl (r.map (AV.int .i64)) none
attribute [local simp] v_slices_AppendSeq_int_intn_set_numbers_1r
theorem b_slices_AppendSeq_int_intn_set_numbers_1r (r : (List Int)) (n n2 m : Nat) : back n n2 m (v_slices_AppendSeq_int_intn_set_numbers_1r r) = some (v_slices_AppendSeq_int_intn_set_numbers_1r r) := by simp
theorem d_slices_AppendSeq_int_intn_set_numbers_1r (N : Nat) (a_1 : Int) (r : (List Int)) (h : p_slices_AppendSeq_int_intn_set_numbers_1r N a_1 = some r) : Does Try.prog 73 [.nils, .fn 74 [] [.rop [.int .u8 a_1]]] [] fun v c => v = v_slices_AppendSeq_int_intn_set_numbers_1r r ∧ c = [] := by
 unfold p_slices_AppendSeq_int_intn_set_numbers_1r at h
 refine Does.ofL comp73 _ _ rfl rfl ?_
 refine Ex.seq (rg 2 [1, 2, 4] (mkS 13 [(1, .fn 74 [] [.rop [.int .u8 a_1]]), (2, .ptr 0 0), (4, .nils)]) ⟨[[.nils]], []⟩ ?_)
 refine Ex.seq (Ex.seq ?_)
 refine rg 1 [2, 4, 6] (mkS 13 [(2, .ptr 0 0), (4, .nils), (6, .fn 74 [] [.rop [.int .u8 a_1]])]) ⟨[[.nils]], []⟩ ?_
 refine Ex.blockK ?_
 obtain ⟨K_11, hK_12, h⟩ := letE h
 refine Ex.rangeJ (fun k S => (k = 0 ∧ ∃ (b_9 : List Int), K_11 b_9 = some r ∧ S = ⟨[[.sl (b_9.map (AV.int .i64)) (some 1)]], [(0, 0), (b_9.length, 1)]⟩)) 74 [.rop [.int .u8 a_1]] _ rfl comp74 rfl (by simp [setAll]) (by exact trivial) (mkS 16 [(1, .rop [.int .u8 a_1]), (2, .tup []), (3, .tup []), (4, .tup []), (5, .tup []), (6, .tup []), (7, .tup []), (8, .tup []), (9, .tup []), (10, .tup []), (11, .tup []), (12, .tup []), (13, .tup []), (14, .tup []), (15, .tup [])]) (⟨[[.nils]], [(0, 0)]⟩) (fun _ => by kernel_rfl) (by kernel_rfl) ?_ ?_
 ·intro cx_3 Lp_2 hcn_4 hcm_5 hLt_6 hL_7 hup_8
  refine Ex.castA (a2 := mkS 16 [(0, .yld Lp_2.l 0), (1, .rop [.int .u8 a_1]), (2, .tup []), (3, .tup []), (4, .tup []), (5, .tup []), (6, .tup []), (7, .tup []), (8, .tup []), (9, .tup []), (10, .tup []), (11, .tup []), (12, .tup []), (13, .tup []), (14, .tup []), (15, .tup [])]) (S2 := ⟨[[.nils]], [(0, 0)]⟩) (by kernel_rfl) rfl ?_
  refine Ex.seq (rg 2 [0, 3] (mkS 16 [(0, .yld Lp_2.l 0), (3, .int .u8 a_1)]) ⟨[[.nils]], [(0, 0)]⟩ ?_)
  obtain ⟨K_15, hK_16, h⟩ := letE h
  refine Ex.blockJ (fun a S => ∃ (b_13 : List Int), K_15 b_13 = some r ∧ a = mkS 16 [] ∧ S = ⟨[[.sl (b_13.map (AV.int .i64)) (some 1)]], [(0, 0), (b_13.length, 1)]⟩) ?_ ?_
  ·refine Ex.forget (nilB 0 0 1 [.nils] rfl rfl) ?_
   refine Ex.castA (a2 := mkS 16 [(0, .yld Lp_2.l 0), (3, .int .u8 a_1)]) (S2 := ⟨[[.sl (([] : List Int).map (AV.int .i64)) (some 1)]], [(0, 0), (0, 1)]⟩) (by kernel_rfl) (by kernel_rfl) ?_
   obtain ⟨B_20, hB_21, h⟩ := loop2I h
   refine Ex.loopF (fun k a S => ∃ (rest_17 : Int), ∃ (b_18 : List Int), loop2 B_20 k rest_17 b_18 = some r ∧ a = mkS 16 [(0, .yld Lp_2.l 0), (3, .int .u8 rest_17)] ∧ S = ⟨[[.sl (b_18.map (AV.int .i64)) (some 1)]], [(0, 0), (b_18.length, 1)]⟩) N ⟨_, _, Forgets.refl _ _ _, a_1, [], h, rfl, rfl⟩ ?_
   rintro k a S ⟨rest_17, b_18, h, rfl, rfl⟩
   cases k with
   | zero => exact (loop2Z h).elim
   | succ k =>
    replace h := loop2S h hB_21
    refine Ex.seq (Ex.seq ?_)
    refine rg 2 [0, 3, 6] (mkS 16 [(0, .yld Lp_2.l 0), (3, .int .u8 rest_17), (6, .bool (rest_17 != 0))]) ⟨[[.sl (b_18.map (AV.int .i64)) (some 1)]], [(0, 0), (b_18.length, 1)]⟩ ?_
    rcases condI h with ⟨hc_22, h⟩ | ⟨hc_22, h⟩
    ·refine Ex.condT _ rfl hc_22 ?_
     refine Ex.skip ?_
     refine Ex.seq ?_
     refine Ex.blockK ?_
     refine Ex.seq ?_
     obtain ⟨r_23, hr_23, h⟩ := bE h
     refine Ex.regI ?_
     refine runI 2 [] [0, 3, 11, 12] [] (mkS 16 [(0, .yld Lp_2.l 0), (3, .int .u8 rest_17), (11, .yld Lp_2.l 0), (12, .int .u8 rest_17)]) (⟨[[.sl (b_18.map (AV.int .i64)) (some 1)]], [(0, 0), (b_18.length, 1)]⟩) (by kernel_rfl) trivial ?_
     refine ExI.one ?_
     refine ExO.callL [] [.int .u8 rest_17] rfl rfl (a_math_bits_TrailingZeros8 rest_17) rfl rfl (d_math_bits_TrailingZeros8 N rest_17 r_23 hr_23) (b_math_bits_TrailingZeros8 _ _ _ _) rfl ?_
     refine ExO.nil ?_
     obtain ⟨K_34, hK_35, h⟩ := letE h
     refine ExI.yieldT 0 hLt_6 hL_7 [i6 r_23] rfl rfl rfl (by kernel_rfl) rfl rfl (leC hcn_4 (by simp [setAll])) ?_
     intro ca_24 cb_25 ha_26 hb_27 hma_28 hmb_29 hup_30 hbz_31
     refine Ex.castA (a2 := mkS 13 [(2, .ptr 0 0), (4, .nils), (6, .fn 74 [] [.rop [.int .u8 a_1]]), (7, i6 r_23)]) (S2 := ⟨[[.sl (b_18.map (AV.int .i64)) (some 1)]], [(0, 0), (b_18.length, 1)]⟩) (by kernel_rfl) (by kernel_rfl) ?_
     refine Ex.two (fun z S => (z = AEx.norm ∧ ∃ (b_32 : List Int), K_34 b_32 = some r ∧ S = ⟨[[.sl (b_32.map (AV.int .i64)) (some 1)]], [(0, 0), (b_32.length, 1)]⟩)) ?_ ?_
     ·refine rg 1 [2, 5] (mkS 13 [(2, .ptr 0 0), (5, i6 r_23)]) ⟨[[.sl (b_18.map (AV.int .i64)) (some 1)]], [(0, 0), (b_18.length, 1)]⟩ ?_
      refine ⟨rfl, rfl, ?_⟩
      refine Ex.blockK ?_
      obtain ⟨l_36, hl_36, h⟩ := bE h
      refine regH 5 [(3, .app (l_36.map (AV.int .i64)) l_36.length)] [] [LApp b_18.length (b_18.map (AV.int .i64)) (([r_23] : List Int).map (AV.int .i64)) 1 (l_36.map (AV.int .i64)) l_36.length] (mkS 13 []) (⟨[[.sl (l_36.map (AV.int .i64)) (some 1)]], [(0, 0), (l_36.length, 1), (1, 1)]⟩) (by kernel_rfl) ⟨LApp.of hl_36 (fun _ => rfl), trivial⟩ rfl ?_
      (try simp only [reduceCtorEq, AEx.ex.injEq, Nat.reduceEqDiff, if_true, if_false])
      exact ⟨_, _, forgetA (m := 13) 1 [0, 1] [] [[.sl (l_36.map (AV.int .i64)) (some 1)]] [(0, 0), (l_36.length, 1)] (leC hb_27 (by simp [setAll])) (by simp) trivial (by simp) rfl (by decide) (sig0 2 hmb_29 rfl), ⟨by first | rfl | trivial, l_36, h, rfl⟩⟩
     ·rintro z a2 S (⟨rfl, b_32, h, rfl⟩)
      subst hK_35
      refine runI 1 [] [0, 3, 15] [] (mkS 16 [(0, .yld Lp_2.l 0), (3, .int .u8 rest_17), (15, .bool false)]) (⟨[[.sl (b_32.map (AV.int .i64)) (some 1)]], [(0, 0), (b_32.length, 1)]⟩) (by kernel_rfl) trivial ?_
      refine ExI.nil ?_
      refine Ex.cond (b := false) rfl ?_
      refine Ex.skip ?_
      obtain ⟨n_37, hn_37, h⟩ := bE h
      refine regH 5 [(3, .eq (.int .u8 n_37))] [0, 3] [AV.int .u8 (IntKind.u8.wrap (((BitVec.ofInt (IntKind.bits .u8) rest_17 &&& BitVec.ofInt (IntKind.bits .u8) (IntKind.u8.wrap (rest_17 - 1))).toNat : Nat) : Int)) = AV.int .u8 n_37] (mkS 16 [(0, .yld Lp_2.l 0), (3, .int .u8 n_37)]) (⟨[[.sl (b_32.map (AV.int .i64)) (some 1)]], [(0, 0), (b_32.length, 1)]⟩) (by kernel_rfl) ⟨congrArg (AV.int .u8) (Option.some.inj hn_37), trivial⟩ rfl ?_
      dsimp only
      exact ⟨_, _, Forgets.refl _ _ _, k, Nat.lt_succ_self k, n_37, b_32, h, rfl, rfl⟩
    ·refine Ex.condF _ rfl hc_22 ?_
     refine Ex.exit ?_
     (try simp only [reduceCtorEq, AEx.ex.injEq, Nat.reduceEqDiff, if_true, if_false])
     exact ⟨_, _, forgetK [], b_18, h, rfl, rfl⟩
  ·rintro a S ⟨b_13, h, rfl, rfl⟩
   subst hK_16
   exact ⟨_, _, Forgets.refl _ _ _, .inl rfl, 0, rfl, ⟨by first | rfl | trivial, b_13, h, rfl⟩⟩
 ·rintro k S (⟨rfl, b_9, h, rfl⟩)
  subst hK_12
  refine Ex.seq (rg 2 [4] (mkS 13 [(4, .sl (b_9.map (AV.int .i64)) (some 1))]) ⟨[[.sl (b_9.map (AV.int .i64)) (some 1)]], [(0, 0), (b_9.length, 1)]⟩ ?_)
  refine Ex.ret ?_
  obtain rfl := sJ h
  exact rt (.sl (b_9.map (AV.int .i64)) (some 1))
def p_slices_Collect_int_set_numbers_1r (N : Nat) (a_1 : Int) : Option ((List Int)) := ((p_slices_AppendSeq_int_intn_set_numbers_1r N a_1).bind fun r_2 => some r_2)
def v_slices_Collect_int_set_numbers_1r (r : (List Int)) : AV := .sl (r.map (AV.int .i64)) none
attribute [local simp] v_slices_Collect_int_set_numbers_1r
theorem b_slices_Collect_int_set_numbers_1r (r : (List Int)) (n n2 m : Nat) : back n n2 m (v_slices_Collect_int_set_numbers_1r r) = some (v_slices_Collect_int_set_numbers_1r r) := by simp
theorem d_slices_Collect_int_set_numbers_1r (N : Nat) (a_1 : Int) (r : (List Int)) (h : p_slices_Collect_int_set_numbers_1r N a_1 = some r) : Does Try.prog 47 [.fn 74 [] [.rop [.int .u8 a_1]]] [] fun v c => v = v_slices_Collect_int_set_numbers_1r r ∧ c = [] := by
 unfold p_slices_Collect_int_set_numbers_1r at h
 refine Does.ofL comp47 _ _ rfl rfl ?_
 refine Ex.seq (rg 1 [0] (mkS 5 [(0, .fn 74 [] [.rop [.int .u8 a_1]])]) ⟨[], []⟩ ?_)
 refine Ex.seq ?_
 obtain ⟨r_2, hr_2, h⟩ := bE h
 refine Ex.reg (rn 1 [3] (mkS 5 [(3, .fn 74 [] [.rop [.int .u8 a_1]])]) ⟨[], []⟩ ?_)
 refine ExO.callN [] [.nils, .fn 74 [] [.rop [.int .u8 a_1]]] rfl rfl rfl (by simp; try rfl) rfl rfl (d_slices_AppendSeq_int_intn_set_numbers_1r N a_1 r_2 hr_2) (b_slices_AppendSeq_int_intn_set_numbers_1r _ _ _ _) rfl ?_
 refine rn 1 [2] (mkS 5 [(2, .sl (r_2.map (AV.int .i64)) none)]) ⟨[], []⟩ ?_
 refine ExO.nil ?_
 refine Ex.ret ?_
 obtain rfl := sJ h
 exact rt (.sl (r_2.map (AV.int .i64)) none)
def p_Short (N : Nat) (l_1 : T_Ledger) : Option ((List Int) × Int) := ((p_Check N l_1).bind fun r_2 => (bif (r_2 != 0) then some ([], r_2) else ((p_claimsOf N l_1).bind fun r_4 => ((p_purseOf N l_1).bind fun r_6 => ((p_claims_proof N r_4 r_6).bind fun r_7 => (bif (r_7 == 0) then some ([], 7) else ((p_set_numbers N r_7).bind fun r_9 => ((p_slices_Collect_int_set_numbers_1r N r_9).bind fun r_10 => some (r_10, 0)))))))))
def v_Short (r : (List Int) × Int) : AV := .tup [.sl (r.1.map (AV.int .i64)) none, i6 r.2]
attribute [local simp] v_Short
theorem a_Short (l_1 : T_Ledger) : [(A_Ledger l_1)].mapM (ren []) = some [(A_Ledger l_1)] := by simp
theorem b_Short (r : (List Int) × Int) (n n2 m : Nat) : back n n2 m (v_Short r) = some (v_Short r) := by simp
theorem d_Short (N : Nat) (l_1 : T_Ledger) (r : (List Int) × Int) (h : p_Short N l_1 = some r) : Does Try.prog 17 [(A_Ledger l_1)] [] fun v c => v = v_Short r ∧ c = [] := by
 unfold p_Short at h
 refine Does.ofL comp17 _ _ rfl rfl ?_
 refine Ex.seq (rg 3 [1] (mkS 21 [(1, .ptr 0 0)]) ⟨[(C_Ledger l_1)], []⟩ ?_)
 refine Ex.seq (Ex.seq ?_)
 obtain ⟨r_2, hr_2, h⟩ := bE h
 refine Ex.reg (rn 1 [1, 6] (mkS 21 [(1, .ptr 0 0), (6, (A_Ledger l_1))]) ⟨[(C_Ledger l_1)], []⟩ ?_)
 refine ExO.callL [] [(A_Ledger l_1)] rfl rfl (a_Check l_1) rfl rfl (d_Check N l_1 r_2 hr_2) (b_Check _ _ _ _) rfl ?_
 refine rn 1 [1, 4] (mkS 21 [(1, .ptr 0 0), (4, i6 r_2)]) ⟨[(C_Ledger l_1)], []⟩ ?_
 refine ExO.nil ?_
 refine Ex.seq (rg 2 [1, 4, 9] (mkS 21 [(1, .ptr 0 0), (4, i6 r_2), (9, .bool (r_2 != 0))]) ⟨[(C_Ledger l_1)], []⟩ ?_)
 rcases condI h with ⟨hc_3, h⟩ | ⟨hc_3, h⟩
 ·refine Ex.condT _ rfl hc_3 ?_
  refine Ex.seq (rg 3 [2, 3] (mkS 21 [(2, .nils), (3, i6 r_2)]) ⟨[(C_Ledger l_1)], []⟩ ?_)
  refine Ex.ret ?_
  obtain rfl := sJ h
  exact rt (.tup [.nils, i6 r_2])
 ·refine Ex.condF _ rfl hc_3 ?_
  refine Ex.skip ?_
  refine Ex.seq ?_
  obtain ⟨r_4, hr_4, h⟩ := bE h
  have hT_5 : DoesA Try.prog [⟨38, [(A_Ledger l_1)], [], (v_claimsOf r_4), []⟩] ∧ ConsA [⟨38, [(A_Ledger l_1)], [], (v_claimsOf r_4), []⟩] := ⟨⟨(d_claimsOf N l_1 r_4 hr_4), rfl, trivial⟩, ⟨trivial, trivial⟩⟩
  refine Ex.drawE (a1 := mkS 21 [(1, .ptr 0 0), (4, i6 r_2), (9, .bool (r_2 != 0)), (11, (A_Ledger l_1)), (12, .sl (r_4.map A_claim) none), (13, (A_Ledger l_1))]) (tabO_ok hT_5.1) [] [] [] ?_ ?_
  ·refine drS [0] 1 [] [] (mkS 21 [(1, .ptr 0 0), (4, i6 r_2), (9, .bool (r_2 != 0)), (11, (A_Ledger l_1))]) (by simp) (by kernel_rfl) trivial (by kernel_rfl) ?_
   refine drC hT_5.2 0 _ [(A_Ledger l_1)] (v_claimsOf r_4) rfl rfl rfl rfl rfl (fun _ => rfl) rfl (by simp; try rfl) (fun _ => b_claimsOf _ _ _ _) ?_
   refine drS [0] 1 [] [] (mkS 21 [(1, .ptr 0 0), (4, i6 r_2), (9, .bool (r_2 != 0)), (11, (A_Ledger l_1)), (12, .sl (r_4.map A_claim) none), (13, (A_Ledger l_1))]) (by simp) (by kernel_rfl) trivial (by kernel_rfl) ?_
   exact DrO.nil rfl
  ·dsimp only [List.getLastD_cons, List.getLastD_nil]
   obtain ⟨r_6, hr_6, h⟩ := bE h
   refine ExO.callL [] [(A_Ledger l_1)] rfl rfl (a_purseOf l_1) rfl rfl (d_purseOf N l_1 r_6 hr_6) (b_purseOf _ _ _ _) rfl ?_
   obtain ⟨r_7, hr_7, h⟩ := bE h
   refine ExO.callL [] [.sl (r_4.map A_claim) none, (A_V8_i64 r_6)] rfl rfl (a_claims_proof r_4 r_6) rfl rfl (d_claims_proof N r_4 r_6 r_7 hr_7) (b_claims_proof _ _ _ _) rfl ?_
   refine rn 1 [5] (mkS 21 [(5, .int .u8 r_7)]) ⟨[(C_Ledger l_1)], []⟩ ?_
   refine ExO.nil ?_
   refine Ex.seq (Ex.seq ?_)
   refine rg 2 [5, 17] (mkS 21 [(5, .int .u8 r_7), (17, .bool (r_7 == 0))]) ⟨[(C_Ledger l_1)], []⟩ ?_
   rcases condI h with ⟨hc_8, h⟩ | ⟨hc_8, h⟩
   ·refine Ex.condT _ rfl hc_8 ?_
    refine Ex.seq (rg 2 [2, 3] (mkS 21 [(2, .nils), (3, i6 7)]) ⟨[(C_Ledger l_1)], []⟩ ?_)
    refine Ex.ret ?_
    obtain rfl := sJ h
    exact rt (.tup [.nils, i6 7])
   ·refine Ex.condF _ rfl hc_8 ?_
    refine Ex.skip ?_
    refine Ex.seq ?_
    obtain ⟨r_9, hr_9, h⟩ := bE h
    refine Ex.reg (rn 1 [18] (mkS 21 [(18, .int .u8 r_7)]) ⟨[(C_Ledger l_1)], []⟩ ?_)
    refine ExO.callL [] [.int .u8 r_7] rfl rfl (a_set_numbers r_7) rfl rfl (d_set_numbers N r_7 r_9 hr_9) (b_set_numbers _ _ _ _) rfl ?_
    obtain ⟨r_10, hr_10, h⟩ := bE h
    refine ExO.callL [] [.fn 74 [] [.rop [.int .u8 r_9]]] rfl rfl (by simp; try rfl) rfl rfl (d_slices_Collect_int_set_numbers_1r N r_9 r_10 hr_10) (b_slices_Collect_int_set_numbers_1r _ _ _ _) rfl ?_
    refine rn 2 [2, 3] (mkS 21 [(2, .sl (r_10.map (AV.int .i64)) none), (3, i6 0)]) ⟨[(C_Ledger l_1)], []⟩ ?_
    refine ExO.nil ?_
    refine Ex.ret ?_
    obtain rfl := sJ h
    exact rt (.tup [.sl (r_10.map (AV.int .i64)) none, i6 0])
def p_slices_Values_claims_claim (N : Nat) (s_1 : (List T_claim)) : Option ((List T_claim)) := some s_1
def v_slices_Values_claims_claim (r : (List T_claim)) : AV := .fn 95 [] [.rop [.sl (r.map A_claim) none]]
attribute [local simp] v_slices_Values_claims_claim
theorem a_slices_Values_claims_claim (s_1 : (List T_claim)) : [.sl (s_1.map A_claim) none].mapM (ren []) = some [.sl (s_1.map A_claim) none] := by simp
theorem b_slices_Values_claims_claim (r : (List T_claim)) (n n2 m : Nat) : back n n2 m (v_slices_Values_claims_claim r) = some (v_slices_Values_claims_claim r) := by simp
theorem d_slices_Values_claims_claim (N : Nat) (s_1 : (List T_claim)) (r : (List T_claim)) (h : p_slices_Values_claims_claim N s_1 = some r) : Does Try.prog 77 [.sl (s_1.map A_claim) none] [] fun v c => v = v_slices_Values_claims_claim r ∧ c = [] := by
 unfold p_slices_Values_claims_claim at h
 refine Does.ofL comp77 _ _ rfl rfl ?_
 refine Ex.seq (rg 2 [1] (mkS 4 [(1, .ptr 0 0)]) ⟨[[.sl (s_1.map A_claim) none]], []⟩ ?_)
 refine Ex.seq (rg 2 [2] (mkS 4 [(2, .fn 95 [] [.ptr 0 0])]) ⟨[[.sl (s_1.map A_claim) none]], []⟩ ?_)
 refine Ex.forget (forgetK [2]) ?_
 refine Ex.castA (a2 := mkS 4 [(2, .fn 95 [] [.ptr 0 0])]) (S2 := ⟨[[.sl (s_1.map A_claim) none]], []⟩) (by kernel_rfl) (by kernel_rfl) ?_
 obtain rfl := sJ h
 refine Ex.forget (chillP 2 0 [.sl (s_1.map A_claim) none] _ rfl rfl) ?_
 refine Ex.castA (a2 := mkS 4 [(2, .fn 95 [] [.rop [.sl (s_1.map A_claim) none]])]) (S2 := ⟨[[]], []⟩) (by kernel_rfl) (by kernel_rfl) ?_
 refine Ex.ret ?_
 exact rt (.fn 95 [] [.rop [.sl (s_1.map A_claim) none]])
def p_claims_payable_1 (N : Nat) (x_1 : T_claim) (a_2 : Int) : Option (Int) := ((p_set_has N x_1.payers_ a_2).bind fun r_3 => (bif r_3 then some x_1.amount_ else some 0))
def v_claims_payable_1 (r : Int) : AV := i6 r
attribute [local simp] v_claims_payable_1
theorem b_claims_payable_1 (r : Int) (n n2 m : Nat) : back n n2 m (v_claims_payable_1 r) = some (v_claims_payable_1 r) := by simp
theorem d_claims_payable_1 (N : Nat) (x_1 : T_claim) (a_2 : Int) (r : Int) (h : p_claims_payable_1 N x_1 a_2 = some r) : Does Try.prog 78 [(A_claim x_1), .ptr 0 0] [[i6 a_2]] fun v c => v = v_claims_payable_1 r ∧ c = [[i6 a_2]] := by
 unfold p_claims_payable_1 at h
 refine Does.ofL comp78 _ _ rfl rfl ?_
 refine Ex.seq (rg 2 [1, 2] (mkS 10 [(1, .ptr 0 0), (2, .ptr 1 0)]) ⟨[[i6 a_2], (C_claim x_1)], []⟩ ?_)
 refine Ex.seq (Ex.seq ?_)
 obtain ⟨r_3, hr_3, h⟩ := bE h
 refine Ex.reg (rn 3 [2, 5, 6] (mkS 10 [(2, .ptr 1 0), (5, .int .u8 x_1.payers_), (6, i6 a_2)]) ⟨[[i6 a_2], (C_claim x_1)], []⟩ ?_)
 refine ExO.callL [] [.int .u8 x_1.payers_, i6 a_2] rfl rfl (a_set_has x_1.payers_ a_2) rfl rfl (d_set_has N x_1.payers_ a_2 r_3 hr_3) (b_set_has _ _ _ _) rfl ?_
 refine rn 0 [2, 7] (mkS 10 [(2, .ptr 1 0), (7, .bool r_3)]) ⟨[[i6 a_2], (C_claim x_1)], []⟩ ?_
 refine ExO.nil ?_
 rcases condI h with ⟨hc_4, h⟩ | ⟨hc_4, h⟩
 ·refine Ex.condT _ rfl hc_4 ?_
  refine Ex.seq (rg 3 [3] (mkS 10 [(3, i6 x_1.amount_)]) ⟨[[i6 a_2], (C_claim x_1)], []⟩ ?_)
  refine Ex.ret ?_
  obtain rfl := sJ h
  exact rt (i6 x_1.amount_)
 ·refine Ex.condF _ rfl hc_4 ?_
  refine Ex.skip ?_
  refine Ex.seq (rg 1 [3] (mkS 10 [(3, i6 0)]) ⟨[[i6 a_2], (C_claim x_1)], []⟩ ?_)
  refine Ex.ret ?_
  obtain rfl := sJ h
  exact rt (i6 0)
def p_sum_claim_claim_1r_claims_payable_1 (N : Nat) (a_1 : (List T_claim)) (a_2 : Int) : Option (Int) := (letJ (fun (b_10 : Int) => some b_10) (fun k_11 => (letJ (fun (b_14 : Int) => (k_11 b_14)) (fun k_15 => (loop2 (fun rec_20 (y_18 : Int) (b_19 : Int) => (bif (decide (y_18 < ((a_1.length : Nat) : Int))) then ((getI a_1 y_18).bind fun x_24 => (letJ (fun (b_33 : Int) => (rec_20 (IntKind.i64.wrap (y_18 + 1)) b_33)) (fun k_34 => ((p_claims_payable_1 N x_24 a_2).bind fun r_37 => (k_34 (IntKind.i64.wrap (b_19 + r_37))))))) else (k_15 b_19))) N 0 0)))))
def v_sum_claim_claim_1r_claims_payable_1 (r : Int) : AV := i6 r
attribute [local simp] v_sum_claim_claim_1r_claims_payable_1
theorem b_sum_claim_claim_1r_claims_payable_1 (r : Int) (n n2 m : Nat) : back n n2 m (v_sum_claim_claim_1r_claims_payable_1 r) = some (v_sum_claim_claim_1r_claims_payable_1 r) := by simp
theorem d_sum_claim_claim_1r_claims_payable_1 (N : Nat) (a_1 : (List T_claim)) (a_2 : Int) (r : Int) (h : p_sum_claim_claim_1r_claims_payable_1 N a_1 a_2 = some r) : Does Try.prog 76 [.fn 95 [] [.rop [.sl (a_1.map A_claim) none]], .fn 78 [] [.ptr 0 0]] [[i6 a_2]] fun v c => v = v_sum_claim_claim_1r_claims_payable_1 r ∧ c = [[i6 a_2]] := by
 unfold p_sum_claim_claim_1r_claims_payable_1 at h
 refine Does.ofL comp76 _ _ rfl rfl ?_
 refine Ex.seq (rg 2 [0, 3, 4] (mkS 15 [(0, .fn 95 [] [.rop [.sl (a_1.map A_claim) none]]), (3, .ptr 1 0), (4, i6 0)]) ⟨[[i6 a_2], [.fn 78 [] [.ptr 0 0]]], []⟩ ?_)
 refine Ex.seq (rg 2 [0, 3, 4, 5] (mkS 15 [(0, .fn 95 [] [.rop [.sl (a_1.map A_claim) none]]), (3, .ptr 1 0), (4, i6 0), (5, .ptr 2 0)]) ⟨[[i6 a_2], [.fn 78 [] [.ptr 0 0]], [i6 0]], []⟩ ?_)
 refine Ex.seq (Ex.seq ?_)
 refine rg 1 [3, 4, 5, 7] (mkS 15 [(3, .ptr 1 0), (4, i6 0), (5, .ptr 2 0), (7, .fn 95 [] [.rop [.sl (a_1.map A_claim) none]])]) ⟨[[i6 a_2], [.fn 78 [] [.ptr 0 0]], [i6 0]], []⟩ ?_
 refine Ex.blockK ?_
 obtain ⟨K_12, hK_13, h⟩ := letE h
 refine Ex.rangeJ (fun k S => (k = 0 ∧ ∃ (b_10 : Int), K_12 b_10 = some r ∧ S = ⟨[[i6 a_2], [.fn 78 [] [.ptr 0 0]], [i6 b_10]], [(0, 0)]⟩)) 95 [.rop [.sl (a_1.map A_claim) none]] _ rfl comp95 rfl (by simp [setAll]) (by exact trivial) (mkS 16 [(1, .rop [.sl (a_1.map A_claim) none]), (2, .tup []), (3, .tup []), (4, .tup []), (5, .tup []), (6, .tup []), (7, .tup []), (8, .tup []), (9, .tup []), (10, .tup []), (11, .tup []), (12, .tup []), (13, .tup []), (14, .tup []), (15, .tup [])]) (⟨[[i6 a_2], [.fn 78 [] [.ptr 0 0]], [i6 0]], [(0, 0)]⟩) (fun _ => by kernel_rfl) (by kernel_rfl) ?_ ?_
 ·intro cx_4 Lp_3 hcn_5 hcm_6 hLt_7 hL_8 hup_9
  refine Ex.castA (a2 := mkS 16 [(0, .yld Lp_3.l 0), (1, .rop [.sl (a_1.map A_claim) none]), (2, .tup []), (3, .tup []), (4, .tup []), (5, .tup []), (6, .tup []), (7, .tup []), (8, .tup []), (9, .tup []), (10, .tup []), (11, .tup []), (12, .tup []), (13, .tup []), (14, .tup []), (15, .tup [])]) (S2 := ⟨[[i6 a_2], [.fn 78 [] [.ptr 0 0]], [i6 0]], [(0, 0)]⟩) (by kernel_rfl) rfl ?_
  refine Ex.seq ?_
  refine regH 3 [(1, .eq (i6 ((a_1.length : Nat) : Int)))] [0, 5, 6, 7] [AV.int .i64 (((a_1.map A_claim).length : Nat) : Int) = AV.int .i64 ((a_1.length : Nat) : Int)] (mkS 16 [(0, .yld Lp_3.l 0), (5, .sl (a_1.map A_claim) none), (6, i6 ((a_1.length : Nat) : Int)), (7, i6 0)]) (⟨[[i6 a_2], [.fn 78 [] [.ptr 0 0]], [i6 0]], [(0, 0)]⟩) (by kernel_rfl) ⟨lenM _ _, trivial⟩ rfl ?_
  obtain ⟨K_16, hK_17, h⟩ := letE h
  refine Ex.blockJ (fun a S => ∃ (b_14 : Int), K_16 b_14 = some r ∧ a = mkS 16 [] ∧ S = ⟨[[i6 a_2], [.fn 78 [] [.ptr 0 0]], [i6 b_14]], [(0, 0)]⟩) ?_ ?_
  ·obtain ⟨B_21, hB_22, h⟩ := loop2I h
   refine Ex.loopF (fun k a S => ∃ (y_18 : Int), ∃ (b_19 : Int), loop2 B_21 k y_18 b_19 = some r ∧ a = mkS 16 [(0, .yld Lp_3.l 0), (5, .sl (a_1.map A_claim) none), (6, i6 ((a_1.length : Nat) : Int)), (7, i6 y_18)] ∧ S = ⟨[[i6 a_2], [.fn 78 [] [.ptr 0 0]], [i6 b_19]], [(0, 0)]⟩) N ⟨_, _, Forgets.refl _ _ _, 0, 0, h, rfl, rfl⟩ ?_
   rintro k a S ⟨y_18, b_19, h, rfl, rfl⟩
   cases k with
   | zero => exact (loop2Z h).elim
   | succ k =>
    replace h := loop2S h hB_22
    refine Ex.seq (rg 1 [0, 5, 6, 7, 8] (mkS 16 [(0, .yld Lp_3.l 0), (5, .sl (a_1.map A_claim) none), (6, i6 ((a_1.length : Nat) : Int)), (7, i6 y_18), (8, .bool (decide (y_18 < ((a_1.length : Nat) : Int))))]) ⟨[[i6 a_2], [.fn 78 [] [.ptr 0 0]], [i6 b_19]], [(0, 0)]⟩ ?_)
    refine Ex.seq ?_
    rcases condI h with ⟨hc_23, h⟩ | ⟨hc_23, h⟩
    ·refine Ex.condT _ rfl hc_23 ?_
     refine Ex.skip ?_
     refine Ex.seq ?_
     refine Ex.blockK ?_
     refine Ex.seq ?_
     obtain ⟨x_24, hx_24, h⟩ := bE h
     refine regH 4 [(0, .rop (C_claim x_24))] [0, 4, 5, 6, 7] [LGet (a_1.map A_claim) y_18 2 (C_claim x_24)] (mkS 16 [(0, .yld Lp_3.l 0), (4, .ptr 3 0), (5, .sl (a_1.map A_claim) none), (6, i6 ((a_1.length : Nat) : Int)), (7, i6 y_18)]) (⟨[[i6 a_2], [.fn 78 [] [.ptr 0 0]], [i6 b_19], (C_claim x_24)], [(0, 0)]⟩) (by kernel_rfl) ⟨LGet.of hx_24 rfl, trivial⟩ rfl ?_
     refine Ex.seq ?_
     refine Ex.regI ?_
     refine runI 2 [] [0, 5, 6, 7, 11, 12] [] (mkS 16 [(0, .yld Lp_3.l 0), (5, .sl (a_1.map A_claim) none), (6, i6 ((a_1.length : Nat) : Int)), (7, i6 y_18), (11, .yld Lp_3.l 0), (12, (A_claim x_24))]) (⟨[[i6 a_2], [.fn 78 [] [.ptr 0 0]], [i6 b_19], (C_claim x_24)], [(0, 0)]⟩) (by kernel_rfl) trivial ?_
     obtain ⟨K_35, hK_36, h⟩ := letE h
     refine ExI.yieldT 0 hLt_7 hL_8 [(A_claim x_24)] rfl rfl rfl (by kernel_rfl) rfl rfl (leC hcn_5 (by simp [setAll])) ?_
     intro ca_25 cb_26 ha_27 hb_28 hma_29 hmb_30 hup_31 hbz_32
     refine Ex.castA (a2 := mkS 15 [(3, .ptr 1 0), (4, i6 0), (5, .ptr 2 0), (7, .fn 95 [] [.rop [.sl (a_1.map A_claim) none]]), (8, (A_claim x_24))]) (S2 := ⟨[[i6 a_2], [.fn 78 [] [.ptr 0 0]], [i6 b_19], (C_claim x_24)], [(0, 0)]⟩) (by kernel_rfl) (by kernel_rfl) ?_
     refine Ex.two (fun z S => (z = AEx.norm ∧ ∃ (b_33 : Int), K_35 b_33 = some r ∧ S = ⟨[[i6 a_2], [.fn 78 [] [.ptr 0 0]], [i6 b_33], (C_claim x_24)], [(0, 0)]⟩)) ?_ ?_
     ·refine rg 2 [3, 5, 6] (mkS 15 [(3, .ptr 1 0), (5, .ptr 2 0), (6, .ptr 4 0)]) ⟨[[i6 a_2], [.fn 78 [] [.ptr 0 0]], [i6 b_19], (C_claim x_24), (C_claim x_24)], [(0, 0)]⟩ ?_
      refine ⟨rfl, rfl, ?_⟩
      refine Ex.blockK ?_
      obtain ⟨r_37, hr_37, h⟩ := bE h
      have hT_38 : DoesA Try.prog [⟨78, [(A_claim x_24), .ptr 0 0], [[i6 a_2]], (v_claims_payable_1 r_37), [[i6 a_2]]⟩] ∧ ConsA [⟨78, [(A_claim x_24), .ptr 0 0], [[i6 a_2]], (v_claims_payable_1 r_37), [[i6 a_2]]⟩] := ⟨⟨(d_claims_payable_1 N x_24 a_2 r_37 hr_37), rfl, trivial⟩, ⟨trivial, trivial⟩⟩
      refine Ex.drawE (a1 := mkS 15 [(3, .ptr 1 0), (5, .ptr 2 0), (6, .ptr 4 0), (9, i6 b_19), (10, .fn 78 [] [.ptr 0 0]), (11, (A_claim x_24)), (12, i6 r_37)]) (tabO_ok hT_38.1) [] [] [⟨[[i6 a_2], [.fn 78 [] [.ptr 0 0]], [i6 b_19], (C_claim x_24), (C_claim x_24)], [(0, 0)]⟩] ?_ ?_
      ·refine drS [0, 1, 2, 3, 4] 3 [] [] (mkS 15 [(3, .ptr 1 0), (5, .ptr 2 0), (6, .ptr 4 0), (9, i6 b_19), (10, .fn 78 [] [.ptr 0 0]), (11, (A_claim x_24))]) (by simp) (by kernel_rfl) trivial (by kernel_rfl) ?_
       refine drB hT_38.2 0 _ [0] [(A_claim x_24), .ptr 0 0] (v_claims_payable_1 r_37) _ _ rfl rfl rfl rfl rfl rfl rfl rfl (by simp; try rfl) rfl (by simp) (b_claims_payable_1 _ _ _ _) (by simp) rfl ?_
       exact DrO.nil rfl
      ·dsimp only [List.getLastD_cons, List.getLastD_nil]
       refine rn 2 [] (mkS 15 []) ⟨[[i6 a_2], [.fn 78 [] [.ptr 0 0]], [i6 (IntKind.i64.wrap (b_19 + r_37))], (C_claim x_24), (C_claim x_24)], [(0, 0)]⟩ ?_
       refine ExO.nil ?_
       (try simp only [reduceCtorEq, AEx.ex.injEq, Nat.reduceEqDiff, if_true, if_false])
       exact ⟨_, _, forgetA (m := 15) 4 [0] [] [[i6 a_2], [.fn 78 [] [.ptr 0 0]], [i6 (IntKind.i64.wrap (b_19 + r_37))], (C_claim x_24)] [(0, 0)] (leC hb_28 (by simp [setAll])) (by simp) trivial (by simp) rfl (by decide) (sig0 1 hmb_30 rfl), ⟨by first | rfl | trivial, (IntKind.i64.wrap (b_19 + r_37)), h, rfl⟩⟩
     ·rintro z a2 S (⟨rfl, b_33, h, rfl⟩)
      subst hK_36
      refine runI 1 [] [0, 5, 6, 7, 14] [] (mkS 16 [(0, .yld Lp_3.l 0), (5, .sl (a_1.map A_claim) none), (6, i6 ((a_1.length : Nat) : Int)), (7, i6 y_18), (14, .bool false)]) (⟨[[i6 a_2], [.fn 78 [] [.ptr 0 0]], [i6 b_33], (C_claim x_24)], [(0, 0)]⟩) (by kernel_rfl) trivial ?_
      refine ExI.nil ?_
      refine Ex.cond (b := false) rfl ?_
      refine Ex.skip ?_
      refine rg 2 [0, 5, 6, 7] (mkS 16 [(0, .yld Lp_3.l 0), (5, .sl (a_1.map A_claim) none), (6, i6 ((a_1.length : Nat) : Int)), (7, i6 (IntKind.i64.wrap (y_18 + 1)))]) ⟨[[i6 a_2], [.fn 78 [] [.ptr 0 0]], [i6 b_33], (C_claim x_24)], [(0, 0)]⟩ ?_
      dsimp only
      exact ⟨_, _, forgetA (m := 16) 3 [0] [(0, .yld Lp_3.l 0), (5, .sl (a_1.map A_claim) none), (6, i6 ((a_1.length : Nat) : Int)), (7, i6 (IntKind.i64.wrap (y_18 + 1)))] [[i6 a_2], [.fn 78 [] [.ptr 0 0]], [i6 b_33]] [(0, 0)] (leC hcn_5 (by simp [setAll])) (by simp) ⟨rfl, (reN (KL_claim _)), rfl, rfl, trivial⟩ (by simp) rfl (by decide) (sig0 1 hcm_6 rfl), k, Nat.lt_succ_self k, (IntKind.i64.wrap (y_18 + 1)), b_33, h, rfl, rfl⟩
    ·refine Ex.condF _ rfl hc_23 ?_
     refine Ex.exit ?_
     (try simp only [reduceCtorEq, AEx.ex.injEq, Nat.reduceEqDiff, if_true, if_false])
     exact ⟨_, _, forgetK [], b_19, h, rfl, rfl⟩
  ·rintro a S ⟨b_14, h, rfl, rfl⟩
   subst hK_17
   exact ⟨_, _, Forgets.refl _ _ _, .inl rfl, 0, rfl, ⟨by first | rfl | trivial, b_14, h, rfl⟩⟩
 ·rintro k S (⟨rfl, b_10, h, rfl⟩)
  subst hK_13
  refine Ex.seq (rg 2 [4] (mkS 15 [(4, i6 b_10)]) ⟨[[i6 a_2], [.fn 78 [] [.ptr 0 0]], [i6 b_10]], [(0, 0)]⟩ ?_)
  refine Ex.ret ?_
  obtain rfl := sJ h
  exact rt (i6 b_10)
def p_claims_payable (N : Nat) (c_1 : (List T_claim)) (fund_2 : Int) : Option (Int) := ((p_slices_Values_claims_claim N c_1).bind fun r_3 => ((p_sum_claim_claim_1r_claims_payable_1 N r_3 fund_2).bind fun r_4 => some r_4))
def v_claims_payable (r : Int) : AV := i6 r
attribute [local simp] v_claims_payable
theorem b_claims_payable (r : Int) (n n2 m : Nat) : back n n2 m (v_claims_payable r) = some (v_claims_payable r) := by simp
theorem d_claims_payable (N : Nat) (c_1 : (List T_claim)) (fund_2 : Int) (r : Int) (h : p_claims_payable N c_1 fund_2 = some r) : Does Try.prog 53 [.sl (c_1.map A_claim) none, i6 fund_2] [] fun v c => v = v_claims_payable r ∧ c = [] := by
 unfold p_claims_payable at h
 refine Does.ofL comp53 _ _ rfl rfl ?_
 refine Ex.seq (rg 2 [0, 3] (mkS 9 [(0, .sl (c_1.map A_claim) none), (3, .ptr 0 0)]) ⟨[[i6 fund_2]], []⟩ ?_)
 refine Ex.seq ?_
 obtain ⟨r_3, hr_3, h⟩ := bE h
 refine Ex.reg (rn 1 [3, 5] (mkS 9 [(3, .ptr 0 0), (5, .sl (c_1.map A_claim) none)]) ⟨[[i6 fund_2]], []⟩ ?_)
 refine ExO.callL [] [.sl (c_1.map A_claim) none] rfl rfl (a_slices_Values_claims_claim c_1) rfl rfl (d_slices_Values_claims_claim N c_1 r_3 hr_3) (b_slices_Values_claims_claim _ _ _ _) rfl ?_
 obtain ⟨r_4, hr_4, h⟩ := bE h
 refine rn 1 [6, 7] (mkS 9 [(6, .fn 95 [] [.rop [.sl (r_3.map A_claim) none]]), (7, .fn 78 [] [.ptr 0 0])]) ⟨[[i6 fund_2]], []⟩ ?_
 refine ExO.callL [0] [.fn 95 [] [.rop [.sl (r_3.map A_claim) none]], .fn 78 [] [.ptr 0 0]] rfl rfl (by simp; try rfl) rfl (by simp) (d_sum_claim_claim_1r_claims_payable_1 N r_3 fund_2 r_4 hr_4) (b_sum_claim_claim_1r_claims_payable_1 _ _ _ _) (by simp) ?_
 refine rn 1 [4] (mkS 9 [(4, i6 r_4)]) ⟨[[i6 fund_2]], []⟩ ?_
 refine ExO.nil ?_
 refine Ex.ret ?_
 obtain rfl := sJ h
 exact rt (i6 r_4)
structure T_Span where
 Lo : Int
 Hi : Int
 deriving Inhabited
def C_Span (x : T_Span) : List AV := [i6 x.Lo, i6 x.Hi]
attribute [local simp] C_Span
def A_Span (x : T_Span) : AV := .agg (C_Span x)
attribute [local simp] A_Span
theorem KC_Span (x : T_Span) : cleanL (C_Span x) = true := by simp
theorem KA_Span (x : T_Span) : (A_Span x).clean = true := KC_Span x
theorem KL_Span (l : List T_Span) : cleanL (l.map A_Span) = true := cleanM KA_Span l
attribute [local simp] KL_Span
theorem KB_Span (x : T_Span) (n : Nat) (σ : List Nat) : (C_Span x).mapM (re n σ) = some (C_Span x) := by simp
def p_Spent (N : Nat) (l_1 : T_Ledger) (fund_2 : Int) : Option (T_Span × Int) := ((p_Check N l_1).bind fun r_3 => (bif (r_3 != 0) then some ((⟨0, 0⟩ : T_Span), r_3) else ((p_within N fund_2 0 (IntKind.i64.wrap (((l_1.Funds.length : Nat) : Int) - 1))).bind fun r_5 => (bif (!r_5) then some ((⟨0, 0⟩ : T_Span), 7) else ((p_claimsOf N l_1).bind fun r_7 => ((p_purseOf N l_1).bind fun r_8 => ((p_claims_missing N r_7 r_8).bind fun r_10 => (bif (decide (r_10 > 0)) then some ((⟨0, 0⟩ : T_Span), 4) else ((p_purse_with N r_8 fund_2 0).bind fun r_12 => ((p_claims_missing N r_7 r_12).bind fun r_13 => ((idxI fund_2 8).bind fun u_14 => ((r_8.l[Int.toNat fund_2]?).bind fun x_15 => ((p_claims_payable N r_7 fund_2).bind fun r_16 => some ((⟨r_13, (if r_16 < x_15 then r_16 else x_15)⟩ : T_Span), 0))))))))))))))
def v_Spent (r : T_Span × Int) : AV := .tup [(A_Span r.1), i6 r.2]
attribute [local simp] v_Spent
theorem a_Spent (l_1 : T_Ledger) (fund_2 : Int) : [(A_Ledger l_1), i6 fund_2].mapM (ren []) = some [(A_Ledger l_1), i6 fund_2] := by simp
theorem b_Spent (r : T_Span × Int) (n n2 m : Nat) : back n n2 m (v_Spent r) = some (v_Spent r) := by simp
theorem d_Spent (N : Nat) (l_1 : T_Ledger) (fund_2 : Int) (r : T_Span × Int) (h : p_Spent N l_1 fund_2 = some r) : Does Try.prog 19 [(A_Ledger l_1), i6 fund_2] [] fun v c => v = v_Spent r ∧ c = [] := by
 unfold p_Spent at h
 refine Does.ofL comp19 _ _ rfl rfl ?_
 refine Ex.seq (rg 3 [1, 2, 4] (mkS 45 [(1, i6 fund_2), (2, .ptr 0 0), (4, .ptr 1 0)]) ⟨[(C_Ledger l_1), [i6 0, i6 0]], []⟩ ?_)
 refine Ex.seq (Ex.seq ?_)
 obtain ⟨r_3, hr_3, h⟩ := bE h
 refine Ex.reg (rn 1 [1, 2, 4, 9] (mkS 45 [(1, i6 fund_2), (2, .ptr 0 0), (4, .ptr 1 0), (9, (A_Ledger l_1))]) ⟨[(C_Ledger l_1), [i6 0, i6 0]], []⟩ ?_)
 refine ExO.callL [] [(A_Ledger l_1)] rfl rfl (a_Check l_1) rfl rfl (d_Check N l_1 r_3 hr_3) (b_Check _ _ _ _) rfl ?_
 refine rn 1 [1, 2, 4, 6] (mkS 45 [(1, i6 fund_2), (2, .ptr 0 0), (4, .ptr 1 0), (6, i6 r_3)]) ⟨[(C_Ledger l_1), [i6 0, i6 0]], []⟩ ?_
 refine ExO.nil ?_
 refine Ex.seq (rg 2 [1, 2, 4, 6, 12] (mkS 45 [(1, i6 fund_2), (2, .ptr 0 0), (4, .ptr 1 0), (6, i6 r_3), (12, .bool (r_3 != 0))]) ⟨[(C_Ledger l_1), [i6 0, i6 0]], []⟩ ?_)
 rcases condI h with ⟨hc_4, h⟩ | ⟨hc_4, h⟩
 ·refine Ex.condT _ rfl hc_4 ?_
  refine Ex.seq (rg 4 [4, 5] (mkS 45 [(4, .ptr 1 0), (5, i6 r_3)]) ⟨[(C_Ledger l_1), [i6 0, i6 0]], []⟩ ?_)
  refine Ex.ret ?_
  obtain rfl := sJ h
  exact rt (.tup [.agg [i6 0, i6 0], i6 r_3])
 ·refine Ex.condF _ rfl hc_4 ?_
  refine Ex.skip ?_
  refine Ex.seq (Ex.seq ?_)
  obtain ⟨r_5, hr_5, h⟩ := bE h
  refine Ex.reg ?_
  refine runH 5 [(3, .eq (i6 ((l_1.Funds.length : Nat) : Int)))] [1, 2, 4, 15, 19] [AV.int .i64 (((l_1.Funds.map A_Fund).length : Nat) : Int) = AV.int .i64 ((l_1.Funds.length : Nat) : Int)] (mkS 45 [(1, i6 fund_2), (2, .ptr 0 0), (4, .ptr 1 0), (15, i6 fund_2), (19, i6 (IntKind.i64.wrap (((l_1.Funds.length : Nat) : Int) - 1)))]) (⟨[(C_Ledger l_1), [i6 0, i6 0]], []⟩) (by kernel_rfl) ⟨lenM _ _, trivial⟩ ?_
  refine ExO.callL [] [i6 fund_2, i6 0, i6 (IntKind.i64.wrap (((l_1.Funds.length : Nat) : Int) - 1))] rfl rfl (a_within fund_2 0 (IntKind.i64.wrap (((l_1.Funds.length : Nat) : Int) - 1))) rfl rfl (d_within N fund_2 0 (IntKind.i64.wrap (((l_1.Funds.length : Nat) : Int) - 1)) r_5 hr_5) (b_within _ _ _ _) rfl ?_
  refine rn 1 [1, 2, 4, 21] (mkS 45 [(1, i6 fund_2), (2, .ptr 0 0), (4, .ptr 1 0), (21, .bool (!r_5))]) ⟨[(C_Ledger l_1), [i6 0, i6 0]], []⟩ ?_
  refine ExO.nil ?_
  rcases condI h with ⟨hc_6, h⟩ | ⟨hc_6, h⟩
  ·refine Ex.condT _ rfl hc_6 ?_
   refine Ex.seq (rg 3 [4, 5] (mkS 45 [(4, .ptr 1 0), (5, i6 7)]) ⟨[(C_Ledger l_1), [i6 0, i6 0]], []⟩ ?_)
   refine Ex.ret ?_
   obtain rfl := sJ h
   exact rt (.tup [.agg [i6 0, i6 0], i6 7])
  ·refine Ex.condF _ rfl hc_6 ?_
   refine Ex.skip ?_
   refine Ex.seq ?_
   obtain ⟨r_7, hr_7, h⟩ := bE h
   obtain ⟨r_8, hr_8, h⟩ := bE h
   have hT_9 : DoesA Try.prog [⟨38, [(A_Ledger l_1)], [], (v_claimsOf r_7), []⟩, ⟨39, [(A_Ledger l_1)], [], (v_purseOf r_8), []⟩] ∧ ConsA [⟨38, [(A_Ledger l_1)], [], (v_claimsOf r_7), []⟩, ⟨39, [(A_Ledger l_1)], [], (v_purseOf r_8), []⟩] := ⟨⟨(d_claimsOf N l_1 r_7 hr_7), rfl, (d_purseOf N l_1 r_8 hr_8), rfl, trivial⟩, ⟨⟨ConsR.ne rfl, trivial⟩, trivial, trivial⟩⟩
   refine Ex.drawE (a1 := mkS 45 [(1, i6 fund_2), (2, .ptr 0 0), (4, .ptr 1 0), (8, .ptr 2 0), (21, .bool (!r_5)), (23, (A_Ledger l_1)), (24, .sl (r_7.map A_claim) none), (25, (A_Ledger l_1)), (26, (A_V8_i64 r_8))]) (tabO_ok hT_9.1) [[i6 0, i6 0, i6 0, i6 0, i6 0, i6 0, i6 0, i6 0]] [] [] ?_ ?_
   ·refine drS [0, 1, 2] 1 [] [] (mkS 45 [(1, i6 fund_2), (2, .ptr 0 0), (4, .ptr 1 0), (21, .bool (!r_5)), (23, (A_Ledger l_1))]) (by simp) (by kernel_rfl) trivial (by kernel_rfl) ?_
    refine drC hT_9.2 0 _ [(A_Ledger l_1)] (v_claimsOf r_7) rfl rfl rfl rfl rfl (fun _ => rfl) rfl (by simp; try rfl) (fun _ => b_claimsOf _ _ _ _) ?_
    refine drS [0, 1, 2] 1 [] [] (mkS 45 [(1, i6 fund_2), (2, .ptr 0 0), (4, .ptr 1 0), (21, .bool (!r_5)), (23, (A_Ledger l_1)), (24, .sl (r_7.map A_claim) none), (25, (A_Ledger l_1))]) (by simp) (by kernel_rfl) trivial (by kernel_rfl) ?_
    refine drC hT_9.2 1 _ [(A_Ledger l_1)] (v_purseOf r_8) rfl rfl rfl rfl rfl (fun _ => rfl) rfl (by simp; try rfl) (fun _ => b_purseOf _ _ _ _) ?_
    refine drX 2 [i6 0, i6 0, i6 0, i6 0, i6 0, i6 0, i6 0, i6 0] rfl rfl (fun _ => by kernel_rfl) (by simp) rfl rfl ?_
    exact DrO.nil rfl
   ·dsimp only [List.getLastD_cons, List.getLastD_nil]
    refine rn 2 [1, 4, 7, 8] (mkS 45 [(1, i6 fund_2), (4, .ptr 1 0), (7, .sl (r_7.map A_claim) none), (8, .ptr 2 0)]) ⟨[(C_Ledger l_1), [i6 0, i6 0], (C_V8_i64 r_8)], []⟩ ?_
    refine ExO.nil ?_
    refine Ex.seq (Ex.seq ?_)
    obtain ⟨r_10, hr_10, h⟩ := bE h
    refine Ex.reg (rn 2 [1, 4, 7, 8, 27, 28] (mkS 45 [(1, i6 fund_2), (4, .ptr 1 0), (7, .sl (r_7.map A_claim) none), (8, .ptr 2 0), (27, .sl (r_7.map A_claim) none), (28, (A_V8_i64 r_8))]) ⟨[(C_Ledger l_1), [i6 0, i6 0], (C_V8_i64 r_8)], []⟩ ?_)
    refine ExO.callL [] [.sl (r_7.map A_claim) none, (A_V8_i64 r_8)] rfl rfl (a_claims_missing r_7 r_8) rfl rfl (d_claims_missing N r_7 r_8 r_10 hr_10) (b_claims_missing _ _ _ _) rfl ?_
    refine rn 1 [1, 4, 7, 8, 30] (mkS 45 [(1, i6 fund_2), (4, .ptr 1 0), (7, .sl (r_7.map A_claim) none), (8, .ptr 2 0), (30, .bool (decide (r_10 > 0)))]) ⟨[(C_Ledger l_1), [i6 0, i6 0], (C_V8_i64 r_8)], []⟩ ?_
    refine ExO.nil ?_
    rcases condI h with ⟨hc_11, h⟩ | ⟨hc_11, h⟩
    ·refine Ex.condT _ rfl hc_11 ?_
     refine Ex.seq (rg 3 [4, 5] (mkS 45 [(4, .ptr 1 0), (5, i6 4)]) ⟨[(C_Ledger l_1), [i6 0, i6 0], (C_V8_i64 r_8)], []⟩ ?_)
     refine Ex.ret ?_
     obtain rfl := sJ h
     exact rt (.tup [.agg [i6 0, i6 0], i6 4])
    ·refine Ex.condF _ rfl hc_11 ?_
     refine Ex.skip ?_
     refine Ex.seq ?_
     obtain ⟨r_12, hr_12, h⟩ := bE h
     obtain ⟨r_13, hr_13, h⟩ := bE h
     obtain ⟨u_14, hu_14, h⟩ := bE h
     obtain ⟨x_15, hx_15, h⟩ := bE h
     obtain ⟨r_16, hr_16, h⟩ := bE h
     have hT_17 : DoesA Try.prog [⟨52, [(A_V8_i64 r_8), i6 fund_2, i6 0], [], (v_purse_with r_12), []⟩, ⟨40, [.sl (r_7.map A_claim) none, (A_V8_i64 r_12)], [], (v_claims_missing r_13), []⟩, ⟨53, [.sl (r_7.map A_claim) none, i6 fund_2], [], (v_claims_payable r_16), []⟩] ∧ ConsA [⟨52, [(A_V8_i64 r_8), i6 fund_2, i6 0], [], (v_purse_with r_12), []⟩, ⟨40, [.sl (r_7.map A_claim) none, (A_V8_i64 r_12)], [], (v_claims_missing r_13), []⟩, ⟨53, [.sl (r_7.map A_claim) none, i6 fund_2], [], (v_claims_payable r_16), []⟩] := ⟨⟨(d_purse_with N r_8 fund_2 0 r_12 hr_12), rfl, (d_claims_missing N r_7 r_12 r_13 hr_13), rfl, (d_claims_payable N r_7 fund_2 r_16 hr_16), rfl, trivial⟩, ⟨⟨ConsR.ne rfl, ConsR.ne rfl, trivial⟩, ⟨ConsR.ne rfl, trivial⟩, trivial, trivial⟩⟩
     refine Ex.drawE (a1 := mkS 45 [(1, i6 fund_2), (4, .ptr 1 0), (7, .sl (r_7.map A_claim) none), (8, .ptr 2 0), (30, .bool (decide (r_10 > 0))), (32, .sl (r_7.map A_claim) none), (33, (A_V8_i64 r_8)), (34, i6 fund_2), (35, (A_V8_i64 r_12)), (36, i6 r_13), (37, i6 fund_2), (38, .ptr 2 (0 + Int.toNat fund_2 * 1)), (39, i6 x_15), (40, .sl (r_7.map A_claim) none), (41, i6 fund_2), (42, i6 r_16)]) (tabO_ok hT_17.1) [] [] [] ?_ ?_
     ·refine drS [0, 1, 2] 3 [] [] (mkS 45 [(1, i6 fund_2), (4, .ptr 1 0), (7, .sl (r_7.map A_claim) none), (8, .ptr 2 0), (30, .bool (decide (r_10 > 0))), (32, .sl (r_7.map A_claim) none), (33, (A_V8_i64 r_8)), (34, i6 fund_2)]) (by simp) (by kernel_rfl) trivial (by kernel_rfl) ?_
      refine drC hT_17.2 0 _ [(A_V8_i64 r_8), i6 fund_2, i6 0] (v_purse_with r_12) rfl rfl rfl rfl rfl (fun _ => rfl) rfl (by simp; try rfl) (fun _ => b_purse_with _ _ _ _) ?_
      refine drC hT_17.2 1 _ [.sl (r_7.map A_claim) none, (A_V8_i64 r_12)] (v_claims_missing r_13) rfl rfl rfl rfl rfl (fun _ => rfl) rfl (by simp; try rfl) (fun _ => b_claims_missing _ _ _ _) ?_
      refine drS [0, 1, 2] 5 [(1, .adr), (2, .ld (i6 x_15))] [0 ≤ fund_2 ∧ fund_2 < ((8 : Nat) : Int), takeCells (C_V8_i64 r_8) (0 + Int.toNat fund_2 * 1) none = some (i6 x_15)] (mkS 45 [(1, i6 fund_2), (4, .ptr 1 0), (7, .sl (r_7.map A_claim) none), (8, .ptr 2 0), (30, .bool (decide (r_10 > 0))), (32, .sl (r_7.map A_claim) none), (33, (A_V8_i64 r_8)), (34, i6 fund_2), (35, (A_V8_i64 r_12)), (36, i6 r_13), (37, i6 fund_2), (38, .ptr 2 (0 + Int.toNat fund_2 * 1)), (39, i6 x_15), (40, .sl (r_7.map A_claim) none), (41, i6 fund_2)]) (by simp) (by kernel_rfl) ⟨idxI.of hu_14, ldArr (f := (AV.int .i64)) r_8.l (C_V8_i64 r_8) 0 0 8 fund_2 x_15 (i6 x_15) (fun _ => rfl) (by kernel_rfl) rfl hu_14 hx_15 rfl, trivial⟩ (by kernel_rfl) ?_
      refine drC hT_17.2 2 _ [.sl (r_7.map A_claim) none, i6 fund_2] (v_claims_payable r_16) rfl rfl rfl rfl rfl (fun _ => rfl) rfl (by simp; try rfl) (fun _ => b_claims_payable _ _ _ _) ?_
      exact DrO.nil rfl
     ·dsimp only [List.getLastD_cons, List.getLastD_nil]
      refine rn 4 [4, 5] (mkS 45 [(4, .ptr 1 0), (5, i6 0)]) ⟨[(C_Ledger l_1), [i6 r_13, i6 (if r_16 < x_15 then r_16 else x_15)], (C_V8_i64 r_8)], []⟩ ?_
      refine ExO.nil ?_
      refine Ex.ret ?_
      obtain rfl := sJ h
      exact rt (.tup [.agg [i6 r_13, i6 (if r_16 < x_15 then r_16 else x_15)], i6 0])
end Go.Proofs.Ytfhapfljomgmnaa
end
section
namespace Go.Proofs.Ytfhapfljomgmnaa
open Go.RowKit
attribute [local simp] ren ren1 AV.plain AV.plain1 AV.clean cleanL cleanI cleanBo cleanSt cleanII KL_bk_Drum KL_Fund KL_Bill KL_Ledger KL_claim KL_V8_i64 KL_Span A_bk_Drum C_bk_Drum A_Fund C_Fund A_Bill C_Bill A_Ledger C_Ledger A_claim C_claim A_V8_i64 C_V8_i64 A_Span C_Span back back1 List.idxOf? List.findIdx? List.findIdx?.go
def p_bl9_ledger (N : Nat)  : Option (T_Ledger) := some (⟨[(⟨0, 30, 1000, [0, 1]⟩ : T_Fund), (⟨5, 20, 500, [1]⟩ : T_Fund), (⟨0, 40, 300, [0, 1, 2]⟩ : T_Fund)], [(⟨10, 1, 600⟩ : T_Bill), (⟨15, 0, 900⟩ : T_Bill), (⟨35, 2, 200⟩ : T_Bill)]⟩ : T_Ledger)
def v_bl9_ledger (r : T_Ledger) : AV := (A_Ledger r)
attribute [local simp] v_bl9_ledger
theorem a_bl9_ledger  : [].mapM (ren []) = some [] := by simp
theorem b_bl9_ledger (r : T_Ledger) (n n2 m : Nat) : back n n2 m (v_bl9_ledger r) = some (v_bl9_ledger r) := by simp
theorem d_bl9_ledger (N : Nat)  (r : T_Ledger) (h : p_bl9_ledger N  = some r) : Does Try.prog 32 [] [] fun v c => v = v_bl9_ledger r ∧ c = [] := by
 unfold p_bl9_ledger at h
 refine Does.ofL comp32 _ _ rfl rfl ?_
 refine Ex.seq (rg 1 [0] (mkS 13 [(0, .ptr 0 0)]) ⟨[[.nils, .nils]], []⟩ ?_)
 refine Ex.seq ?_
 refine Ex.postF ?_
 refine rg 13 [0] (mkS 13 [(0, .ptr 0 0)]) ⟨[[.sl [.agg [i6 0, i6 30, i6 1000, .sl (([0, 1] : List Int).map (AV.int .i64)) (some 0)], .agg [i6 5, i6 20, i6 500, .sl (([1] : List Int).map (AV.int .i64)) (some 1)], .agg [i6 0, i6 40, i6 300, .sl (([0, 1, 2] : List Int).map (AV.int .i64)) (some 2)]] (some 3), .sl (([(⟨10, 1, 600⟩ : T_Bill), (⟨15, 0, 900⟩ : T_Bill), (⟨35, 2, 200⟩ : T_Bill)] : List T_Bill).map A_Bill) (some 4)]], [(2, 1), (1, 1), (3, 1), (3, 4), (3, 3)]⟩ ?_
 refine ⟨mkS 13 [(0, .ptr 0 0)], ⟨[[.sl (([(⟨0, 30, 1000, [0, 1]⟩ : T_Fund), (⟨5, 20, 500, [1]⟩ : T_Fund), (⟨0, 40, 300, [0, 1, 2]⟩ : T_Fund)] : List T_Fund).map A_Fund) (some 3), .sl (([(⟨10, 1, 600⟩ : T_Bill), (⟨15, 0, 900⟩ : T_Bill), (⟨35, 2, 200⟩ : T_Bill)] : List T_Bill).map A_Bill) (some 4)]], [(2, 1), (1, 1), (3, 1), (3, 4), (3, 3)]⟩, Forgets.castR (by kernel_rfl) rfl (fadeB 0 [.sl [.agg [i6 0, i6 30, i6 1000, .sl (([0, 1] : List Int).map (AV.int .i64)) (some 0)], .agg [i6 5, i6 20, i6 500, .sl (([1] : List Int).map (AV.int .i64)) (some 1)], .agg [i6 0, i6 40, i6 300, .sl (([0, 1, 2] : List Int).map (AV.int .i64)) (some 2)]] (some 3), .sl (([(⟨10, 1, 600⟩ : T_Bill), (⟨15, 0, 900⟩ : T_Bill), (⟨35, 2, 200⟩ : T_Bill)] : List T_Bill).map A_Bill) (some 4)] [true, false] rfl), ?_⟩
 refine Ex.ret ?_
 obtain rfl := sJ h
 exact rt (.agg [.sl (([(⟨0, 30, 1000, [0, 1]⟩ : T_Fund), (⟨5, 20, 500, [1]⟩ : T_Fund), (⟨0, 40, 300, [0, 1, 2]⟩ : T_Fund)] : List T_Fund).map A_Fund) (some 3), .sl (([(⟨10, 1, 600⟩ : T_Bill), (⟨15, 0, 900⟩ : T_Bill), (⟨35, 2, 200⟩ : T_Bill)] : List T_Bill).map A_Bill) (some 4)])
def p_bl9_dear (N : Nat) (amount_1 : Int) : Option (T_Ledger) := ((idxI 1 3).bind fun u_6 => ((setI ([(⟨10, 1, 600⟩ : T_Bill), (⟨15, 0, 900⟩ : T_Bill), (⟨35, 2, 200⟩ : T_Bill)] : List T_Bill) 1 (fun (y_7 : T_Bill) => (⟨y_7.Day, y_7.Use, amount_1⟩ : T_Bill))).bind fun z_8 => ((lenI z_8 3).bind fun u_9 => some (⟨[(⟨0, 30, 1000, [0, 1]⟩ : T_Fund), (⟨5, 20, 500, [1]⟩ : T_Fund), (⟨0, 40, 300, [0, 1, 2]⟩ : T_Fund)], z_8⟩ : T_Ledger))))
def v_bl9_dear (r : T_Ledger) : AV := (A_Ledger r)
attribute [local simp] v_bl9_dear
theorem a_bl9_dear (amount_1 : Int) : [i6 amount_1].mapM (ren []) = some [i6 amount_1] := by simp
theorem b_bl9_dear (r : T_Ledger) (n n2 m : Nat) : back n n2 m (v_bl9_dear r) = some (v_bl9_dear r) := by simp
theorem d_bl9_dear (N : Nat) (amount_1 : Int) (r : T_Ledger) (h : p_bl9_dear N amount_1 = some r) : Does Try.prog 33 [i6 amount_1] [] fun v c => v = v_bl9_dear r ∧ c = [] := by
 unfold p_bl9_dear at h
 refine Does.ofL comp33 _ _ rfl rfl ?_
 refine Ex.seq (rg 1 [0, 2] (mkS 11 [(0, i6 amount_1), (2, .ptr 0 0)]) ⟨[[.nils, .nils]], []⟩ ?_)
 refine Ex.seq ?_
 refine Ex.reg ?_
 refine ExO.inlC 32 [] _ comp32 (by simp [setAll]) rfl rfl ?_
 intro cx_2 hcn_3 hcm_4 hup_5
 refine Ex.castA (a2 := mkS 13 [(0, .tup []), (1, .tup []), (2, .tup []), (3, .tup []), (4, .tup []), (5, .tup []), (6, .tup []), (7, .tup []), (8, .tup []), (9, .tup []), (10, .tup []), (11, .tup []), (12, .tup [])]) (S2 := ⟨[[.nils, .nils]], []⟩) (by kernel_rfl) (by kernel_rfl) ?_
 refine Ex.seq (rg 1 [0] (mkS 13 [(0, .ptr 1 0)]) ⟨[[.nils, .nils], [.nils, .nils]], []⟩ ?_)
 refine Ex.seq ?_
 refine Ex.postF ?_
 refine Ex.reg (rn 10 [0, 7, 8, 9, 10] (mkS 13 [(0, .ptr 1 0), (7, .sl [.agg [i6 0, i6 30, i6 1000, .sl (([0, 1] : List Int).map (AV.int .i64)) (some 0)], .agg [i6 5, i6 20, i6 500, .sl (([1] : List Int).map (AV.int .i64)) (some 1)], .agg [i6 0, i6 40, i6 300, .sl (([0, 1, 2] : List Int).map (AV.int .i64)) (some 2)]] (some 3)), (8, .agg [i6 10, i6 1, i6 600]), (9, .agg [i6 15, i6 0, i6 900]), (10, .agg [i6 35, i6 2, i6 200])]) ⟨[[.nils, .nils], [.nils, .nils]], [(2, 1), (1, 1), (3, 1), (3, 4)]⟩ ?_)
 refine ExO.lb (s := 3) (els := ([(⟨10, 1, 600⟩ : T_Bill), (⟨15, 0, 900⟩ : T_Bill), (⟨35, 2, 200⟩ : T_Bill)] : List T_Bill).map A_Bill) rfl (by kernel_rfl) (by decide) ?_
 refine rn 2 [0] (mkS 13 [(0, .ptr 1 0)]) ⟨[[.nils, .nils], [.sl [.agg [i6 0, i6 30, i6 1000, .sl (([0, 1] : List Int).map (AV.int .i64)) (some 0)], .agg [i6 5, i6 20, i6 500, .sl (([1] : List Int).map (AV.int .i64)) (some 1)], .agg [i6 0, i6 40, i6 300, .sl (([0, 1, 2] : List Int).map (AV.int .i64)) (some 2)]] (some 3), .ms 2 3 3], (flat (([(⟨10, 1, 600⟩ : T_Bill), (⟨15, 0, 900⟩ : T_Bill), (⟨35, 2, 200⟩ : T_Bill)] : List T_Bill).map A_Bill))], [(2, 1), (1, 1), (3, 1), (3, 4)]⟩ ?_
 refine ExO.nil ?_
 refine ⟨mkS 13 [(0, .ptr 1 0)], ⟨[[.nils, .nils], [.sl (([(⟨0, 30, 1000, [0, 1]⟩ : T_Fund), (⟨5, 20, 500, [1]⟩ : T_Fund), (⟨0, 40, 300, [0, 1, 2]⟩ : T_Fund)] : List T_Fund).map A_Fund) (some 3), .ms 2 3 3], (flat (([(⟨10, 1, 600⟩ : T_Bill), (⟨15, 0, 900⟩ : T_Bill), (⟨35, 2, 200⟩ : T_Bill)] : List T_Bill).map A_Bill))], [(2, 1), (1, 1), (3, 1), (3, 4)]⟩, Forgets.castR (by kernel_rfl) rfl (fadeB 1 [.sl [.agg [i6 0, i6 30, i6 1000, .sl (([0, 1] : List Int).map (AV.int .i64)) (some 0)], .agg [i6 5, i6 20, i6 500, .sl (([1] : List Int).map (AV.int .i64)) (some 1)], .agg [i6 0, i6 40, i6 300, .sl (([0, 1, 2] : List Int).map (AV.int .i64)) (some 2)]] (some 3), .ms 2 3 3] [true, false] rfl), ?_⟩
 refine Ex.ret ?_
 refine ⟨.inr rfl, .agg [.sl (([(⟨0, 30, 1000, [0, 1]⟩ : T_Fund), (⟨5, 20, 500, [1]⟩ : T_Fund), (⟨0, 40, 300, [0, 1, 2]⟩ : T_Fund)] : List T_Fund).map A_Fund) (some 3), .ms 2 3 3], by kernel_rfl, ?_⟩
 refine ExO.forget (blankB 1 [.sl (([(⟨0, 30, 1000, [0, 1]⟩ : T_Fund), (⟨5, 20, 500, [1]⟩ : T_Fund), (⟨0, 40, 300, [0, 1, 2]⟩ : T_Fund)] : List T_Fund).map A_Fund) (some 3), .ms 2 3 3] 2 rfl rfl) ?_
 refine rn 2 [0, 2, 3] (mkS 11 [(0, i6 amount_1), (2, .ptr 0 0), (3, .ptr 3 0)]) ⟨[[.nils, .nils], [.junk, .junk], (flat (([(⟨10, 1, 600⟩ : T_Bill), (⟨15, 0, 900⟩ : T_Bill), (⟨35, 2, 200⟩ : T_Bill)] : List T_Bill).map A_Bill)), [.sl (([(⟨0, 30, 1000, [0, 1]⟩ : T_Fund), (⟨5, 20, 500, [1]⟩ : T_Fund), (⟨0, 40, 300, [0, 1, 2]⟩ : T_Fund)] : List T_Fund).map A_Fund) (some 3), .ms 2 3 3]], [(2, 1), (1, 1), (3, 1), (3, 4)]⟩ ?_
 refine ExO.nil ?_
 refine Ex.seq ?_
 obtain ⟨u_6, hu_6, h⟩ := bE h
 obtain ⟨z_8, hz_8, h⟩ := bE h
 refine regH 6 [(3, .adm), (5, .st (flat (z_8.map A_Bill)))] [2, 3] [0 ≤ 1 ∧ 1 < ((3 : Nat) : Int), 0 + Int.toNat 1 * 3 + 2 + 1 ≤ ((flat (([(⟨10, 1, 600⟩ : T_Bill), (⟨15, 0, 900⟩ : T_Bill), (⟨35, 2, 200⟩ : T_Bill)] : List T_Bill).map A_Bill))).length ∧ layAt (flat (([(⟨10, 1, 600⟩ : T_Bill), (⟨15, 0, 900⟩ : T_Bill), (⟨35, 2, 200⟩ : T_Bill)] : List T_Bill).map A_Bill)) (0 + Int.toNat 1 * 3 + 2) [i6 amount_1] = (flat (z_8.map A_Bill))] (mkS 11 [(2, .ptr 0 0), (3, .ptr 3 0)]) (⟨[[.nils, .nils], [.junk, .junk], (flat (z_8.map A_Bill)), [.sl (([(⟨0, 30, 1000, [0, 1]⟩ : T_Fund), (⟨5, 20, 500, [1]⟩ : T_Fund), (⟨0, 40, 300, [0, 1, 2]⟩ : T_Fund)] : List T_Fund).map A_Fund) (some 3), .ms 2 3 3]], [(2, 1), (1, 1), (3, 1), (3, 4)]⟩) (by kernel_rfl) ⟨idxI.of hu_6, stFl (f := A_Bill) (s := 3) _ 2 1 1 (fun (y_7 : T_Bill) => (⟨y_7.Day, y_7.Use, amount_1⟩ : T_Bill)) _ (fun _ => rfl) hz_8 rfl (by decide) (by omega) (fun _ => rfl), trivial⟩ rfl ?_
 refine Ex.seq ?_
 obtain ⟨u_9, hu_9, h⟩ := bE h
 refine Ex.forget (chillX (f := A_Bill) 2 3 1 3 3 z_8 [.sl (([(⟨0, 30, 1000, [0, 1]⟩ : T_Fund), (⟨5, 20, 500, [1]⟩ : T_Fund), (⟨0, 40, 300, [0, 1, 2]⟩ : T_Fund)] : List T_Fund).map A_Fund) (some 3), .ms 2 3 3] hu_9 rfl (fun _ => rfl) rfl (by decide) rfl) ?_
 refine Ex.castA (a2 := mkS 11 [(2, .ptr 0 0), (3, .ptr 3 0)]) (S2 := ⟨[[.nils, .nils], [.junk, .junk], [], [.sl (([(⟨0, 30, 1000, [0, 1]⟩ : T_Fund), (⟨5, 20, 500, [1]⟩ : T_Fund), (⟨0, 40, 300, [0, 1, 2]⟩ : T_Fund)] : List T_Fund).map A_Fund) (some 3), .sl (z_8.map A_Bill) none]], [(2, 1), (1, 1), (3, 1), (3, 4)]⟩) (by kernel_rfl) (by kernel_rfl) ?_
 refine rg 2 [2] (mkS 11 [(2, .ptr 0 0)]) ⟨[[.sl (([(⟨0, 30, 1000, [0, 1]⟩ : T_Fund), (⟨5, 20, 500, [1]⟩ : T_Fund), (⟨0, 40, 300, [0, 1, 2]⟩ : T_Fund)] : List T_Fund).map A_Fund) (some 3), .sl (z_8.map A_Bill) none], [.junk, .junk], [], [.sl (([(⟨0, 30, 1000, [0, 1]⟩ : T_Fund), (⟨5, 20, 500, [1]⟩ : T_Fund), (⟨0, 40, 300, [0, 1, 2]⟩ : T_Fund)] : List T_Fund).map A_Fund) (some 3), .sl (z_8.map A_Bill) none]], [(2, 1), (1, 1), (3, 1), (3, 4)]⟩ ?_
 refine Ex.ret ?_
 obtain rfl := sJ h
 exact rt (.agg [.sl (([(⟨0, 30, 1000, [0, 1]⟩ : T_Fund), (⟨5, 20, 500, [1]⟩ : T_Fund), (⟨0, 40, 300, [0, 1, 2]⟩ : T_Fund)] : List T_Fund).map A_Fund) (some 3), .sl (z_8.map A_Bill) none])
def p_bl9_span (N : Nat) (low_1 : Int) (high_2 : Int) : Option (T_Span) := some (⟨low_1, high_2⟩ : T_Span)
def v_bl9_span (r : T_Span) : AV := (A_Span r)
attribute [local simp] v_bl9_span
theorem b_bl9_span (r : T_Span) (n n2 m : Nat) : back n n2 m (v_bl9_span r) = some (v_bl9_span r) := by simp
theorem d_bl9_span (N : Nat) (low_1 : Int) (high_2 : Int) (r : T_Span) (h : p_bl9_span N low_1 high_2 = some r) : Does Try.prog 30 [i6 low_1, i6 high_2] [] fun v c => v = v_bl9_span r ∧ c = [] := by
 unfold p_bl9_span at h
 refine Does.ofL comp30 _ _ rfl rfl ?_
 refine Ex.seq (rg 1 [0, 1, 4] (mkS 8 [(0, i6 low_1), (1, i6 high_2), (4, .ptr 0 0)]) ⟨[[i6 0, i6 0]], []⟩ ?_)
 refine Ex.seq (rg 4 [4] (mkS 8 [(4, .ptr 0 0)]) ⟨[[i6 low_1, i6 high_2]], []⟩ ?_)
 refine Ex.ret ?_
 obtain rfl := sJ h
 exact rt (.agg [i6 low_1, i6 high_2])
def p_bl9_trace (N : Nat)  : Option ((List (List Int))) := some ([[200, 400, 0], [800, 0, 100], [0, 0, 200]])
def v_bl9_trace (r : (List (List Int))) : AV := .sl (r.map (SV (AV.int .i64))) none
attribute [local simp] v_bl9_trace
theorem b_bl9_trace (r : (List (List Int))) (n n2 m : Nat) : back n n2 m (v_bl9_trace r) = some (v_bl9_trace r) := by simp
theorem d_bl9_trace (N : Nat)  (r : (List (List Int))) (h : p_bl9_trace N  = some r) : Does Try.prog 35 [] [] fun v c => v = v_bl9_trace r ∧ c = [] := by
 unfold p_bl9_trace at h
 refine Does.ofL comp35 _ _ rfl rfl ?_
 refine Ex.seq (rg 1 [] (mkS 5 []) ⟨[], []⟩ ?_)
 refine Ex.seq ?_
 refine Ex.postF ?_
 refine rg 5 [0] (mkS 5 [(0, .sl [.sl (([200, 400, 0] : List Int).map (AV.int .i64)) (some 0), .sl (([800, 0, 100] : List Int).map (AV.int .i64)) (some 1), .sl (([0, 0, 200] : List Int).map (AV.int .i64)) (some 2)] (some 3))]) ⟨[], [(3, 1), (3, 1), (3, 1), (3, 1)]⟩ ?_
 refine ⟨mkS 5 [(0, .sl (([[200, 400, 0], [800, 0, 100], [0, 0, 200]] : List (List Int)).map (SV (AV.int .i64))) (some 3))], ⟨[], [(3, 1), (3, 1), (3, 1), (3, 1)]⟩, Forgets.castR (by kernel_rfl) rfl (fadeE 0 [.sl (([200, 400, 0] : List Int).map (AV.int .i64)) (some 0), .sl (([800, 0, 100] : List Int).map (AV.int .i64)) (some 1), .sl (([0, 0, 200] : List Int).map (AV.int .i64)) (some 2)] (some 3) rfl), ?_⟩
 refine Ex.ret ?_
 obtain rfl := sJ h
 exact rt (.sl (([[200, 400, 0], [800, 0, 100], [0, 0, 200]] : List (List Int)).map (SV (AV.int .i64))) (some 3))
def p_bl9_awake (N : Nat)  : Option (Bool) := ((p_bl9_ledger N).bind fun r_1 => ((p_Trace N r_1).bind fun r_2 => ((p_bl9_dear N 1101).bind fun r_3 => ((p_Short N r_3).bind fun r_4 => ((p_bl9_ledger N).bind fun r_5 => ((p_Spent N r_5 1).bind fun r_6 => ((p_Draw N [3, 0, 2] [7, 1, 6]).bind fun r_7 => (bif (r_2.2 == 0) then (bif (r_4.2 == 0) then (bif (r_6.2 == 0) then (bif (r_7.2.2 == 0) then (bif (r_7.1 == 4) then (bif (r_7.2.1 == 2) then ((p_bl9_span N 400 500).bind fun r_14 => (bif ((r_6.1.Lo == r_14.Lo) && ((r_6.1.Hi == r_14.Hi) && true)) then ((p_bk_EqInts N r_4.1 [1, 2]).bind fun r_16 => (bif r_16 then ((p_bl9_trace N).bind fun r_18 => ((p_bk_EqLists N r_2.1 r_18).bind fun r_20 => some r_20)) else some false)) else some false)) else some false) else some false) else some false) else some false) else some false) else some false))))))))
def v_bl9_awake (r : Bool) : AV := .bool r
attribute [local simp] v_bl9_awake
theorem a_bl9_awake  : [].mapM (ren []) = some [] := by simp
theorem b_bl9_awake (r : Bool) (n n2 m : Nat) : back n n2 m (v_bl9_awake r) = some (v_bl9_awake r) := by simp
theorem d_bl9_awake (N : Nat)  (r : Bool) (h : p_bl9_awake N  = some r) : Does Try.prog 9 [] [] fun v c => v = v_bl9_awake r ∧ c = [] := by
 unfold p_bl9_awake at h
 refine Does.ofL comp9 _ _ rfl rfl ?_
 refine Ex.seq (rg 1 [] (mkS 69 []) ⟨[], []⟩ ?_)
 refine Ex.seq ?_
 obtain ⟨r_1, hr_1, h⟩ := bE h
 refine Ex.reg ?_
 refine ExO.callL [] [] rfl rfl (a_bl9_ledger) rfl rfl (d_bl9_ledger N r_1 hr_1) (b_bl9_ledger _ _ _ _) rfl ?_
 obtain ⟨r_2, hr_2, h⟩ := bE h
 refine ExO.callL [] [(A_Ledger r_1)] rfl rfl (a_Trace r_1) rfl rfl (d_Trace N r_1 r_2 hr_2) (b_Trace _ _ _ _) rfl ?_
 refine rn 5 [1, 2] (mkS 69 [(1, .sl (r_2.1.map (SV (AV.int .i64))) none), (2, i6 r_2.2)]) ⟨[], []⟩ ?_
 refine ExO.nil ?_
 refine Ex.seq ?_
 obtain ⟨r_3, hr_3, h⟩ := bE h
 refine Ex.reg ?_
 refine ExO.callL [] [i6 1101] rfl rfl (a_bl9_dear 1101) rfl rfl (d_bl9_dear N 1101 r_3 hr_3) (b_bl9_dear _ _ _ _) rfl ?_
 obtain ⟨r_4, hr_4, h⟩ := bE h
 refine ExO.callL [] [(A_Ledger r_3)] rfl rfl (a_Short r_3) rfl rfl (d_Short N r_3 r_4 hr_4) (b_Short _ _ _ _) rfl ?_
 refine rn 5 [1, 2, 3, 4] (mkS 69 [(1, .sl (r_2.1.map (SV (AV.int .i64))) none), (2, i6 r_2.2), (3, .sl (r_4.1.map (AV.int .i64)) none), (4, i6 r_4.2)]) ⟨[], []⟩ ?_
 refine ExO.nil ?_
 refine Ex.seq ?_
 obtain ⟨r_5, hr_5, h⟩ := bE h
 refine Ex.reg ?_
 refine ExO.callL [] [] rfl rfl (a_bl9_ledger) rfl rfl (d_bl9_ledger N r_5 hr_5) (b_bl9_ledger _ _ _ _) rfl ?_
 obtain ⟨r_6, hr_6, h⟩ := bE h
 refine ExO.callL [] [(A_Ledger r_5), i6 1] rfl rfl (a_Spent r_5 1) rfl rfl (d_Spent N r_5 1 r_6 hr_6) (b_Spent _ _ _ _) rfl ?_
 refine rn 6 [1, 2, 3, 4, 5, 6] (mkS 69 [(1, .sl (r_2.1.map (SV (AV.int .i64))) none), (2, i6 r_2.2), (3, .sl (r_4.1.map (AV.int .i64)) none), (4, i6 r_4.2), (5, .ptr 0 0), (6, i6 r_6.2)]) ⟨[(C_Span r_6.1)], []⟩ ?_
 refine ExO.nil ?_
 refine Ex.seq ?_
 obtain ⟨r_7, hr_7, h⟩ := bE h
 refine Ex.reg (rn 2 [1, 2, 3, 4, 5, 6, 26, 27] (mkS 69 [(1, .sl (r_2.1.map (SV (AV.int .i64))) none), (2, i6 r_2.2), (3, .sl (r_4.1.map (AV.int .i64)) none), (4, i6 r_4.2), (5, .ptr 0 0), (6, i6 r_6.2), (26, .sl (([3, 0, 2] : List Int).map (AV.int .i64)) (some 0)), (27, .sl (([7, 1, 6] : List Int).map (AV.int .i64)) (some 1))]) ⟨[(C_Span r_6.1)], [(3, 1), (3, 1)]⟩ ?_)
 refine ExO.callL [] [.sl (([3, 0, 2] : List Int).map (AV.int .i64)) (some 0), .sl (([7, 1, 6] : List Int).map (AV.int .i64)) (some 1)] rfl rfl (a_Draw [3, 0, 2] [7, 1, 6]) rfl rfl (d_Draw N [3, 0, 2] [7, 1, 6] r_7 hr_7) (b_Draw _ _ _ _) rfl ?_
 refine rn 7 [1, 2, 3, 4, 5, 6, 7, 8, 9] (mkS 69 [(1, .sl (r_2.1.map (SV (AV.int .i64))) none), (2, i6 r_2.2), (3, .sl (r_4.1.map (AV.int .i64)) none), (4, i6 r_4.2), (5, .ptr 0 0), (6, i6 r_6.2), (7, i6 r_7.1), (8, i6 r_7.2.1), (9, i6 r_7.2.2)]) ⟨[(C_Span r_6.1)], [(3, 1), (3, 1)]⟩ ?_
 refine ExO.nil ?_
 refine Ex.seq ?_
 rcases condI h with ⟨hc_8, h⟩ | ⟨hc_8, h⟩
 ·rcases condI h with ⟨hc_9, h⟩ | ⟨hc_9, h⟩
  ·rcases condI h with ⟨hc_10, h⟩ | ⟨hc_10, h⟩
   ·rcases condI h with ⟨hc_11, h⟩ | ⟨hc_11, h⟩
    ·rcases condI h with ⟨hc_12, h⟩ | ⟨hc_12, h⟩
     ·rcases condI h with ⟨hc_13, h⟩ | ⟨hc_13, h⟩
      ·obtain ⟨r_14, hr_14, h⟩ := bE h
       rcases condI h with ⟨hc_15, h⟩ | ⟨hc_15, h⟩
       ·obtain ⟨r_16, hr_16, h⟩ := bE h
        rcases condI h with ⟨hc_17, h⟩ | ⟨hc_17, h⟩
        ·obtain ⟨r_18, hr_18, h⟩ := bE h
         have hT_19 : DoesA Try.prog [⟨30, [i6 400, i6 500], [], (v_bl9_span r_14), []⟩, ⟨24, [.sl (r_4.1.map (AV.int .i64)) none, .sl (([1, 2] : List Int).map (AV.int .i64)) none], [], (v_bk_EqInts r_16), []⟩, ⟨35, [], [], (v_bl9_trace r_18), []⟩] ∧ ConsA [⟨30, [i6 400, i6 500], [], (v_bl9_span r_14), []⟩, ⟨24, [.sl (r_4.1.map (AV.int .i64)) none, .sl (([1, 2] : List Int).map (AV.int .i64)) none], [], (v_bk_EqInts r_16), []⟩, ⟨35, [], [], (v_bl9_trace r_18), []⟩] := ⟨⟨(d_bl9_span N 400 500 r_14 hr_14), rfl, (d_bk_EqInts N r_4.1 [1, 2] r_16 hr_16), rfl, (d_bl9_trace N r_18 hr_18), rfl, trivial⟩, ⟨⟨ConsR.ne rfl, ConsR.ne rfl, trivial⟩, ⟨ConsR.ne rfl, trivial⟩, trivial, trivial⟩⟩
         refine Ex.drawE (a1 := mkS 69 [(1, .sl (r_2.1.map (SV (AV.int .i64))) none), (2, i6 r_2.2), (3, .sl (r_4.1.map (AV.int .i64)) none), (4, i6 r_4.2), (5, .ptr 0 0), (6, i6 r_6.2), (7, i6 r_7.1), (8, i6 r_7.2.1), (9, i6 r_7.2.2), (32, i6 r_2.2), (33, .bool (r_2.2 == 0)), (34, .bool true), (35, i6 r_4.2), (36, .bool (r_4.2 == 0)), (37, .bool (r_4.2 == 0)), (38, .bool true), (39, i6 r_6.2), (40, .bool (r_6.2 == 0)), (41, .bool (r_6.2 == 0)), (42, .bool true), (43, i6 r_7.2.2), (44, .bool (r_7.2.2 == 0)), (45, .bool (r_7.2.2 == 0)), (46, .bool true), (47, i6 r_7.1), (48, .bool (r_7.1 == 4)), (49, .bool (r_7.1 == 4)), (50, .bool true), (51, i6 r_7.2.1), (52, .bool (r_7.2.1 == 2)), (53, .bool (r_7.2.1 == 2)), (54, .bool true), (55, (A_Span r_6.1)), (56, (A_Span r_14)), (57, .bool ((r_6.1.Lo == r_14.Lo) && ((r_6.1.Hi == r_14.Hi) && true))), (58, .bool ((r_6.1.Lo == r_14.Lo) && ((r_6.1.Hi == r_14.Hi) && true))), (59, .bool true), (60, .sl (r_4.1.map (AV.int .i64)) none), (61, .sl (([1, 2] : List Int).map (AV.int .i64)) (some 2)), (62, .bool r_16), (63, .bool r_16), (64, .bool true), (65, .sl (r_2.1.map (SV (AV.int .i64))) none), (66, .sl (r_18.map (SV (AV.int .i64))) none)]) (tabO_ok hT_19.1) [] [(2, 1)] [] ?_ ?_
         ·refine drS [0] 24 [(2, .eq (.bool true)), (6, .eq (.bool true)), (10, .eq (.bool true)), (14, .eq (.bool true)), (18, .eq (.bool true)), (22, .eq (.bool true))] [AV.bool (r_2.2 == 0) = AV.bool true, AV.bool (r_4.2 == 0) = AV.bool true, AV.bool (r_6.2 == 0) = AV.bool true, AV.bool (r_7.2.2 == 0) = AV.bool true, AV.bool (r_7.1 == 4) = AV.bool true, AV.bool (r_7.2.1 == 2) = AV.bool true] (mkS 69 [(1, .sl (r_2.1.map (SV (AV.int .i64))) none), (2, i6 r_2.2), (3, .sl (r_4.1.map (AV.int .i64)) none), (4, i6 r_4.2), (5, .ptr 0 0), (6, i6 r_6.2), (7, i6 r_7.1), (8, i6 r_7.2.1), (9, i6 r_7.2.2), (32, i6 r_2.2), (33, .bool (r_2.2 == 0)), (34, .bool true), (35, i6 r_4.2), (36, .bool (r_4.2 == 0)), (37, .bool (r_4.2 == 0)), (38, .bool true), (39, i6 r_6.2), (40, .bool (r_6.2 == 0)), (41, .bool (r_6.2 == 0)), (42, .bool true), (43, i6 r_7.2.2), (44, .bool (r_7.2.2 == 0)), (45, .bool (r_7.2.2 == 0)), (46, .bool true), (47, i6 r_7.1), (48, .bool (r_7.1 == 4)), (49, .bool (r_7.1 == 4)), (50, .bool true), (51, i6 r_7.2.1), (52, .bool (r_7.2.1 == 2)), (53, .bool (r_7.2.1 == 2)), (54, .bool true), (55, (A_Span r_6.1))]) (by simp) (by kernel_rfl) ⟨congrArg AV.bool hc_8, congrArg AV.bool hc_9, congrArg AV.bool hc_10, congrArg AV.bool hc_11, congrArg AV.bool hc_12, congrArg AV.bool hc_13, trivial⟩ (by kernel_rfl) ?_
          refine drC hT_19.2 0 _ [i6 400, i6 500] (v_bl9_span r_14) rfl rfl rfl rfl rfl (fun _ => rfl) rfl (by simp; try rfl) (fun _ => b_bl9_span _ _ _ _) ?_
          refine drS [0] 4 [(2, .eq (.bool true))] [AV.bool ((r_6.1.Lo == r_14.Lo) && ((r_6.1.Hi == r_14.Hi) && true)) = AV.bool true] (mkS 69 [(1, .sl (r_2.1.map (SV (AV.int .i64))) none), (2, i6 r_2.2), (3, .sl (r_4.1.map (AV.int .i64)) none), (4, i6 r_4.2), (5, .ptr 0 0), (6, i6 r_6.2), (7, i6 r_7.1), (8, i6 r_7.2.1), (9, i6 r_7.2.2), (32, i6 r_2.2), (33, .bool (r_2.2 == 0)), (34, .bool true), (35, i6 r_4.2), (36, .bool (r_4.2 == 0)), (37, .bool (r_4.2 == 0)), (38, .bool true), (39, i6 r_6.2), (40, .bool (r_6.2 == 0)), (41, .bool (r_6.2 == 0)), (42, .bool true), (43, i6 r_7.2.2), (44, .bool (r_7.2.2 == 0)), (45, .bool (r_7.2.2 == 0)), (46, .bool true), (47, i6 r_7.1), (48, .bool (r_7.1 == 4)), (49, .bool (r_7.1 == 4)), (50, .bool true), (51, i6 r_7.2.1), (52, .bool (r_7.2.1 == 2)), (53, .bool (r_7.2.1 == 2)), (54, .bool true), (55, (A_Span r_6.1)), (56, (A_Span r_14)), (57, .bool ((r_6.1.Lo == r_14.Lo) && ((r_6.1.Hi == r_14.Hi) && true))), (58, .bool ((r_6.1.Lo == r_14.Lo) && ((r_6.1.Hi == r_14.Hi) && true))), (59, .bool true), (60, .sl (r_4.1.map (AV.int .i64)) none)]) (by simp) (by kernel_rfl) ⟨congrArg AV.bool hc_15, trivial⟩ (by kernel_rfl) ?_
          refine drR 2 1 (([1, 2] : List Int).map (AV.int .i64)) rfl rfl (fun _ => by kernel_rfl) (by simp) rfl rfl ?_
          refine drC hT_19.2 1 _ [.sl (r_4.1.map (AV.int .i64)) none, .sl (([1, 2] : List Int).map (AV.int .i64)) (some 2)] (v_bk_EqInts r_16) rfl rfl rfl rfl rfl (fun _ => rfl) rfl (by simp; try rfl) (fun _ => b_bk_EqInts _ _ _ _) ?_
          refine drS [0] 3 [(1, .eq (.bool true))] [AV.bool r_16 = AV.bool true] (mkS 69 [(1, .sl (r_2.1.map (SV (AV.int .i64))) none), (2, i6 r_2.2), (3, .sl (r_4.1.map (AV.int .i64)) none), (4, i6 r_4.2), (5, .ptr 0 0), (6, i6 r_6.2), (7, i6 r_7.1), (8, i6 r_7.2.1), (9, i6 r_7.2.2), (32, i6 r_2.2), (33, .bool (r_2.2 == 0)), (34, .bool true), (35, i6 r_4.2), (36, .bool (r_4.2 == 0)), (37, .bool (r_4.2 == 0)), (38, .bool true), (39, i6 r_6.2), (40, .bool (r_6.2 == 0)), (41, .bool (r_6.2 == 0)), (42, .bool true), (43, i6 r_7.2.2), (44, .bool (r_7.2.2 == 0)), (45, .bool (r_7.2.2 == 0)), (46, .bool true), (47, i6 r_7.1), (48, .bool (r_7.1 == 4)), (49, .bool (r_7.1 == 4)), (50, .bool true), (51, i6 r_7.2.1), (52, .bool (r_7.2.1 == 2)), (53, .bool (r_7.2.1 == 2)), (54, .bool true), (55, (A_Span r_6.1)), (56, (A_Span r_14)), (57, .bool ((r_6.1.Lo == r_14.Lo) && ((r_6.1.Hi == r_14.Hi) && true))), (58, .bool ((r_6.1.Lo == r_14.Lo) && ((r_6.1.Hi == r_14.Hi) && true))), (59, .bool true), (60, .sl (r_4.1.map (AV.int .i64)) none), (61, .sl (([1, 2] : List Int).map (AV.int .i64)) (some 2)), (62, .bool r_16), (63, .bool r_16), (64, .bool true), (65, .sl (r_2.1.map (SV (AV.int .i64))) none)]) (by simp) (by kernel_rfl) ⟨congrArg AV.bool hc_17, trivial⟩ (by kernel_rfl) ?_
          refine drC hT_19.2 2 _ [] (v_bl9_trace r_18) rfl rfl rfl rfl rfl (fun _ => rfl) rfl (by simp; try rfl) (fun _ => b_bl9_trace _ _ _ _) ?_
          exact DrO.nil rfl
         ·dsimp only [List.getLastD_cons, List.getLastD_nil]
          obtain ⟨r_20, hr_20, h⟩ := bE h
          refine ExO.callL [] [.sl (r_2.1.map (SV (AV.int .i64))) none, .sl (r_18.map (SV (AV.int .i64))) none] rfl rfl (a_bk_EqLists r_2.1 r_18) rfl rfl (d_bk_EqLists N r_2.1 r_18 r_20 hr_20) (b_bk_EqLists _ _ _ _) rfl ?_
          refine rn 2 [0] (mkS 69 [(0, .bool r_20)]) ⟨[(C_Span r_6.1)], [(3, 1), (3, 1), (2, 1)]⟩ ?_
          refine ExO.nil ?_
          refine Ex.ret ?_
          obtain rfl := sJ h
          exact rt (.bool r_20)
        ·have hT_21 : DoesA Try.prog [⟨30, [i6 400, i6 500], [], (v_bl9_span r_14), []⟩, ⟨24, [.sl (r_4.1.map (AV.int .i64)) none, .sl (([1, 2] : List Int).map (AV.int .i64)) none], [], (v_bk_EqInts r_16), []⟩] ∧ ConsA [⟨30, [i6 400, i6 500], [], (v_bl9_span r_14), []⟩, ⟨24, [.sl (r_4.1.map (AV.int .i64)) none, .sl (([1, 2] : List Int).map (AV.int .i64)) none], [], (v_bk_EqInts r_16), []⟩] := ⟨⟨(d_bl9_span N 400 500 r_14 hr_14), rfl, (d_bk_EqInts N r_4.1 [1, 2] r_16 hr_16), rfl, trivial⟩, ⟨⟨ConsR.ne rfl, trivial⟩, trivial, trivial⟩⟩
         refine Ex.drawE (a1 := mkS 69 [(1, .sl (r_2.1.map (SV (AV.int .i64))) none), (2, i6 r_2.2), (3, .sl (r_4.1.map (AV.int .i64)) none), (4, i6 r_4.2), (5, .ptr 0 0), (6, i6 r_6.2), (7, i6 r_7.1), (8, i6 r_7.2.1), (9, i6 r_7.2.2), (32, i6 r_2.2), (33, .bool (r_2.2 == 0)), (34, .bool true), (35, i6 r_4.2), (36, .bool (r_4.2 == 0)), (37, .bool (r_4.2 == 0)), (38, .bool true), (39, i6 r_6.2), (40, .bool (r_6.2 == 0)), (41, .bool (r_6.2 == 0)), (42, .bool true), (43, i6 r_7.2.2), (44, .bool (r_7.2.2 == 0)), (45, .bool (r_7.2.2 == 0)), (46, .bool true), (47, i6 r_7.1), (48, .bool (r_7.1 == 4)), (49, .bool (r_7.1 == 4)), (50, .bool true), (51, i6 r_7.2.1), (52, .bool (r_7.2.1 == 2)), (53, .bool (r_7.2.1 == 2)), (54, .bool true), (55, (A_Span r_6.1)), (56, (A_Span r_14)), (57, .bool ((r_6.1.Lo == r_14.Lo) && ((r_6.1.Hi == r_14.Hi) && true))), (58, .bool ((r_6.1.Lo == r_14.Lo) && ((r_6.1.Hi == r_14.Hi) && true))), (59, .bool true), (60, .sl (r_4.1.map (AV.int .i64)) none), (61, .sl (([1, 2] : List Int).map (AV.int .i64)) (some 2)), (62, .bool r_16), (63, .bool r_16), (64, .bool false), (65, .tup []), (66, .tup [])]) (tabO_ok hT_21.1) [] [(2, 1)] [] ?_ ?_
         ·refine drS [0] 24 [(2, .eq (.bool true)), (6, .eq (.bool true)), (10, .eq (.bool true)), (14, .eq (.bool true)), (18, .eq (.bool true)), (22, .eq (.bool true))] [AV.bool (r_2.2 == 0) = AV.bool true, AV.bool (r_4.2 == 0) = AV.bool true, AV.bool (r_6.2 == 0) = AV.bool true, AV.bool (r_7.2.2 == 0) = AV.bool true, AV.bool (r_7.1 == 4) = AV.bool true, AV.bool (r_7.2.1 == 2) = AV.bool true] (mkS 69 [(1, .sl (r_2.1.map (SV (AV.int .i64))) none), (2, i6 r_2.2), (3, .sl (r_4.1.map (AV.int .i64)) none), (4, i6 r_4.2), (5, .ptr 0 0), (6, i6 r_6.2), (7, i6 r_7.1), (8, i6 r_7.2.1), (9, i6 r_7.2.2), (32, i6 r_2.2), (33, .bool (r_2.2 == 0)), (34, .bool true), (35, i6 r_4.2), (36, .bool (r_4.2 == 0)), (37, .bool (r_4.2 == 0)), (38, .bool true), (39, i6 r_6.2), (40, .bool (r_6.2 == 0)), (41, .bool (r_6.2 == 0)), (42, .bool true), (43, i6 r_7.2.2), (44, .bool (r_7.2.2 == 0)), (45, .bool (r_7.2.2 == 0)), (46, .bool true), (47, i6 r_7.1), (48, .bool (r_7.1 == 4)), (49, .bool (r_7.1 == 4)), (50, .bool true), (51, i6 r_7.2.1), (52, .bool (r_7.2.1 == 2)), (53, .bool (r_7.2.1 == 2)), (54, .bool true), (55, (A_Span r_6.1))]) (by simp) (by kernel_rfl) ⟨congrArg AV.bool hc_8, congrArg AV.bool hc_9, congrArg AV.bool hc_10, congrArg AV.bool hc_11, congrArg AV.bool hc_12, congrArg AV.bool hc_13, trivial⟩ (by kernel_rfl) ?_
          refine drC hT_21.2 0 _ [i6 400, i6 500] (v_bl9_span r_14) rfl rfl rfl rfl rfl (fun _ => rfl) rfl (by simp; try rfl) (fun _ => b_bl9_span _ _ _ _) ?_
          refine drS [0] 4 [(2, .eq (.bool true))] [AV.bool ((r_6.1.Lo == r_14.Lo) && ((r_6.1.Hi == r_14.Hi) && true)) = AV.bool true] (mkS 69 [(1, .sl (r_2.1.map (SV (AV.int .i64))) none), (2, i6 r_2.2), (3, .sl (r_4.1.map (AV.int .i64)) none), (4, i6 r_4.2), (5, .ptr 0 0), (6, i6 r_6.2), (7, i6 r_7.1), (8, i6 r_7.2.1), (9, i6 r_7.2.2), (32, i6 r_2.2), (33, .bool (r_2.2 == 0)), (34, .bool true), (35, i6 r_4.2), (36, .bool (r_4.2 == 0)), (37, .bool (r_4.2 == 0)), (38, .bool true), (39, i6 r_6.2), (40, .bool (r_6.2 == 0)), (41, .bool (r_6.2 == 0)), (42, .bool true), (43, i6 r_7.2.2), (44, .bool (r_7.2.2 == 0)), (45, .bool (r_7.2.2 == 0)), (46, .bool true), (47, i6 r_7.1), (48, .bool (r_7.1 == 4)), (49, .bool (r_7.1 == 4)), (50, .bool true), (51, i6 r_7.2.1), (52, .bool (r_7.2.1 == 2)), (53, .bool (r_7.2.1 == 2)), (54, .bool true), (55, (A_Span r_6.1)), (56, (A_Span r_14)), (57, .bool ((r_6.1.Lo == r_14.Lo) && ((r_6.1.Hi == r_14.Hi) && true))), (58, .bool ((r_6.1.Lo == r_14.Lo) && ((r_6.1.Hi == r_14.Hi) && true))), (59, .bool true), (60, .sl (r_4.1.map (AV.int .i64)) none)]) (by simp) (by kernel_rfl) ⟨congrArg AV.bool hc_15, trivial⟩ (by kernel_rfl) ?_
          refine drR 2 1 (([1, 2] : List Int).map (AV.int .i64)) rfl rfl (fun _ => by kernel_rfl) (by simp) rfl rfl ?_
          refine drC hT_21.2 1 _ [.sl (r_4.1.map (AV.int .i64)) none, .sl (([1, 2] : List Int).map (AV.int .i64)) (some 2)] (v_bk_EqInts r_16) rfl rfl rfl rfl rfl (fun _ => rfl) rfl (by simp; try rfl) (fun _ => b_bk_EqInts _ _ _ _) ?_
          refine drS [0] 2 [(1, .eq (.bool false))] [AV.bool r_16 = AV.bool false] (mkS 69 [(1, .sl (r_2.1.map (SV (AV.int .i64))) none), (2, i6 r_2.2), (3, .sl (r_4.1.map (AV.int .i64)) none), (4, i6 r_4.2), (5, .ptr 0 0), (6, i6 r_6.2), (7, i6 r_7.1), (8, i6 r_7.2.1), (9, i6 r_7.2.2), (32, i6 r_2.2), (33, .bool (r_2.2 == 0)), (34, .bool true), (35, i6 r_4.2), (36, .bool (r_4.2 == 0)), (37, .bool (r_4.2 == 0)), (38, .bool true), (39, i6 r_6.2), (40, .bool (r_6.2 == 0)), (41, .bool (r_6.2 == 0)), (42, .bool true), (43, i6 r_7.2.2), (44, .bool (r_7.2.2 == 0)), (45, .bool (r_7.2.2 == 0)), (46, .bool true), (47, i6 r_7.1), (48, .bool (r_7.1 == 4)), (49, .bool (r_7.1 == 4)), (50, .bool true), (51, i6 r_7.2.1), (52, .bool (r_7.2.1 == 2)), (53, .bool (r_7.2.1 == 2)), (54, .bool true), (55, (A_Span r_6.1)), (56, (A_Span r_14)), (57, .bool ((r_6.1.Lo == r_14.Lo) && ((r_6.1.Hi == r_14.Hi) && true))), (58, .bool ((r_6.1.Lo == r_14.Lo) && ((r_6.1.Hi == r_14.Hi) && true))), (59, .bool true), (60, .sl (r_4.1.map (AV.int .i64)) none), (61, .sl (([1, 2] : List Int).map (AV.int .i64)) (some 2)), (62, .bool r_16), (63, .bool r_16), (64, .bool false)]) (by simp) (by kernel_rfl) ⟨congrArg AV.bool hc_17, trivial⟩ (by kernel_rfl) ?_
          refine drK (by kernel_rfl) (by kernel_rfl) ?_
          refine drK (by kernel_rfl) (by kernel_rfl) ?_
          exact DrO.nil rfl
         ·dsimp only [List.getLastD_cons, List.getLastD_nil]
          refine rn 3 [0] (mkS 69 [(0, .bool false)]) ⟨[(C_Span r_6.1)], [(3, 1), (3, 1), (2, 1)]⟩ ?_
          refine ExO.nil ?_
          refine Ex.ret ?_
          obtain rfl := sJ h
          exact rt (.bool false)
       ·have hT_22 : DoesA Try.prog [⟨30, [i6 400, i6 500], [], (v_bl9_span r_14), []⟩] ∧ ConsA [⟨30, [i6 400, i6 500], [], (v_bl9_span r_14), []⟩] := ⟨⟨(d_bl9_span N 400 500 r_14 hr_14), rfl, trivial⟩, ⟨trivial, trivial⟩⟩
        refine Ex.drawE (a1 := mkS 69 [(1, .sl (r_2.1.map (SV (AV.int .i64))) none), (2, i6 r_2.2), (3, .sl (r_4.1.map (AV.int .i64)) none), (4, i6 r_4.2), (5, .ptr 0 0), (6, i6 r_6.2), (7, i6 r_7.1), (8, i6 r_7.2.1), (9, i6 r_7.2.2), (32, i6 r_2.2), (33, .bool (r_2.2 == 0)), (34, .bool true), (35, i6 r_4.2), (36, .bool (r_4.2 == 0)), (37, .bool (r_4.2 == 0)), (38, .bool true), (39, i6 r_6.2), (40, .bool (r_6.2 == 0)), (41, .bool (r_6.2 == 0)), (42, .bool true), (43, i6 r_7.2.2), (44, .bool (r_7.2.2 == 0)), (45, .bool (r_7.2.2 == 0)), (46, .bool true), (47, i6 r_7.1), (48, .bool (r_7.1 == 4)), (49, .bool (r_7.1 == 4)), (50, .bool true), (51, i6 r_7.2.1), (52, .bool (r_7.2.1 == 2)), (53, .bool (r_7.2.1 == 2)), (54, .bool true), (55, (A_Span r_6.1)), (56, (A_Span r_14)), (57, .bool ((r_6.1.Lo == r_14.Lo) && ((r_6.1.Hi == r_14.Hi) && true))), (58, .bool ((r_6.1.Lo == r_14.Lo) && ((r_6.1.Hi == r_14.Hi) && true))), (59, .bool false), (60, .tup []), (61, .tup []), (62, .tup []), (63, .bool false), (64, .bool false), (65, .tup []), (66, .tup [])]) (tabO_ok hT_22.1) [] [(2, 1)] [] ?_ ?_
        ·refine drS [0] 24 [(2, .eq (.bool true)), (6, .eq (.bool true)), (10, .eq (.bool true)), (14, .eq (.bool true)), (18, .eq (.bool true)), (22, .eq (.bool true))] [AV.bool (r_2.2 == 0) = AV.bool true, AV.bool (r_4.2 == 0) = AV.bool true, AV.bool (r_6.2 == 0) = AV.bool true, AV.bool (r_7.2.2 == 0) = AV.bool true, AV.bool (r_7.1 == 4) = AV.bool true, AV.bool (r_7.2.1 == 2) = AV.bool true] (mkS 69 [(1, .sl (r_2.1.map (SV (AV.int .i64))) none), (2, i6 r_2.2), (3, .sl (r_4.1.map (AV.int .i64)) none), (4, i6 r_4.2), (5, .ptr 0 0), (6, i6 r_6.2), (7, i6 r_7.1), (8, i6 r_7.2.1), (9, i6 r_7.2.2), (32, i6 r_2.2), (33, .bool (r_2.2 == 0)), (34, .bool true), (35, i6 r_4.2), (36, .bool (r_4.2 == 0)), (37, .bool (r_4.2 == 0)), (38, .bool true), (39, i6 r_6.2), (40, .bool (r_6.2 == 0)), (41, .bool (r_6.2 == 0)), (42, .bool true), (43, i6 r_7.2.2), (44, .bool (r_7.2.2 == 0)), (45, .bool (r_7.2.2 == 0)), (46, .bool true), (47, i6 r_7.1), (48, .bool (r_7.1 == 4)), (49, .bool (r_7.1 == 4)), (50, .bool true), (51, i6 r_7.2.1), (52, .bool (r_7.2.1 == 2)), (53, .bool (r_7.2.1 == 2)), (54, .bool true), (55, (A_Span r_6.1))]) (by simp) (by kernel_rfl) ⟨congrArg AV.bool hc_8, congrArg AV.bool hc_9, congrArg AV.bool hc_10, congrArg AV.bool hc_11, congrArg AV.bool hc_12, congrArg AV.bool hc_13, trivial⟩ (by kernel_rfl) ?_
         refine drC hT_22.2 0 _ [i6 400, i6 500] (v_bl9_span r_14) rfl rfl rfl rfl rfl (fun _ => rfl) rfl (by simp; try rfl) (fun _ => b_bl9_span _ _ _ _) ?_
         refine drS [0] 3 [(2, .eq (.bool false))] [AV.bool ((r_6.1.Lo == r_14.Lo) && ((r_6.1.Hi == r_14.Hi) && true)) = AV.bool false] (mkS 69 [(1, .sl (r_2.1.map (SV (AV.int .i64))) none), (2, i6 r_2.2), (3, .sl (r_4.1.map (AV.int .i64)) none), (4, i6 r_4.2), (5, .ptr 0 0), (6, i6 r_6.2), (7, i6 r_7.1), (8, i6 r_7.2.1), (9, i6 r_7.2.2), (32, i6 r_2.2), (33, .bool (r_2.2 == 0)), (34, .bool true), (35, i6 r_4.2), (36, .bool (r_4.2 == 0)), (37, .bool (r_4.2 == 0)), (38, .bool true), (39, i6 r_6.2), (40, .bool (r_6.2 == 0)), (41, .bool (r_6.2 == 0)), (42, .bool true), (43, i6 r_7.2.2), (44, .bool (r_7.2.2 == 0)), (45, .bool (r_7.2.2 == 0)), (46, .bool true), (47, i6 r_7.1), (48, .bool (r_7.1 == 4)), (49, .bool (r_7.1 == 4)), (50, .bool true), (51, i6 r_7.2.1), (52, .bool (r_7.2.1 == 2)), (53, .bool (r_7.2.1 == 2)), (54, .bool true), (55, (A_Span r_6.1)), (56, (A_Span r_14)), (57, .bool ((r_6.1.Lo == r_14.Lo) && ((r_6.1.Hi == r_14.Hi) && true))), (58, .bool ((r_6.1.Lo == r_14.Lo) && ((r_6.1.Hi == r_14.Hi) && true))), (59, .bool false)]) (by simp) (by kernel_rfl) ⟨congrArg AV.bool hc_15, trivial⟩ (by kernel_rfl) ?_
         refine drK (by kernel_rfl) (by kernel_rfl) ?_
         refine drK (by kernel_rfl) (by kernel_rfl) ?_
         refine drK (by kernel_rfl) (by kernel_rfl) ?_
         refine drS [0] 2 [] [] (mkS 69 [(1, .sl (r_2.1.map (SV (AV.int .i64))) none), (2, i6 r_2.2), (3, .sl (r_4.1.map (AV.int .i64)) none), (4, i6 r_4.2), (5, .ptr 0 0), (6, i6 r_6.2), (7, i6 r_7.1), (8, i6 r_7.2.1), (9, i6 r_7.2.2), (32, i6 r_2.2), (33, .bool (r_2.2 == 0)), (34, .bool true), (35, i6 r_4.2), (36, .bool (r_4.2 == 0)), (37, .bool (r_4.2 == 0)), (38, .bool true), (39, i6 r_6.2), (40, .bool (r_6.2 == 0)), (41, .bool (r_6.2 == 0)), (42, .bool true), (43, i6 r_7.2.2), (44, .bool (r_7.2.2 == 0)), (45, .bool (r_7.2.2 == 0)), (46, .bool true), (47, i6 r_7.1), (48, .bool (r_7.1 == 4)), (49, .bool (r_7.1 == 4)), (50, .bool true), (51, i6 r_7.2.1), (52, .bool (r_7.2.1 == 2)), (53, .bool (r_7.2.1 == 2)), (54, .bool true), (55, (A_Span r_6.1)), (56, (A_Span r_14)), (57, .bool ((r_6.1.Lo == r_14.Lo) && ((r_6.1.Hi == r_14.Hi) && true))), (58, .bool ((r_6.1.Lo == r_14.Lo) && ((r_6.1.Hi == r_14.Hi) && true))), (59, .bool false), (60, .tup []), (61, .tup []), (62, .tup []), (63, .bool false), (64, .bool false)]) (by simp) (by kernel_rfl) trivial (by kernel_rfl) ?_
         refine drK (by kernel_rfl) (by kernel_rfl) ?_
         refine drK (by kernel_rfl) (by kernel_rfl) ?_
         exact DrO.nil rfl
        ·dsimp only [List.getLastD_cons, List.getLastD_nil]
         refine rn 3 [0] (mkS 69 [(0, .bool false)]) ⟨[(C_Span r_6.1)], [(3, 1), (3, 1), (2, 1)]⟩ ?_
         refine ExO.nil ?_
         refine Ex.ret ?_
         obtain rfl := sJ h
         exact rt (.bool false)
      ·refine Ex.drawE (a1 := mkS 69 [(1, .sl (r_2.1.map (SV (AV.int .i64))) none), (2, i6 r_2.2), (3, .sl (r_4.1.map (AV.int .i64)) none), (4, i6 r_4.2), (5, .ptr 0 0), (6, i6 r_6.2), (7, i6 r_7.1), (8, i6 r_7.2.1), (9, i6 r_7.2.2), (32, i6 r_2.2), (33, .bool (r_2.2 == 0)), (34, .bool true), (35, i6 r_4.2), (36, .bool (r_4.2 == 0)), (37, .bool (r_4.2 == 0)), (38, .bool true), (39, i6 r_6.2), (40, .bool (r_6.2 == 0)), (41, .bool (r_6.2 == 0)), (42, .bool true), (43, i6 r_7.2.2), (44, .bool (r_7.2.2 == 0)), (45, .bool (r_7.2.2 == 0)), (46, .bool true), (47, i6 r_7.1), (48, .bool (r_7.1 == 4)), (49, .bool (r_7.1 == 4)), (50, .bool true), (51, i6 r_7.2.1), (52, .bool (r_7.2.1 == 2)), (53, .bool (r_7.2.1 == 2)), (54, .bool false), (55, .tup []), (56, .tup []), (57, .tup []), (58, .bool false), (59, .bool false), (60, .tup []), (61, .tup []), (62, .tup []), (63, .bool false), (64, .bool false), (65, .tup []), (66, .tup [])]) (noClr_ok _) [] [(2, 1)] [] ?_ ?_
       ·refine drS [0] 23 [(2, .eq (.bool true)), (6, .eq (.bool true)), (10, .eq (.bool true)), (14, .eq (.bool true)), (18, .eq (.bool true)), (22, .eq (.bool false))] [AV.bool (r_2.2 == 0) = AV.bool true, AV.bool (r_4.2 == 0) = AV.bool true, AV.bool (r_6.2 == 0) = AV.bool true, AV.bool (r_7.2.2 == 0) = AV.bool true, AV.bool (r_7.1 == 4) = AV.bool true, AV.bool (r_7.2.1 == 2) = AV.bool false] (mkS 69 [(1, .sl (r_2.1.map (SV (AV.int .i64))) none), (2, i6 r_2.2), (3, .sl (r_4.1.map (AV.int .i64)) none), (4, i6 r_4.2), (5, .ptr 0 0), (6, i6 r_6.2), (7, i6 r_7.1), (8, i6 r_7.2.1), (9, i6 r_7.2.2), (32, i6 r_2.2), (33, .bool (r_2.2 == 0)), (34, .bool true), (35, i6 r_4.2), (36, .bool (r_4.2 == 0)), (37, .bool (r_4.2 == 0)), (38, .bool true), (39, i6 r_6.2), (40, .bool (r_6.2 == 0)), (41, .bool (r_6.2 == 0)), (42, .bool true), (43, i6 r_7.2.2), (44, .bool (r_7.2.2 == 0)), (45, .bool (r_7.2.2 == 0)), (46, .bool true), (47, i6 r_7.1), (48, .bool (r_7.1 == 4)), (49, .bool (r_7.1 == 4)), (50, .bool true), (51, i6 r_7.2.1), (52, .bool (r_7.2.1 == 2)), (53, .bool (r_7.2.1 == 2)), (54, .bool false)]) (by simp) (by kernel_rfl) ⟨congrArg AV.bool hc_8, congrArg AV.bool hc_9, congrArg AV.bool hc_10, congrArg AV.bool hc_11, congrArg AV.bool hc_12, congrArg AV.bool hc_13, trivial⟩ (by kernel_rfl) ?_
        refine drK (by kernel_rfl) (by kernel_rfl) ?_
        refine drK (by kernel_rfl) (by kernel_rfl) ?_
        refine drK (by kernel_rfl) (by kernel_rfl) ?_
        refine drS [0] 2 [] [] (mkS 69 [(1, .sl (r_2.1.map (SV (AV.int .i64))) none), (2, i6 r_2.2), (3, .sl (r_4.1.map (AV.int .i64)) none), (4, i6 r_4.2), (5, .ptr 0 0), (6, i6 r_6.2), (7, i6 r_7.1), (8, i6 r_7.2.1), (9, i6 r_7.2.2), (32, i6 r_2.2), (33, .bool (r_2.2 == 0)), (34, .bool true), (35, i6 r_4.2), (36, .bool (r_4.2 == 0)), (37, .bool (r_4.2 == 0)), (38, .bool true), (39, i6 r_6.2), (40, .bool (r_6.2 == 0)), (41, .bool (r_6.2 == 0)), (42, .bool true), (43, i6 r_7.2.2), (44, .bool (r_7.2.2 == 0)), (45, .bool (r_7.2.2 == 0)), (46, .bool true), (47, i6 r_7.1), (48, .bool (r_7.1 == 4)), (49, .bool (r_7.1 == 4)), (50, .bool true), (51, i6 r_7.2.1), (52, .bool (r_7.2.1 == 2)), (53, .bool (r_7.2.1 == 2)), (54, .bool false), (55, .tup []), (56, .tup []), (57, .tup []), (58, .bool false), (59, .bool false)]) (by simp) (by kernel_rfl) trivial (by kernel_rfl) ?_
        refine drK (by kernel_rfl) (by kernel_rfl) ?_
        refine drK (by kernel_rfl) (by kernel_rfl) ?_
        refine drK (by kernel_rfl) (by kernel_rfl) ?_
        refine drS [0] 2 [] [] (mkS 69 [(1, .sl (r_2.1.map (SV (AV.int .i64))) none), (2, i6 r_2.2), (3, .sl (r_4.1.map (AV.int .i64)) none), (4, i6 r_4.2), (5, .ptr 0 0), (6, i6 r_6.2), (7, i6 r_7.1), (8, i6 r_7.2.1), (9, i6 r_7.2.2), (32, i6 r_2.2), (33, .bool (r_2.2 == 0)), (34, .bool true), (35, i6 r_4.2), (36, .bool (r_4.2 == 0)), (37, .bool (r_4.2 == 0)), (38, .bool true), (39, i6 r_6.2), (40, .bool (r_6.2 == 0)), (41, .bool (r_6.2 == 0)), (42, .bool true), (43, i6 r_7.2.2), (44, .bool (r_7.2.2 == 0)), (45, .bool (r_7.2.2 == 0)), (46, .bool true), (47, i6 r_7.1), (48, .bool (r_7.1 == 4)), (49, .bool (r_7.1 == 4)), (50, .bool true), (51, i6 r_7.2.1), (52, .bool (r_7.2.1 == 2)), (53, .bool (r_7.2.1 == 2)), (54, .bool false), (55, .tup []), (56, .tup []), (57, .tup []), (58, .bool false), (59, .bool false), (60, .tup []), (61, .tup []), (62, .tup []), (63, .bool false), (64, .bool false)]) (by simp) (by kernel_rfl) trivial (by kernel_rfl) ?_
        refine drK (by kernel_rfl) (by kernel_rfl) ?_
        refine drK (by kernel_rfl) (by kernel_rfl) ?_
        exact DrO.nil rfl
       ·dsimp only [List.getLastD_cons, List.getLastD_nil]
        refine rn 3 [0] (mkS 69 [(0, .bool false)]) ⟨[(C_Span r_6.1)], [(3, 1), (3, 1), (2, 1)]⟩ ?_
        refine ExO.nil ?_
        refine Ex.ret ?_
        obtain rfl := sJ h
        exact rt (.bool false)
     ·refine Ex.drawE (a1 := mkS 69 [(1, .sl (r_2.1.map (SV (AV.int .i64))) none), (2, i6 r_2.2), (3, .sl (r_4.1.map (AV.int .i64)) none), (4, i6 r_4.2), (5, .ptr 0 0), (6, i6 r_6.2), (7, i6 r_7.1), (8, i6 r_7.2.1), (9, i6 r_7.2.2), (32, i6 r_2.2), (33, .bool (r_2.2 == 0)), (34, .bool true), (35, i6 r_4.2), (36, .bool (r_4.2 == 0)), (37, .bool (r_4.2 == 0)), (38, .bool true), (39, i6 r_6.2), (40, .bool (r_6.2 == 0)), (41, .bool (r_6.2 == 0)), (42, .bool true), (43, i6 r_7.2.2), (44, .bool (r_7.2.2 == 0)), (45, .bool (r_7.2.2 == 0)), (46, .bool true), (47, i6 r_7.1), (48, .bool (r_7.1 == 4)), (49, .bool (r_7.1 == 4)), (50, .bool false), (51, .tup []), (52, .tup []), (53, .bool false), (54, .bool false), (55, .tup []), (56, .tup []), (57, .tup []), (58, .bool false), (59, .bool false), (60, .tup []), (61, .tup []), (62, .tup []), (63, .bool false), (64, .bool false), (65, .tup []), (66, .tup [])]) (noClr_ok _) [] [(2, 1)] [] ?_ ?_
      ·refine drS [0] 19 [(2, .eq (.bool true)), (6, .eq (.bool true)), (10, .eq (.bool true)), (14, .eq (.bool true)), (18, .eq (.bool false))] [AV.bool (r_2.2 == 0) = AV.bool true, AV.bool (r_4.2 == 0) = AV.bool true, AV.bool (r_6.2 == 0) = AV.bool true, AV.bool (r_7.2.2 == 0) = AV.bool true, AV.bool (r_7.1 == 4) = AV.bool false] (mkS 69 [(1, .sl (r_2.1.map (SV (AV.int .i64))) none), (2, i6 r_2.2), (3, .sl (r_4.1.map (AV.int .i64)) none), (4, i6 r_4.2), (5, .ptr 0 0), (6, i6 r_6.2), (7, i6 r_7.1), (8, i6 r_7.2.1), (9, i6 r_7.2.2), (32, i6 r_2.2), (33, .bool (r_2.2 == 0)), (34, .bool true), (35, i6 r_4.2), (36, .bool (r_4.2 == 0)), (37, .bool (r_4.2 == 0)), (38, .bool true), (39, i6 r_6.2), (40, .bool (r_6.2 == 0)), (41, .bool (r_6.2 == 0)), (42, .bool true), (43, i6 r_7.2.2), (44, .bool (r_7.2.2 == 0)), (45, .bool (r_7.2.2 == 0)), (46, .bool true), (47, i6 r_7.1), (48, .bool (r_7.1 == 4)), (49, .bool (r_7.1 == 4)), (50, .bool false)]) (by simp) (by kernel_rfl) ⟨congrArg AV.bool hc_8, congrArg AV.bool hc_9, congrArg AV.bool hc_10, congrArg AV.bool hc_11, congrArg AV.bool hc_12, trivial⟩ (by kernel_rfl) ?_
       refine drK (by kernel_rfl) (by kernel_rfl) ?_
       refine drK (by kernel_rfl) (by kernel_rfl) ?_
       refine drS [0] 2 [] [] (mkS 69 [(1, .sl (r_2.1.map (SV (AV.int .i64))) none), (2, i6 r_2.2), (3, .sl (r_4.1.map (AV.int .i64)) none), (4, i6 r_4.2), (5, .ptr 0 0), (6, i6 r_6.2), (7, i6 r_7.1), (8, i6 r_7.2.1), (9, i6 r_7.2.2), (32, i6 r_2.2), (33, .bool (r_2.2 == 0)), (34, .bool true), (35, i6 r_4.2), (36, .bool (r_4.2 == 0)), (37, .bool (r_4.2 == 0)), (38, .bool true), (39, i6 r_6.2), (40, .bool (r_6.2 == 0)), (41, .bool (r_6.2 == 0)), (42, .bool true), (43, i6 r_7.2.2), (44, .bool (r_7.2.2 == 0)), (45, .bool (r_7.2.2 == 0)), (46, .bool true), (47, i6 r_7.1), (48, .bool (r_7.1 == 4)), (49, .bool (r_7.1 == 4)), (50, .bool false), (51, .tup []), (52, .tup []), (53, .bool false), (54, .bool false)]) (by simp) (by kernel_rfl) trivial (by kernel_rfl) ?_
       refine drK (by kernel_rfl) (by kernel_rfl) ?_
       refine drK (by kernel_rfl) (by kernel_rfl) ?_
       refine drK (by kernel_rfl) (by kernel_rfl) ?_
       refine drS [0] 2 [] [] (mkS 69 [(1, .sl (r_2.1.map (SV (AV.int .i64))) none), (2, i6 r_2.2), (3, .sl (r_4.1.map (AV.int .i64)) none), (4, i6 r_4.2), (5, .ptr 0 0), (6, i6 r_6.2), (7, i6 r_7.1), (8, i6 r_7.2.1), (9, i6 r_7.2.2), (32, i6 r_2.2), (33, .bool (r_2.2 == 0)), (34, .bool true), (35, i6 r_4.2), (36, .bool (r_4.2 == 0)), (37, .bool (r_4.2 == 0)), (38, .bool true), (39, i6 r_6.2), (40, .bool (r_6.2 == 0)), (41, .bool (r_6.2 == 0)), (42, .bool true), (43, i6 r_7.2.2), (44, .bool (r_7.2.2 == 0)), (45, .bool (r_7.2.2 == 0)), (46, .bool true), (47, i6 r_7.1), (48, .bool (r_7.1 == 4)), (49, .bool (r_7.1 == 4)), (50, .bool false), (51, .tup []), (52, .tup []), (53, .bool false), (54, .bool false), (55, .tup []), (56, .tup []), (57, .tup []), (58, .bool false), (59, .bool false)]) (by simp) (by kernel_rfl) trivial (by kernel_rfl) ?_
       refine drK (by kernel_rfl) (by kernel_rfl) ?_
       refine drK (by kernel_rfl) (by kernel_rfl) ?_
       refine drK (by kernel_rfl) (by kernel_rfl) ?_
       refine drS [0] 2 [] [] (mkS 69 [(1, .sl (r_2.1.map (SV (AV.int .i64))) none), (2, i6 r_2.2), (3, .sl (r_4.1.map (AV.int .i64)) none), (4, i6 r_4.2), (5, .ptr 0 0), (6, i6 r_6.2), (7, i6 r_7.1), (8, i6 r_7.2.1), (9, i6 r_7.2.2), (32, i6 r_2.2), (33, .bool (r_2.2 == 0)), (34, .bool true), (35, i6 r_4.2), (36, .bool (r_4.2 == 0)), (37, .bool (r_4.2 == 0)), (38, .bool true), (39, i6 r_6.2), (40, .bool (r_6.2 == 0)), (41, .bool (r_6.2 == 0)), (42, .bool true), (43, i6 r_7.2.2), (44, .bool (r_7.2.2 == 0)), (45, .bool (r_7.2.2 == 0)), (46, .bool true), (47, i6 r_7.1), (48, .bool (r_7.1 == 4)), (49, .bool (r_7.1 == 4)), (50, .bool false), (51, .tup []), (52, .tup []), (53, .bool false), (54, .bool false), (55, .tup []), (56, .tup []), (57, .tup []), (58, .bool false), (59, .bool false), (60, .tup []), (61, .tup []), (62, .tup []), (63, .bool false), (64, .bool false)]) (by simp) (by kernel_rfl) trivial (by kernel_rfl) ?_
       refine drK (by kernel_rfl) (by kernel_rfl) ?_
       refine drK (by kernel_rfl) (by kernel_rfl) ?_
       exact DrO.nil rfl
      ·dsimp only [List.getLastD_cons, List.getLastD_nil]
       refine rn 3 [0] (mkS 69 [(0, .bool false)]) ⟨[(C_Span r_6.1)], [(3, 1), (3, 1), (2, 1)]⟩ ?_
       refine ExO.nil ?_
       refine Ex.ret ?_
       obtain rfl := sJ h
       exact rt (.bool false)
    ·refine Ex.drawE (a1 := mkS 69 [(1, .sl (r_2.1.map (SV (AV.int .i64))) none), (2, i6 r_2.2), (3, .sl (r_4.1.map (AV.int .i64)) none), (4, i6 r_4.2), (5, .ptr 0 0), (6, i6 r_6.2), (7, i6 r_7.1), (8, i6 r_7.2.1), (9, i6 r_7.2.2), (32, i6 r_2.2), (33, .bool (r_2.2 == 0)), (34, .bool true), (35, i6 r_4.2), (36, .bool (r_4.2 == 0)), (37, .bool (r_4.2 == 0)), (38, .bool true), (39, i6 r_6.2), (40, .bool (r_6.2 == 0)), (41, .bool (r_6.2 == 0)), (42, .bool true), (43, i6 r_7.2.2), (44, .bool (r_7.2.2 == 0)), (45, .bool (r_7.2.2 == 0)), (46, .bool false), (47, .tup []), (48, .tup []), (49, .bool false), (50, .bool false), (51, .tup []), (52, .tup []), (53, .bool false), (54, .bool false), (55, .tup []), (56, .tup []), (57, .tup []), (58, .bool false), (59, .bool false), (60, .tup []), (61, .tup []), (62, .tup []), (63, .bool false), (64, .bool false), (65, .tup []), (66, .tup [])]) (noClr_ok _) [] [(2, 1)] [] ?_ ?_
     ·refine drS [0] 15 [(2, .eq (.bool true)), (6, .eq (.bool true)), (10, .eq (.bool true)), (14, .eq (.bool false))] [AV.bool (r_2.2 == 0) = AV.bool true, AV.bool (r_4.2 == 0) = AV.bool true, AV.bool (r_6.2 == 0) = AV.bool true, AV.bool (r_7.2.2 == 0) = AV.bool false] (mkS 69 [(1, .sl (r_2.1.map (SV (AV.int .i64))) none), (2, i6 r_2.2), (3, .sl (r_4.1.map (AV.int .i64)) none), (4, i6 r_4.2), (5, .ptr 0 0), (6, i6 r_6.2), (7, i6 r_7.1), (8, i6 r_7.2.1), (9, i6 r_7.2.2), (32, i6 r_2.2), (33, .bool (r_2.2 == 0)), (34, .bool true), (35, i6 r_4.2), (36, .bool (r_4.2 == 0)), (37, .bool (r_4.2 == 0)), (38, .bool true), (39, i6 r_6.2), (40, .bool (r_6.2 == 0)), (41, .bool (r_6.2 == 0)), (42, .bool true), (43, i6 r_7.2.2), (44, .bool (r_7.2.2 == 0)), (45, .bool (r_7.2.2 == 0)), (46, .bool false)]) (by simp) (by kernel_rfl) ⟨congrArg AV.bool hc_8, congrArg AV.bool hc_9, congrArg AV.bool hc_10, congrArg AV.bool hc_11, trivial⟩ (by kernel_rfl) ?_
      refine drK (by kernel_rfl) (by kernel_rfl) ?_
      refine drK (by kernel_rfl) (by kernel_rfl) ?_
      refine drS [0] 2 [] [] (mkS 69 [(1, .sl (r_2.1.map (SV (AV.int .i64))) none), (2, i6 r_2.2), (3, .sl (r_4.1.map (AV.int .i64)) none), (4, i6 r_4.2), (5, .ptr 0 0), (6, i6 r_6.2), (7, i6 r_7.1), (8, i6 r_7.2.1), (9, i6 r_7.2.2), (32, i6 r_2.2), (33, .bool (r_2.2 == 0)), (34, .bool true), (35, i6 r_4.2), (36, .bool (r_4.2 == 0)), (37, .bool (r_4.2 == 0)), (38, .bool true), (39, i6 r_6.2), (40, .bool (r_6.2 == 0)), (41, .bool (r_6.2 == 0)), (42, .bool true), (43, i6 r_7.2.2), (44, .bool (r_7.2.2 == 0)), (45, .bool (r_7.2.2 == 0)), (46, .bool false), (47, .tup []), (48, .tup []), (49, .bool false), (50, .bool false)]) (by simp) (by kernel_rfl) trivial (by kernel_rfl) ?_
      refine drK (by kernel_rfl) (by kernel_rfl) ?_
      refine drK (by kernel_rfl) (by kernel_rfl) ?_
      refine drS [0] 2 [] [] (mkS 69 [(1, .sl (r_2.1.map (SV (AV.int .i64))) none), (2, i6 r_2.2), (3, .sl (r_4.1.map (AV.int .i64)) none), (4, i6 r_4.2), (5, .ptr 0 0), (6, i6 r_6.2), (7, i6 r_7.1), (8, i6 r_7.2.1), (9, i6 r_7.2.2), (32, i6 r_2.2), (33, .bool (r_2.2 == 0)), (34, .bool true), (35, i6 r_4.2), (36, .bool (r_4.2 == 0)), (37, .bool (r_4.2 == 0)), (38, .bool true), (39, i6 r_6.2), (40, .bool (r_6.2 == 0)), (41, .bool (r_6.2 == 0)), (42, .bool true), (43, i6 r_7.2.2), (44, .bool (r_7.2.2 == 0)), (45, .bool (r_7.2.2 == 0)), (46, .bool false), (47, .tup []), (48, .tup []), (49, .bool false), (50, .bool false), (51, .tup []), (52, .tup []), (53, .bool false), (54, .bool false)]) (by simp) (by kernel_rfl) trivial (by kernel_rfl) ?_
      refine drK (by kernel_rfl) (by kernel_rfl) ?_
      refine drK (by kernel_rfl) (by kernel_rfl) ?_
      refine drK (by kernel_rfl) (by kernel_rfl) ?_
      refine drS [0] 2 [] [] (mkS 69 [(1, .sl (r_2.1.map (SV (AV.int .i64))) none), (2, i6 r_2.2), (3, .sl (r_4.1.map (AV.int .i64)) none), (4, i6 r_4.2), (5, .ptr 0 0), (6, i6 r_6.2), (7, i6 r_7.1), (8, i6 r_7.2.1), (9, i6 r_7.2.2), (32, i6 r_2.2), (33, .bool (r_2.2 == 0)), (34, .bool true), (35, i6 r_4.2), (36, .bool (r_4.2 == 0)), (37, .bool (r_4.2 == 0)), (38, .bool true), (39, i6 r_6.2), (40, .bool (r_6.2 == 0)), (41, .bool (r_6.2 == 0)), (42, .bool true), (43, i6 r_7.2.2), (44, .bool (r_7.2.2 == 0)), (45, .bool (r_7.2.2 == 0)), (46, .bool false), (47, .tup []), (48, .tup []), (49, .bool false), (50, .bool false), (51, .tup []), (52, .tup []), (53, .bool false), (54, .bool false), (55, .tup []), (56, .tup []), (57, .tup []), (58, .bool false), (59, .bool false)]) (by simp) (by kernel_rfl) trivial (by kernel_rfl) ?_
      refine drK (by kernel_rfl) (by kernel_rfl) ?_
      refine drK (by kernel_rfl) (by kernel_rfl) ?_
      refine drK (by kernel_rfl) (by kernel_rfl) ?_
      refine drS [0] 2 [] [] (mkS 69 [(1, .sl (r_2.1.map (SV (AV.int .i64))) none), (2, i6 r_2.2), (3, .sl (r_4.1.map (AV.int .i64)) none), (4, i6 r_4.2), (5, .ptr 0 0), (6, i6 r_6.2), (7, i6 r_7.1), (8, i6 r_7.2.1), (9, i6 r_7.2.2), (32, i6 r_2.2), (33, .bool (r_2.2 == 0)), (34, .bool true), (35, i6 r_4.2), (36, .bool (r_4.2 == 0)), (37, .bool (r_4.2 == 0)), (38, .bool true), (39, i6 r_6.2), (40, .bool (r_6.2 == 0)), (41, .bool (r_6.2 == 0)), (42, .bool true), (43, i6 r_7.2.2), (44, .bool (r_7.2.2 == 0)), (45, .bool (r_7.2.2 == 0)), (46, .bool false), (47, .tup []), (48, .tup []), (49, .bool false), (50, .bool false), (51, .tup []), (52, .tup []), (53, .bool false), (54, .bool false), (55, .tup []), (56, .tup []), (57, .tup []), (58, .bool false), (59, .bool false), (60, .tup []), (61, .tup []), (62, .tup []), (63, .bool false), (64, .bool false)]) (by simp) (by kernel_rfl) trivial (by kernel_rfl) ?_
      refine drK (by kernel_rfl) (by kernel_rfl) ?_
      refine drK (by kernel_rfl) (by kernel_rfl) ?_
      exact DrO.nil rfl
     ·dsimp only [List.getLastD_cons, List.getLastD_nil]
      refine rn 3 [0] (mkS 69 [(0, .bool false)]) ⟨[(C_Span r_6.1)], [(3, 1), (3, 1), (2, 1)]⟩ ?_
      refine ExO.nil ?_
      refine Ex.ret ?_
      obtain rfl := sJ h
      exact rt (.bool false)
   ·refine Ex.drawE (a1 := mkS 69 [(1, .sl (r_2.1.map (SV (AV.int .i64))) none), (2, i6 r_2.2), (3, .sl (r_4.1.map (AV.int .i64)) none), (4, i6 r_4.2), (5, .ptr 0 0), (6, i6 r_6.2), (7, i6 r_7.1), (8, i6 r_7.2.1), (9, i6 r_7.2.2), (32, i6 r_2.2), (33, .bool (r_2.2 == 0)), (34, .bool true), (35, i6 r_4.2), (36, .bool (r_4.2 == 0)), (37, .bool (r_4.2 == 0)), (38, .bool true), (39, i6 r_6.2), (40, .bool (r_6.2 == 0)), (41, .bool (r_6.2 == 0)), (42, .bool false), (43, .tup []), (44, .tup []), (45, .bool false), (46, .bool false), (47, .tup []), (48, .tup []), (49, .bool false), (50, .bool false), (51, .tup []), (52, .tup []), (53, .bool false), (54, .bool false), (55, .tup []), (56, .tup []), (57, .tup []), (58, .bool false), (59, .bool false), (60, .tup []), (61, .tup []), (62, .tup []), (63, .bool false), (64, .bool false), (65, .tup []), (66, .tup [])]) (noClr_ok _) [] [(2, 1)] [] ?_ ?_
    ·refine drS [0] 11 [(2, .eq (.bool true)), (6, .eq (.bool true)), (10, .eq (.bool false))] [AV.bool (r_2.2 == 0) = AV.bool true, AV.bool (r_4.2 == 0) = AV.bool true, AV.bool (r_6.2 == 0) = AV.bool false] (mkS 69 [(1, .sl (r_2.1.map (SV (AV.int .i64))) none), (2, i6 r_2.2), (3, .sl (r_4.1.map (AV.int .i64)) none), (4, i6 r_4.2), (5, .ptr 0 0), (6, i6 r_6.2), (7, i6 r_7.1), (8, i6 r_7.2.1), (9, i6 r_7.2.2), (32, i6 r_2.2), (33, .bool (r_2.2 == 0)), (34, .bool true), (35, i6 r_4.2), (36, .bool (r_4.2 == 0)), (37, .bool (r_4.2 == 0)), (38, .bool true), (39, i6 r_6.2), (40, .bool (r_6.2 == 0)), (41, .bool (r_6.2 == 0)), (42, .bool false)]) (by simp) (by kernel_rfl) ⟨congrArg AV.bool hc_8, congrArg AV.bool hc_9, congrArg AV.bool hc_10, trivial⟩ (by kernel_rfl) ?_
     refine drK (by kernel_rfl) (by kernel_rfl) ?_
     refine drK (by kernel_rfl) (by kernel_rfl) ?_
     refine drS [0] 2 [] [] (mkS 69 [(1, .sl (r_2.1.map (SV (AV.int .i64))) none), (2, i6 r_2.2), (3, .sl (r_4.1.map (AV.int .i64)) none), (4, i6 r_4.2), (5, .ptr 0 0), (6, i6 r_6.2), (7, i6 r_7.1), (8, i6 r_7.2.1), (9, i6 r_7.2.2), (32, i6 r_2.2), (33, .bool (r_2.2 == 0)), (34, .bool true), (35, i6 r_4.2), (36, .bool (r_4.2 == 0)), (37, .bool (r_4.2 == 0)), (38, .bool true), (39, i6 r_6.2), (40, .bool (r_6.2 == 0)), (41, .bool (r_6.2 == 0)), (42, .bool false), (43, .tup []), (44, .tup []), (45, .bool false), (46, .bool false)]) (by simp) (by kernel_rfl) trivial (by kernel_rfl) ?_
     refine drK (by kernel_rfl) (by kernel_rfl) ?_
     refine drK (by kernel_rfl) (by kernel_rfl) ?_
     refine drS [0] 2 [] [] (mkS 69 [(1, .sl (r_2.1.map (SV (AV.int .i64))) none), (2, i6 r_2.2), (3, .sl (r_4.1.map (AV.int .i64)) none), (4, i6 r_4.2), (5, .ptr 0 0), (6, i6 r_6.2), (7, i6 r_7.1), (8, i6 r_7.2.1), (9, i6 r_7.2.2), (32, i6 r_2.2), (33, .bool (r_2.2 == 0)), (34, .bool true), (35, i6 r_4.2), (36, .bool (r_4.2 == 0)), (37, .bool (r_4.2 == 0)), (38, .bool true), (39, i6 r_6.2), (40, .bool (r_6.2 == 0)), (41, .bool (r_6.2 == 0)), (42, .bool false), (43, .tup []), (44, .tup []), (45, .bool false), (46, .bool false), (47, .tup []), (48, .tup []), (49, .bool false), (50, .bool false)]) (by simp) (by kernel_rfl) trivial (by kernel_rfl) ?_
     refine drK (by kernel_rfl) (by kernel_rfl) ?_
     refine drK (by kernel_rfl) (by kernel_rfl) ?_
     refine drS [0] 2 [] [] (mkS 69 [(1, .sl (r_2.1.map (SV (AV.int .i64))) none), (2, i6 r_2.2), (3, .sl (r_4.1.map (AV.int .i64)) none), (4, i6 r_4.2), (5, .ptr 0 0), (6, i6 r_6.2), (7, i6 r_7.1), (8, i6 r_7.2.1), (9, i6 r_7.2.2), (32, i6 r_2.2), (33, .bool (r_2.2 == 0)), (34, .bool true), (35, i6 r_4.2), (36, .bool (r_4.2 == 0)), (37, .bool (r_4.2 == 0)), (38, .bool true), (39, i6 r_6.2), (40, .bool (r_6.2 == 0)), (41, .bool (r_6.2 == 0)), (42, .bool false), (43, .tup []), (44, .tup []), (45, .bool false), (46, .bool false), (47, .tup []), (48, .tup []), (49, .bool false), (50, .bool false), (51, .tup []), (52, .tup []), (53, .bool false), (54, .bool false)]) (by simp) (by kernel_rfl) trivial (by kernel_rfl) ?_
     refine drK (by kernel_rfl) (by kernel_rfl) ?_
     refine drK (by kernel_rfl) (by kernel_rfl) ?_
     refine drK (by kernel_rfl) (by kernel_rfl) ?_
     refine drS [0] 2 [] [] (mkS 69 [(1, .sl (r_2.1.map (SV (AV.int .i64))) none), (2, i6 r_2.2), (3, .sl (r_4.1.map (AV.int .i64)) none), (4, i6 r_4.2), (5, .ptr 0 0), (6, i6 r_6.2), (7, i6 r_7.1), (8, i6 r_7.2.1), (9, i6 r_7.2.2), (32, i6 r_2.2), (33, .bool (r_2.2 == 0)), (34, .bool true), (35, i6 r_4.2), (36, .bool (r_4.2 == 0)), (37, .bool (r_4.2 == 0)), (38, .bool true), (39, i6 r_6.2), (40, .bool (r_6.2 == 0)), (41, .bool (r_6.2 == 0)), (42, .bool false), (43, .tup []), (44, .tup []), (45, .bool false), (46, .bool false), (47, .tup []), (48, .tup []), (49, .bool false), (50, .bool false), (51, .tup []), (52, .tup []), (53, .bool false), (54, .bool false), (55, .tup []), (56, .tup []), (57, .tup []), (58, .bool false), (59, .bool false)]) (by simp) (by kernel_rfl) trivial (by kernel_rfl) ?_
     refine drK (by kernel_rfl) (by kernel_rfl) ?_
     refine drK (by kernel_rfl) (by kernel_rfl) ?_
     refine drK (by kernel_rfl) (by kernel_rfl) ?_
     refine drS [0] 2 [] [] (mkS 69 [(1, .sl (r_2.1.map (SV (AV.int .i64))) none), (2, i6 r_2.2), (3, .sl (r_4.1.map (AV.int .i64)) none), (4, i6 r_4.2), (5, .ptr 0 0), (6, i6 r_6.2), (7, i6 r_7.1), (8, i6 r_7.2.1), (9, i6 r_7.2.2), (32, i6 r_2.2), (33, .bool (r_2.2 == 0)), (34, .bool true), (35, i6 r_4.2), (36, .bool (r_4.2 == 0)), (37, .bool (r_4.2 == 0)), (38, .bool true), (39, i6 r_6.2), (40, .bool (r_6.2 == 0)), (41, .bool (r_6.2 == 0)), (42, .bool false), (43, .tup []), (44, .tup []), (45, .bool false), (46, .bool false), (47, .tup []), (48, .tup []), (49, .bool false), (50, .bool false), (51, .tup []), (52, .tup []), (53, .bool false), (54, .bool false), (55, .tup []), (56, .tup []), (57, .tup []), (58, .bool false), (59, .bool false), (60, .tup []), (61, .tup []), (62, .tup []), (63, .bool false), (64, .bool false)]) (by simp) (by kernel_rfl) trivial (by kernel_rfl) ?_
     refine drK (by kernel_rfl) (by kernel_rfl) ?_
     refine drK (by kernel_rfl) (by kernel_rfl) ?_
     exact DrO.nil rfl
    ·dsimp only [List.getLastD_cons, List.getLastD_nil]
     refine rn 3 [0] (mkS 69 [(0, .bool false)]) ⟨[(C_Span r_6.1)], [(3, 1), (3, 1), (2, 1)]⟩ ?_
     refine ExO.nil ?_
     refine Ex.ret ?_
     obtain rfl := sJ h
     exact rt (.bool false)
  ·refine Ex.drawE (a1 := mkS 69 [(1, .sl (r_2.1.map (SV (AV.int .i64))) none), (2, i6 r_2.2), (3, .sl (r_4.1.map (AV.int .i64)) none), (4, i6 r_4.2), (5, .ptr 0 0), (6, i6 r_6.2), (7, i6 r_7.1), (8, i6 r_7.2.1), (9, i6 r_7.2.2), (32, i6 r_2.2), (33, .bool (r_2.2 == 0)), (34, .bool true), (35, i6 r_4.2), (36, .bool (r_4.2 == 0)), (37, .bool (r_4.2 == 0)), (38, .bool false), (39, .tup []), (40, .tup []), (41, .bool false), (42, .bool false), (43, .tup []), (44, .tup []), (45, .bool false), (46, .bool false), (47, .tup []), (48, .tup []), (49, .bool false), (50, .bool false), (51, .tup []), (52, .tup []), (53, .bool false), (54, .bool false), (55, .tup []), (56, .tup []), (57, .tup []), (58, .bool false), (59, .bool false), (60, .tup []), (61, .tup []), (62, .tup []), (63, .bool false), (64, .bool false), (65, .tup []), (66, .tup [])]) (noClr_ok _) [] [(2, 1)] [] ?_ ?_
   ·refine drS [0] 7 [(2, .eq (.bool true)), (6, .eq (.bool false))] [AV.bool (r_2.2 == 0) = AV.bool true, AV.bool (r_4.2 == 0) = AV.bool false] (mkS 69 [(1, .sl (r_2.1.map (SV (AV.int .i64))) none), (2, i6 r_2.2), (3, .sl (r_4.1.map (AV.int .i64)) none), (4, i6 r_4.2), (5, .ptr 0 0), (6, i6 r_6.2), (7, i6 r_7.1), (8, i6 r_7.2.1), (9, i6 r_7.2.2), (32, i6 r_2.2), (33, .bool (r_2.2 == 0)), (34, .bool true), (35, i6 r_4.2), (36, .bool (r_4.2 == 0)), (37, .bool (r_4.2 == 0)), (38, .bool false)]) (by simp) (by kernel_rfl) ⟨congrArg AV.bool hc_8, congrArg AV.bool hc_9, trivial⟩ (by kernel_rfl) ?_
    refine drK (by kernel_rfl) (by kernel_rfl) ?_
    refine drK (by kernel_rfl) (by kernel_rfl) ?_
    refine drS [0] 2 [] [] (mkS 69 [(1, .sl (r_2.1.map (SV (AV.int .i64))) none), (2, i6 r_2.2), (3, .sl (r_4.1.map (AV.int .i64)) none), (4, i6 r_4.2), (5, .ptr 0 0), (6, i6 r_6.2), (7, i6 r_7.1), (8, i6 r_7.2.1), (9, i6 r_7.2.2), (32, i6 r_2.2), (33, .bool (r_2.2 == 0)), (34, .bool true), (35, i6 r_4.2), (36, .bool (r_4.2 == 0)), (37, .bool (r_4.2 == 0)), (38, .bool false), (39, .tup []), (40, .tup []), (41, .bool false), (42, .bool false)]) (by simp) (by kernel_rfl) trivial (by kernel_rfl) ?_
    refine drK (by kernel_rfl) (by kernel_rfl) ?_
    refine drK (by kernel_rfl) (by kernel_rfl) ?_
    refine drS [0] 2 [] [] (mkS 69 [(1, .sl (r_2.1.map (SV (AV.int .i64))) none), (2, i6 r_2.2), (3, .sl (r_4.1.map (AV.int .i64)) none), (4, i6 r_4.2), (5, .ptr 0 0), (6, i6 r_6.2), (7, i6 r_7.1), (8, i6 r_7.2.1), (9, i6 r_7.2.2), (32, i6 r_2.2), (33, .bool (r_2.2 == 0)), (34, .bool true), (35, i6 r_4.2), (36, .bool (r_4.2 == 0)), (37, .bool (r_4.2 == 0)), (38, .bool false), (39, .tup []), (40, .tup []), (41, .bool false), (42, .bool false), (43, .tup []), (44, .tup []), (45, .bool false), (46, .bool false)]) (by simp) (by kernel_rfl) trivial (by kernel_rfl) ?_
    refine drK (by kernel_rfl) (by kernel_rfl) ?_
    refine drK (by kernel_rfl) (by kernel_rfl) ?_
    refine drS [0] 2 [] [] (mkS 69 [(1, .sl (r_2.1.map (SV (AV.int .i64))) none), (2, i6 r_2.2), (3, .sl (r_4.1.map (AV.int .i64)) none), (4, i6 r_4.2), (5, .ptr 0 0), (6, i6 r_6.2), (7, i6 r_7.1), (8, i6 r_7.2.1), (9, i6 r_7.2.2), (32, i6 r_2.2), (33, .bool (r_2.2 == 0)), (34, .bool true), (35, i6 r_4.2), (36, .bool (r_4.2 == 0)), (37, .bool (r_4.2 == 0)), (38, .bool false), (39, .tup []), (40, .tup []), (41, .bool false), (42, .bool false), (43, .tup []), (44, .tup []), (45, .bool false), (46, .bool false), (47, .tup []), (48, .tup []), (49, .bool false), (50, .bool false)]) (by simp) (by kernel_rfl) trivial (by kernel_rfl) ?_
    refine drK (by kernel_rfl) (by kernel_rfl) ?_
    refine drK (by kernel_rfl) (by kernel_rfl) ?_
    refine drS [0] 2 [] [] (mkS 69 [(1, .sl (r_2.1.map (SV (AV.int .i64))) none), (2, i6 r_2.2), (3, .sl (r_4.1.map (AV.int .i64)) none), (4, i6 r_4.2), (5, .ptr 0 0), (6, i6 r_6.2), (7, i6 r_7.1), (8, i6 r_7.2.1), (9, i6 r_7.2.2), (32, i6 r_2.2), (33, .bool (r_2.2 == 0)), (34, .bool true), (35, i6 r_4.2), (36, .bool (r_4.2 == 0)), (37, .bool (r_4.2 == 0)), (38, .bool false), (39, .tup []), (40, .tup []), (41, .bool false), (42, .bool false), (43, .tup []), (44, .tup []), (45, .bool false), (46, .bool false), (47, .tup []), (48, .tup []), (49, .bool false), (50, .bool false), (51, .tup []), (52, .tup []), (53, .bool false), (54, .bool false)]) (by simp) (by kernel_rfl) trivial (by kernel_rfl) ?_
    refine drK (by kernel_rfl) (by kernel_rfl) ?_
    refine drK (by kernel_rfl) (by kernel_rfl) ?_
    refine drK (by kernel_rfl) (by kernel_rfl) ?_
    refine drS [0] 2 [] [] (mkS 69 [(1, .sl (r_2.1.map (SV (AV.int .i64))) none), (2, i6 r_2.2), (3, .sl (r_4.1.map (AV.int .i64)) none), (4, i6 r_4.2), (5, .ptr 0 0), (6, i6 r_6.2), (7, i6 r_7.1), (8, i6 r_7.2.1), (9, i6 r_7.2.2), (32, i6 r_2.2), (33, .bool (r_2.2 == 0)), (34, .bool true), (35, i6 r_4.2), (36, .bool (r_4.2 == 0)), (37, .bool (r_4.2 == 0)), (38, .bool false), (39, .tup []), (40, .tup []), (41, .bool false), (42, .bool false), (43, .tup []), (44, .tup []), (45, .bool false), (46, .bool false), (47, .tup []), (48, .tup []), (49, .bool false), (50, .bool false), (51, .tup []), (52, .tup []), (53, .bool false), (54, .bool false), (55, .tup []), (56, .tup []), (57, .tup []), (58, .bool false), (59, .bool false)]) (by simp) (by kernel_rfl) trivial (by kernel_rfl) ?_
    refine drK (by kernel_rfl) (by kernel_rfl) ?_
    refine drK (by kernel_rfl) (by kernel_rfl) ?_
    refine drK (by kernel_rfl) (by kernel_rfl) ?_
    refine drS [0] 2 [] [] (mkS 69 [(1, .sl (r_2.1.map (SV (AV.int .i64))) none), (2, i6 r_2.2), (3, .sl (r_4.1.map (AV.int .i64)) none), (4, i6 r_4.2), (5, .ptr 0 0), (6, i6 r_6.2), (7, i6 r_7.1), (8, i6 r_7.2.1), (9, i6 r_7.2.2), (32, i6 r_2.2), (33, .bool (r_2.2 == 0)), (34, .bool true), (35, i6 r_4.2), (36, .bool (r_4.2 == 0)), (37, .bool (r_4.2 == 0)), (38, .bool false), (39, .tup []), (40, .tup []), (41, .bool false), (42, .bool false), (43, .tup []), (44, .tup []), (45, .bool false), (46, .bool false), (47, .tup []), (48, .tup []), (49, .bool false), (50, .bool false), (51, .tup []), (52, .tup []), (53, .bool false), (54, .bool false), (55, .tup []), (56, .tup []), (57, .tup []), (58, .bool false), (59, .bool false), (60, .tup []), (61, .tup []), (62, .tup []), (63, .bool false), (64, .bool false)]) (by simp) (by kernel_rfl) trivial (by kernel_rfl) ?_
    refine drK (by kernel_rfl) (by kernel_rfl) ?_
    refine drK (by kernel_rfl) (by kernel_rfl) ?_
    exact DrO.nil rfl
   ·dsimp only [List.getLastD_cons, List.getLastD_nil]
    refine rn 3 [0] (mkS 69 [(0, .bool false)]) ⟨[(C_Span r_6.1)], [(3, 1), (3, 1), (2, 1)]⟩ ?_
    refine ExO.nil ?_
    refine Ex.ret ?_
    obtain rfl := sJ h
    exact rt (.bool false)
 ·refine Ex.drawE (a1 := mkS 69 [(1, .sl (r_2.1.map (SV (AV.int .i64))) none), (2, i6 r_2.2), (3, .sl (r_4.1.map (AV.int .i64)) none), (4, i6 r_4.2), (5, .ptr 0 0), (6, i6 r_6.2), (7, i6 r_7.1), (8, i6 r_7.2.1), (9, i6 r_7.2.2), (32, i6 r_2.2), (33, .bool (r_2.2 == 0)), (34, .bool false), (35, .tup []), (36, .tup []), (37, .bool false), (38, .bool false), (39, .tup []), (40, .tup []), (41, .bool false), (42, .bool false), (43, .tup []), (44, .tup []), (45, .bool false), (46, .bool false), (47, .tup []), (48, .tup []), (49, .bool false), (50, .bool false), (51, .tup []), (52, .tup []), (53, .bool false), (54, .bool false), (55, .tup []), (56, .tup []), (57, .tup []), (58, .bool false), (59, .bool false), (60, .tup []), (61, .tup []), (62, .tup []), (63, .bool false), (64, .bool false), (65, .tup []), (66, .tup [])]) (noClr_ok _) [] [(2, 1)] [] ?_ ?_
  ·refine drS [0] 3 [(2, .eq (.bool false))] [AV.bool (r_2.2 == 0) = AV.bool false] (mkS 69 [(1, .sl (r_2.1.map (SV (AV.int .i64))) none), (2, i6 r_2.2), (3, .sl (r_4.1.map (AV.int .i64)) none), (4, i6 r_4.2), (5, .ptr 0 0), (6, i6 r_6.2), (7, i6 r_7.1), (8, i6 r_7.2.1), (9, i6 r_7.2.2), (32, i6 r_2.2), (33, .bool (r_2.2 == 0)), (34, .bool false)]) (by simp) (by kernel_rfl) ⟨congrArg AV.bool hc_8, trivial⟩ (by kernel_rfl) ?_
   refine drK (by kernel_rfl) (by kernel_rfl) ?_
   refine drK (by kernel_rfl) (by kernel_rfl) ?_
   refine drS [0] 2 [] [] (mkS 69 [(1, .sl (r_2.1.map (SV (AV.int .i64))) none), (2, i6 r_2.2), (3, .sl (r_4.1.map (AV.int .i64)) none), (4, i6 r_4.2), (5, .ptr 0 0), (6, i6 r_6.2), (7, i6 r_7.1), (8, i6 r_7.2.1), (9, i6 r_7.2.2), (32, i6 r_2.2), (33, .bool (r_2.2 == 0)), (34, .bool false), (35, .tup []), (36, .tup []), (37, .bool false), (38, .bool false)]) (by simp) (by kernel_rfl) trivial (by kernel_rfl) ?_
   refine drK (by kernel_rfl) (by kernel_rfl) ?_
   refine drK (by kernel_rfl) (by kernel_rfl) ?_
   refine drS [0] 2 [] [] (mkS 69 [(1, .sl (r_2.1.map (SV (AV.int .i64))) none), (2, i6 r_2.2), (3, .sl (r_4.1.map (AV.int .i64)) none), (4, i6 r_4.2), (5, .ptr 0 0), (6, i6 r_6.2), (7, i6 r_7.1), (8, i6 r_7.2.1), (9, i6 r_7.2.2), (32, i6 r_2.2), (33, .bool (r_2.2 == 0)), (34, .bool false), (35, .tup []), (36, .tup []), (37, .bool false), (38, .bool false), (39, .tup []), (40, .tup []), (41, .bool false), (42, .bool false)]) (by simp) (by kernel_rfl) trivial (by kernel_rfl) ?_
   refine drK (by kernel_rfl) (by kernel_rfl) ?_
   refine drK (by kernel_rfl) (by kernel_rfl) ?_
   refine drS [0] 2 [] [] (mkS 69 [(1, .sl (r_2.1.map (SV (AV.int .i64))) none), (2, i6 r_2.2), (3, .sl (r_4.1.map (AV.int .i64)) none), (4, i6 r_4.2), (5, .ptr 0 0), (6, i6 r_6.2), (7, i6 r_7.1), (8, i6 r_7.2.1), (9, i6 r_7.2.2), (32, i6 r_2.2), (33, .bool (r_2.2 == 0)), (34, .bool false), (35, .tup []), (36, .tup []), (37, .bool false), (38, .bool false), (39, .tup []), (40, .tup []), (41, .bool false), (42, .bool false), (43, .tup []), (44, .tup []), (45, .bool false), (46, .bool false)]) (by simp) (by kernel_rfl) trivial (by kernel_rfl) ?_
   refine drK (by kernel_rfl) (by kernel_rfl) ?_
   refine drK (by kernel_rfl) (by kernel_rfl) ?_
   refine drS [0] 2 [] [] (mkS 69 [(1, .sl (r_2.1.map (SV (AV.int .i64))) none), (2, i6 r_2.2), (3, .sl (r_4.1.map (AV.int .i64)) none), (4, i6 r_4.2), (5, .ptr 0 0), (6, i6 r_6.2), (7, i6 r_7.1), (8, i6 r_7.2.1), (9, i6 r_7.2.2), (32, i6 r_2.2), (33, .bool (r_2.2 == 0)), (34, .bool false), (35, .tup []), (36, .tup []), (37, .bool false), (38, .bool false), (39, .tup []), (40, .tup []), (41, .bool false), (42, .bool false), (43, .tup []), (44, .tup []), (45, .bool false), (46, .bool false), (47, .tup []), (48, .tup []), (49, .bool false), (50, .bool false)]) (by simp) (by kernel_rfl) trivial (by kernel_rfl) ?_
   refine drK (by kernel_rfl) (by kernel_rfl) ?_
   refine drK (by kernel_rfl) (by kernel_rfl) ?_
   refine drS [0] 2 [] [] (mkS 69 [(1, .sl (r_2.1.map (SV (AV.int .i64))) none), (2, i6 r_2.2), (3, .sl (r_4.1.map (AV.int .i64)) none), (4, i6 r_4.2), (5, .ptr 0 0), (6, i6 r_6.2), (7, i6 r_7.1), (8, i6 r_7.2.1), (9, i6 r_7.2.2), (32, i6 r_2.2), (33, .bool (r_2.2 == 0)), (34, .bool false), (35, .tup []), (36, .tup []), (37, .bool false), (38, .bool false), (39, .tup []), (40, .tup []), (41, .bool false), (42, .bool false), (43, .tup []), (44, .tup []), (45, .bool false), (46, .bool false), (47, .tup []), (48, .tup []), (49, .bool false), (50, .bool false), (51, .tup []), (52, .tup []), (53, .bool false), (54, .bool false)]) (by simp) (by kernel_rfl) trivial (by kernel_rfl) ?_
   refine drK (by kernel_rfl) (by kernel_rfl) ?_
   refine drK (by kernel_rfl) (by kernel_rfl) ?_
   refine drK (by kernel_rfl) (by kernel_rfl) ?_
   refine drS [0] 2 [] [] (mkS 69 [(1, .sl (r_2.1.map (SV (AV.int .i64))) none), (2, i6 r_2.2), (3, .sl (r_4.1.map (AV.int .i64)) none), (4, i6 r_4.2), (5, .ptr 0 0), (6, i6 r_6.2), (7, i6 r_7.1), (8, i6 r_7.2.1), (9, i6 r_7.2.2), (32, i6 r_2.2), (33, .bool (r_2.2 == 0)), (34, .bool false), (35, .tup []), (36, .tup []), (37, .bool false), (38, .bool false), (39, .tup []), (40, .tup []), (41, .bool false), (42, .bool false), (43, .tup []), (44, .tup []), (45, .bool false), (46, .bool false), (47, .tup []), (48, .tup []), (49, .bool false), (50, .bool false), (51, .tup []), (52, .tup []), (53, .bool false), (54, .bool false), (55, .tup []), (56, .tup []), (57, .tup []), (58, .bool false), (59, .bool false)]) (by simp) (by kernel_rfl) trivial (by kernel_rfl) ?_
   refine drK (by kernel_rfl) (by kernel_rfl) ?_
   refine drK (by kernel_rfl) (by kernel_rfl) ?_
   refine drK (by kernel_rfl) (by kernel_rfl) ?_
   refine drS [0] 2 [] [] (mkS 69 [(1, .sl (r_2.1.map (SV (AV.int .i64))) none), (2, i6 r_2.2), (3, .sl (r_4.1.map (AV.int .i64)) none), (4, i6 r_4.2), (5, .ptr 0 0), (6, i6 r_6.2), (7, i6 r_7.1), (8, i6 r_7.2.1), (9, i6 r_7.2.2), (32, i6 r_2.2), (33, .bool (r_2.2 == 0)), (34, .bool false), (35, .tup []), (36, .tup []), (37, .bool false), (38, .bool false), (39, .tup []), (40, .tup []), (41, .bool false), (42, .bool false), (43, .tup []), (44, .tup []), (45, .bool false), (46, .bool false), (47, .tup []), (48, .tup []), (49, .bool false), (50, .bool false), (51, .tup []), (52, .tup []), (53, .bool false), (54, .bool false), (55, .tup []), (56, .tup []), (57, .tup []), (58, .bool false), (59, .bool false), (60, .tup []), (61, .tup []), (62, .tup []), (63, .bool false), (64, .bool false)]) (by simp) (by kernel_rfl) trivial (by kernel_rfl) ?_
   refine drK (by kernel_rfl) (by kernel_rfl) ?_
   refine drK (by kernel_rfl) (by kernel_rfl) ?_
   exact DrO.nil rfl
  ·dsimp only [List.getLastD_cons, List.getLastD_nil]
   refine rn 3 [0] (mkS 69 [(0, .bool false)]) ⟨[(C_Span r_6.1)], [(3, 1), (3, 1), (2, 1)]⟩ ?_
   refine ExO.nil ?_
   refine Ex.ret ?_
   obtain rfl := sJ h
   exact rt (.bool false)
end Go.Proofs.Ytfhapfljomgmnaa
end
