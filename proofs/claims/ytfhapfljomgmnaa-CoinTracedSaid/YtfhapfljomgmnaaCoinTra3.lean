/- Part 4 of what the law needs: own work, put together. -/
import Derived.Test.YtfhapfljomgmnaaCoinTra2
set_option linter.unusedVariables false
set_option linter.unusedSimpArgs false
set_option maxRecDepth 10000
set_option maxHeartbeats 4000000
section
namespace Go.Proofs.Ytfhapfljomgmnaa
open Go.RowKit
attribute [local simp] cleanL AV.clean KL_bk_Drum cleanI cleanBo cleanSt cleanII re re1 back back1 AV.plain AV.plain1 A_bk_Drum C_bk_Drum ren ren1 fadeS fadeV List.idxOf? List.findIdx? List.findIdx?.go KB_bk_Drum
structure T_Fund where
 Day : Int
 Until : Int
 Amount : Int
 Uses : (List Int)
 deriving Inhabited
def C_Fund (x : T_Fund) : List AV := [i6 x.Day, i6 x.Until, i6 x.Amount, .sl (x.Uses.map (AV.int .i64)) none]
attribute [local simp] C_Fund
def A_Fund (x : T_Fund) : AV := .agg (C_Fund x)
attribute [local simp] A_Fund
theorem KC_Fund (x : T_Fund) : cleanL (C_Fund x) = true := by simp
theorem KA_Fund (x : T_Fund) : (A_Fund x).clean = true := KC_Fund x
theorem KL_Fund (l : List T_Fund) : cleanL (l.map A_Fund) = true := cleanM KA_Fund l
attribute [local simp] KL_Fund
theorem KB_Fund (x : T_Fund) (n : Nat) (σ : List Nat) : (C_Fund x).mapM (re n σ) = some (C_Fund x) := by simp
attribute [local simp] KB_Fund
structure T_Bill where
 Day : Int
 Use : Int
 Amount : Int
 deriving Inhabited
def C_Bill (x : T_Bill) : List AV := [i6 x.Day, i6 x.Use, i6 x.Amount]
attribute [local simp] C_Bill
def A_Bill (x : T_Bill) : AV := .agg (C_Bill x)
attribute [local simp] A_Bill
theorem KC_Bill (x : T_Bill) : cleanL (C_Bill x) = true := by simp
theorem KA_Bill (x : T_Bill) : (A_Bill x).clean = true := KC_Bill x
theorem KL_Bill (l : List T_Bill) : cleanL (l.map A_Bill) = true := cleanM KA_Bill l
attribute [local simp] KL_Bill
theorem KB_Bill (x : T_Bill) (n : Nat) (σ : List Nat) : (C_Bill x).mapM (re n σ) = some (C_Bill x) := by simp
attribute [local simp] KB_Bill
structure T_Ledger where
 Funds : (List T_Fund)
 Bills : (List T_Bill)
 deriving Inhabited
def C_Ledger (x : T_Ledger) : List AV := [.sl (x.Funds.map A_Fund) none, .sl (x.Bills.map A_Bill) none]
attribute [local simp] C_Ledger
def A_Ledger (x : T_Ledger) : AV := .agg (C_Ledger x)
attribute [local simp] A_Ledger
theorem KC_Ledger (x : T_Ledger) : cleanL (C_Ledger x) = true := by simp
theorem KA_Ledger (x : T_Ledger) : (A_Ledger x).clean = true := KC_Ledger x
theorem KL_Ledger (l : List T_Ledger) : cleanL (l.map A_Ledger) = true := cleanM KA_Ledger l
attribute [local simp] KL_Ledger
theorem KB_Ledger (x : T_Ledger) (n : Nat) (σ : List Nat) : (C_Ledger x).mapM (re n σ) = some (C_Ledger x) := by simp
attribute [local simp] KB_Ledger
theorem IJ_bk_Drum (x y : T_bk_Drum) (h : A_bk_Drum x = A_bk_Drum y) : x = y := by
 have h := AV.agg.inj h
 simp only [C_bk_Drum, List.cons.injEq, AV.int.injEq, AV.bool.injEq, AV.str.injEq, AV.sl.injEq, true_and, and_true] at h
 have h0 := h
 obtain ⟨x0⟩ := x; obtain ⟨y0⟩ := y; simp_all
theorem k_bk_Drum_Roll (N : Nat) (d_1 : T_bk_Drum) (n_2 : Int) (d_1z : T_bk_Drum) (n_2z : Int) (r s : Int × T_bk_Drum) (hr : p_bk_Drum_Roll N d_1 n_2 = some r) (hs : p_bk_Drum_Roll N d_1z n_2z = some s) : ConsR ⟨14, [.ptr 0 0, i6 n_2], [(C_bk_Drum d_1)], v_bk_Drum_Roll r, [(C_bk_Drum r.2)]⟩ ⟨14, [.ptr 0 0, i6 n_2z], [(C_bk_Drum d_1z)], v_bk_Drum_Roll s, [(C_bk_Drum s.2)]⟩ := by
 intro _ h1 h2
 have h1 : ([.ptr 0 0, i6 n_2] : List AV) = [.ptr 0 0, i6 n_2z] := h1
 have h2 : ([(C_bk_Drum d_1)] : List (List AV)) = [(C_bk_Drum d_1z)] := h2
 obtain rfl : d_1 = d_1z := IJ_bk_Drum _ _ (congrArg AV.agg (List.cons.inj h2).1)
 obtain rfl : n_2 = n_2z := (intInj _) _ _ (List.cons.inj (List.cons.inj h1).2).1
 rw [hr] at hs; cases hs; exact ⟨rfl, rfl⟩
def p_bk_LedgerOf (N : Nat) (d_1 : T_bk_Drum) (funds_2 : Int) (bills_3 : Int) (coins_4 : Int) : Option (T_Ledger × T_bk_Drum) := ((p_bk_Drum_Roll N d_1 (IntKind.i64.wrap (funds_2 + 1))).bind fun r_5 => (letJ (fun (b_6 : Int) (b_7 : List T_Fund) => ((p_bk_Drum_Roll N (⟨b_6⟩ : T_bk_Drum) (IntKind.i64.wrap (bills_3 + 1))).bind fun r_43 => (letJ (fun (b_44 : Int) (b_45 : List T_Bill) => some ((⟨b_7, b_45⟩ : T_Ledger), (⟨b_44⟩ : T_bk_Drum))) (fun k_46 => (loop3 (fun rec_52 (i_49 : Int) (b_50 : Int) (b_51 : List T_Bill) => (bif (decide (i_49 > 0)) then ((p_bk_Drum_Mid N (⟨b_50⟩ : T_bk_Drum) 3 12).bind fun r_56 => ((p_bk_Drum_Roll N r_56.2 3).bind fun r_57 => ((p_bk_Drum_Roll N r_57.2 (IntKind.i64.wrap (coins_4 + 1))).bind fun r_58 => ((pushI b_51 ([(⟨r_56.1, r_57.1, r_58.1⟩ : T_Bill)] : List T_Bill)).bind fun l_60 => (rec_52 (IntKind.i64.wrap (i_49 - 1)) r_58.2.beat_ l_60))))) else (k_46 b_50 b_51))) N r_43.1 r_43.2.beat_ []))))) (fun k_8 => (loop3 (fun rec_14 (i_11 : Int) (b_12 : Int) (b_13 : List T_Fund) => (bif (decide (i_11 > 0)) then ((p_bk_Drum_Roll N (⟨b_12⟩ : T_bk_Drum) 10).bind fun r_18 => ((p_bk_Drum_Any N r_18.2 [(IntKind.i64.wrap (r_18.1 + 4)), 20]).bind fun r_19 => ((p_bk_Drum_Mid N r_19.2 r_18.1 r_19.1).bind fun r_20 => ((p_bk_Drum_Roll N r_20.2 (IntKind.i64.wrap ((IntKind.i64.wrap (2 * coins_4)) + 1))).bind fun r_21 => (letJ (fun (b_22 : Int) (b_23 : List Int) => ((pushI b_13 ([(⟨r_18.1, r_20.1, r_21.1, b_23⟩ : T_Fund)] : List T_Fund)).bind fun l_42 => (rec_14 (IntKind.i64.wrap (i_11 - 1)) b_22 l_42))) (fun k_24 => (loop3 (fun rec_30 (use_27 : Int) (b_28 : Int) (b_29 : List Int) => (bif (decide (use_27 < 3)) then (letJ (fun (b_34 : Int) (b_35 : List Int) => (rec_30 (IntKind.i64.wrap (use_27 + 1)) b_34 b_35)) (fun k_36 => ((p_bk_Drum_Rare N (⟨b_28⟩ : T_bk_Drum) 3).bind fun r_39 => (bif (!r_39.1) then ((pushI b_29 ([use_27] : List Int)).bind fun l_41 => (k_36 r_39.2.beat_ l_41)) else (k_36 r_39.2.beat_ b_29))))) else (k_24 b_28 b_29))) N 0 r_21.2.beat_ []))))))) else (k_8 b_12 b_13))) N r_5.1 r_5.2.beat_ []))))
def v_bk_LedgerOf (r : T_Ledger × T_bk_Drum) : AV := (A_Ledger r.1)
attribute [local simp] v_bk_LedgerOf
theorem b_bk_LedgerOf (r : T_Ledger × T_bk_Drum) (n n2 m : Nat) : back n n2 m (v_bk_LedgerOf r) = some (v_bk_LedgerOf r) := by simp
theorem d_bk_LedgerOf (N : Nat) (d_1 : T_bk_Drum) (funds_2 : Int) (bills_3 : Int) (coins_4 : Int) (r : T_Ledger × T_bk_Drum) (h : p_bk_LedgerOf N d_1 funds_2 bills_3 coins_4 = some r) : Does Try.prog 11 [.ptr 0 0, i6 funds_2, i6 bills_3, i6 coins_4] [(C_bk_Drum d_1)] fun v c => v = v_bk_LedgerOf r ∧ c = [(C_bk_Drum r.2)] := by
 unfold p_bk_LedgerOf at h
 refine Does.ofL comp11 _ _ rfl rfl ?_
 refine Ex.seq (rg 1 [0, 1, 2, 3, 8] (mkS 82 [(0, .ptr 0 0), (1, i6 funds_2), (2, i6 bills_3), (3, i6 coins_4), (8, .ptr 1 0)]) ⟨[(C_bk_Drum d_1), [.nils, .nils]], []⟩ ?_)
 refine Ex.seq (rg 1 [0, 1, 2, 3, 8, 9] (mkS 82 [(0, .ptr 0 0), (1, i6 funds_2), (2, i6 bills_3), (3, i6 coins_4), (8, .ptr 1 0), (9, .ptr 2 0)]) ⟨[(C_bk_Drum d_1), [.nils, .nils], [.nils, .nils]], []⟩ ?_)
 refine Ex.seq (Ex.seq ?_)
 obtain ⟨r_5, hr_5, h⟩ := bE h
 refine Ex.reg (rn 3 [0, 2, 3, 8, 9, 15, 17] (mkS 82 [(0, .ptr 0 0), (2, i6 bills_3), (3, i6 coins_4), (8, .ptr 1 0), (9, .ptr 2 0), (15, .ptr 0 0), (17, i6 (IntKind.i64.wrap (funds_2 + 1)))]) ⟨[(C_bk_Drum d_1), [.nils, .nils], [.nils, .nils]], []⟩ ?_)
 refine ExO.callL [0] [.ptr 0 0, i6 (IntKind.i64.wrap (funds_2 + 1))] rfl rfl (by simp; try rfl) rfl (by simp) (d_bk_Drum_Roll N d_1 (IntKind.i64.wrap (funds_2 + 1)) r_5 hr_5) (b_bk_Drum_Roll _ _ _ _) (by simp) ?_
 refine rn 1 [0, 2, 3, 8, 9, 10] (mkS 82 [(0, .ptr 0 0), (2, i6 bills_3), (3, i6 coins_4), (8, .ptr 1 0), (9, .ptr 2 0), (10, i6 r_5.1)]) ⟨[(C_bk_Drum r_5.2), [.nils, .nils], [.nils, .nils]], []⟩ ?_
 refine ExO.nil ?_
 obtain ⟨K_9, hK_10, h⟩ := letE h
 refine Ex.blockJ (fun a S => ∃ (b_6 : Int), ∃ (b_7 : List T_Fund), K_9 b_6 b_7 = some r ∧ a = mkS 82 [(0, .ptr 0 0), (2, i6 bills_3), (3, i6 coins_4), (8, .ptr 1 0), (9, .ptr 2 0)] ∧ S = ⟨[[.int .u64 b_6], [.nils, .nils], [.sl (b_7.map A_Fund) (some 0), .nils]], [(b_7.length, 4)]⟩) ?_ ?_
 ·refine Ex.forget (nilB 2 0 4 [.nils, .nils] rfl rfl) ?_
  refine Ex.castA (a2 := mkS 82 [(0, .ptr 0 0), (2, i6 bills_3), (3, i6 coins_4), (8, .ptr 1 0), (9, .ptr 2 0), (10, i6 r_5.1)]) (S2 := ⟨[(C_bk_Drum r_5.2), [.nils, .nils], [.sl (([] : List T_Fund).map A_Fund) (some 0), .nils]], [(0, 4)]⟩) (by kernel_rfl) (by kernel_rfl) ?_
  obtain ⟨B_15, hB_16, h⟩ := loop3I h
  refine Ex.loopF (fun k a S => ∃ (i_11 : Int), ∃ (b_12 : Int), ∃ (b_13 : List T_Fund), loop3 B_15 k i_11 b_12 b_13 = some r ∧ a = mkS 82 [(0, .ptr 0 0), (2, i6 bills_3), (3, i6 coins_4), (8, .ptr 1 0), (9, .ptr 2 0), (10, i6 i_11)] ∧ S = ⟨[[.int .u64 b_12], [.nils, .nils], [.sl (b_13.map A_Fund) (some 0), .nils]], [(b_13.length, 4)]⟩) N ⟨_, _, Forgets.refl _ _ _, r_5.1, r_5.2.beat_, [], h, rfl, rfl⟩ ?_
  rintro k a S ⟨i_11, b_12, b_13, h, rfl, rfl⟩
  cases k with
  | zero => exact (loop3Z h).elim
  | succ k =>
   replace h := loop3S h hB_16
   refine Ex.seq (Ex.seq ?_)
   refine rg 2 [0, 2, 3, 8, 9, 10, 20] (mkS 82 [(0, .ptr 0 0), (2, i6 bills_3), (3, i6 coins_4), (8, .ptr 1 0), (9, .ptr 2 0), (10, i6 i_11), (20, .bool (decide (i_11 > 0)))]) ⟨[[.int .u64 b_12], [.nils, .nils], [.sl (b_13.map A_Fund) (some 0), .nils]], [(b_13.length, 4)]⟩ ?_
   rcases condI h with ⟨hc_17, h⟩ | ⟨hc_17, h⟩
   ·refine Ex.condT _ rfl hc_17 ?_
    refine Ex.skip ?_
    refine Ex.seq ?_
    refine Ex.blockK ?_
    refine Ex.seq ?_
    obtain ⟨r_18, hr_18, h⟩ := bE h
    refine Ex.reg (rn 1 [0, 2, 3, 8, 9, 10, 23] (mkS 82 [(0, .ptr 0 0), (2, i6 bills_3), (3, i6 coins_4), (8, .ptr 1 0), (9, .ptr 2 0), (10, i6 i_11), (23, .ptr 0 0)]) ⟨[[.int .u64 b_12], [.nils, .nils], [.sl (b_13.map A_Fund) (some 0), .nils]], [(b_13.length, 4)]⟩ ?_)
    refine ExO.callL [0] [.ptr 0 0, i6 10] rfl rfl (by simp; try rfl) rfl (by simp) (d_bk_Drum_Roll N (⟨b_12⟩ : T_bk_Drum) 10 r_18 hr_18) (b_bk_Drum_Roll _ _ _ _) (by simp) ?_
    refine rn 1 [0, 2, 3, 8, 9, 10, 11] (mkS 82 [(0, .ptr 0 0), (2, i6 bills_3), (3, i6 coins_4), (8, .ptr 1 0), (9, .ptr 2 0), (10, i6 i_11), (11, i6 r_18.1)]) ⟨[(C_bk_Drum r_18.2), [.nils, .nils], [.sl (b_13.map A_Fund) (some 0), .nils]], [(b_13.length, 4)]⟩ ?_
    refine ExO.nil ?_
    refine Ex.seq ?_
    obtain ⟨r_19, hr_19, h⟩ := bE h
    refine Ex.reg (rn 7 [0, 2, 3, 8, 9, 10, 25, 26, 27, 28, 31] (mkS 82 [(0, .ptr 0 0), (2, i6 bills_3), (3, i6 coins_4), (8, .ptr 1 0), (9, .ptr 2 0), (10, i6 i_11), (25, i6 r_18.1), (26, .ptr 0 0), (27, i6 r_18.1), (28, .ptr 0 0), (31, .sl (([(IntKind.i64.wrap (r_18.1 + 4)), 20] : List Int).map (AV.int .i64)) (some 1))]) ⟨[(C_bk_Drum r_18.2), [.nils, .nils], [.sl (b_13.map A_Fund) (some 0), .nils]], [(b_13.length, 4), (2, 1)]⟩ ?_)
    refine ExO.callL [0] [.ptr 0 0, .sl (([(IntKind.i64.wrap (r_18.1 + 4)), 20] : List Int).map (AV.int .i64)) (some 1)] rfl rfl (by simp; try rfl) rfl (by simp) (d_bk_Drum_Any N r_18.2 [(IntKind.i64.wrap (r_18.1 + 4)), 20] r_19 hr_19) (b_bk_Drum_Any _ _ _ _) (by simp) ?_
    obtain ⟨r_20, hr_20, h⟩ := bE h
    refine ExO.callL [0] [.ptr 0 0, i6 r_18.1, i6 r_19.1] rfl rfl (by simp; try rfl) rfl (by simp) (d_bk_Drum_Mid N r_19.2 r_18.1 r_19.1 r_20 hr_20) (b_bk_Drum_Mid _ _ _ _) (by simp) ?_
    obtain ⟨r_21, hr_21, h⟩ := bE h
    refine rn 4 [0, 2, 3, 8, 9, 10, 25, 33, 34, 37] (mkS 82 [(0, .ptr 0 0), (2, i6 bills_3), (3, i6 coins_4), (8, .ptr 1 0), (9, .ptr 2 0), (10, i6 i_11), (25, i6 r_18.1), (33, i6 r_20.1), (34, .ptr 0 0), (37, i6 (IntKind.i64.wrap ((IntKind.i64.wrap (2 * coins_4)) + 1)))]) ⟨[(C_bk_Drum r_20.2), [.nils, .nils], [.sl (b_13.map A_Fund) (some 0), .nils]], [(b_13.length, 4), (2, 1)]⟩ ?_
    refine ExO.callL [0] [.ptr 0 0, i6 (IntKind.i64.wrap ((IntKind.i64.wrap (2 * coins_4)) + 1))] rfl rfl (by simp; try rfl) rfl (by simp) (d_bk_Drum_Roll N r_20.2 (IntKind.i64.wrap ((IntKind.i64.wrap (2 * coins_4)) + 1)) r_21 hr_21) (b_bk_Drum_Roll _ _ _ _) (by simp) ?_
    refine rn 3 [0, 2, 3, 8, 9, 10, 12] (mkS 82 [(0, .ptr 0 0), (2, i6 bills_3), (3, i6 coins_4), (8, .ptr 1 0), (9, .ptr 2 0), (10, i6 i_11), (12, .ptr 3 0)]) ⟨[(C_bk_Drum r_21.2), [.nils, .nils], [.sl (b_13.map A_Fund) (some 0), .nils], [i6 r_18.1, i6 r_20.1, i6 r_21.1, .nils]], [(b_13.length, 4), (2, 1)]⟩ ?_
    refine ExO.nil ?_
    refine Ex.seq (Ex.seq ?_)
    refine rg 1 [0, 2, 3, 8, 9, 10, 12, 13] (mkS 82 [(0, .ptr 0 0), (2, i6 bills_3), (3, i6 coins_4), (8, .ptr 1 0), (9, .ptr 2 0), (10, i6 i_11), (12, .ptr 3 0), (13, i6 0)]) ⟨[(C_bk_Drum r_21.2), [.nils, .nils], [.sl (b_13.map A_Fund) (some 0), .nils], [i6 r_18.1, i6 r_20.1, i6 r_21.1, .nils]], [(b_13.length, 4), (2, 1)]⟩ ?_
    obtain ⟨K_25, hK_26, h⟩ := letE h
    refine Ex.blockJ (fun a S => ∃ (b_22 : Int), ∃ (b_23 : List Int), K_25 b_22 b_23 = some r ∧ a = mkS 82 [(0, .ptr 0 0), (2, i6 bills_3), (3, i6 coins_4), (8, .ptr 1 0), (9, .ptr 2 0), (10, i6 i_11), (12, .ptr 3 0)] ∧ S = ⟨[[.int .u64 b_22], [.nils, .nils], [.sl (b_13.map A_Fund) (some 0), .nils], [i6 r_18.1, i6 r_20.1, i6 r_21.1, .sl (b_23.map (AV.int .i64)) (some 1)]], [(b_13.length, 4), (b_23.length, 1)]⟩) ?_ ?_
    ·refine Ex.forget (nilB 3 3 1 [i6 r_18.1, i6 r_20.1, i6 r_21.1, .nils] rfl rfl) ?_
     refine Ex.castA (a2 := mkS 82 [(0, .ptr 0 0), (2, i6 bills_3), (3, i6 coins_4), (8, .ptr 1 0), (9, .ptr 2 0), (10, i6 i_11), (12, .ptr 3 0), (13, i6 0)]) (S2 := ⟨[(C_bk_Drum r_21.2), [.nils, .nils], [.sl (b_13.map A_Fund) (some 0), .nils], [i6 r_18.1, i6 r_20.1, i6 r_21.1, .sl (([] : List Int).map (AV.int .i64)) (some 2)]], [(b_13.length, 4), (2, 1), (0, 1)]⟩) (by kernel_rfl) (by kernel_rfl) ?_
     obtain ⟨B_31, hB_32, h⟩ := loop3I h
     refine Ex.loopF (fun k a S => ∃ (use_27 : Int), ∃ (b_28 : Int), ∃ (b_29 : List Int), loop3 B_31 k use_27 b_28 b_29 = some r ∧ a = mkS 82 [(0, .ptr 0 0), (2, i6 bills_3), (3, i6 coins_4), (8, .ptr 1 0), (9, .ptr 2 0), (10, i6 i_11), (12, .ptr 3 0), (13, i6 use_27)] ∧ S = ⟨[[.int .u64 b_28], [.nils, .nils], [.sl (b_13.map A_Fund) (some 0), .nils], [i6 r_18.1, i6 r_20.1, i6 r_21.1, .sl (b_29.map (AV.int .i64)) (some 1)]], [(b_13.length, 4), (b_29.length, 1)]⟩) N ⟨_, _, forgetA (m := 82) 4 [0, 2] [(0, .ptr 0 0), (2, i6 bills_3), (3, i6 coins_4), (8, .ptr 1 0), (9, .ptr 2 0), (10, i6 i_11), (12, .ptr 3 0), (13, i6 0)] [(C_bk_Drum r_21.2), [.nils, .nils], [.sl (b_13.map A_Fund) (some 0), .nils], [i6 r_18.1, i6 r_20.1, i6 r_21.1, .sl (([] : List Int).map (AV.int .i64)) (some 1)]] [(b_13.length, 4), (0, 1)] (by simp [setAll]) (by simp) ⟨rfl, rfl, rfl, rfl, rfl, rfl, rfl, rfl, trivial⟩ (by simp) rfl (by decide), 0, r_21.2.beat_, [], h, rfl, rfl⟩ ?_
     rintro k a S ⟨use_27, b_28, b_29, h, rfl, rfl⟩
     cases k with
     | zero => exact (loop3Z h).elim
     | succ k =>
      replace h := loop3S h hB_32
      refine Ex.seq (Ex.seq ?_)
      refine rg 2 [0, 2, 3, 8, 9, 10, 12, 13, 41] (mkS 82 [(0, .ptr 0 0), (2, i6 bills_3), (3, i6 coins_4), (8, .ptr 1 0), (9, .ptr 2 0), (10, i6 i_11), (12, .ptr 3 0), (13, i6 use_27), (41, .bool (decide (use_27 < 3)))]) ⟨[[.int .u64 b_28], [.nils, .nils], [.sl (b_13.map A_Fund) (some 0), .nils], [i6 r_18.1, i6 r_20.1, i6 r_21.1, .sl (b_29.map (AV.int .i64)) (some 1)]], [(b_13.length, 4), (b_29.length, 1)]⟩ ?_
      rcases condI h with ⟨hc_33, h⟩ | ⟨hc_33, h⟩
      ·refine Ex.condT _ rfl hc_33 ?_
       refine Ex.skip ?_
       refine Ex.seq ?_
       obtain ⟨K_37, hK_38, h⟩ := letE h
       refine Ex.blockJ (fun a S => ∃ (b_34 : Int), ∃ (b_35 : List Int), K_37 b_34 b_35 = some r ∧ a = mkS 82 [(0, .ptr 0 0), (2, i6 bills_3), (3, i6 coins_4), (8, .ptr 1 0), (9, .ptr 2 0), (10, i6 i_11), (12, .ptr 3 0), (13, i6 use_27)] ∧ S = ⟨[[.int .u64 b_34], [.nils, .nils], [.sl (b_13.map A_Fund) (some 0), .nils], [i6 r_18.1, i6 r_20.1, i6 r_21.1, .sl (b_35.map (AV.int .i64)) (some 1)]], [(b_13.length, 4), (b_35.length, 1)]⟩) ?_ ?_
       ·refine Ex.seq ?_
        obtain ⟨r_39, hr_39, h⟩ := bE h
        refine Ex.reg (rn 1 [0, 2, 3, 8, 9, 10, 12, 13, 44] (mkS 82 [(0, .ptr 0 0), (2, i6 bills_3), (3, i6 coins_4), (8, .ptr 1 0), (9, .ptr 2 0), (10, i6 i_11), (12, .ptr 3 0), (13, i6 use_27), (44, .ptr 0 0)]) ⟨[[.int .u64 b_28], [.nils, .nils], [.sl (b_13.map A_Fund) (some 0), .nils], [i6 r_18.1, i6 r_20.1, i6 r_21.1, .sl (b_29.map (AV.int .i64)) (some 1)]], [(b_13.length, 4), (b_29.length, 1)]⟩ ?_)
        refine ExO.callL [0] [.ptr 0 0, i6 3] rfl rfl (by simp; try rfl) rfl (by simp) (d_bk_Drum_Rare N (⟨b_28⟩ : T_bk_Drum) 3 r_39 hr_39) (b_bk_Drum_Rare _ _ _ _) (by simp) ?_
        refine rn 1 [0, 2, 3, 8, 9, 10, 12, 13, 46] (mkS 82 [(0, .ptr 0 0), (2, i6 bills_3), (3, i6 coins_4), (8, .ptr 1 0), (9, .ptr 2 0), (10, i6 i_11), (12, .ptr 3 0), (13, i6 use_27), (46, .bool (!r_39.1))]) ⟨[(C_bk_Drum r_39.2), [.nils, .nils], [.sl (b_13.map A_Fund) (some 0), .nils], [i6 r_18.1, i6 r_20.1, i6 r_21.1, .sl (b_29.map (AV.int .i64)) (some 1)]], [(b_13.length, 4), (b_29.length, 1)]⟩ ?_
        refine ExO.nil ?_
        rcases condI h with ⟨hc_40, h⟩ | ⟨hc_40, h⟩
        ·refine Ex.condT _ rfl hc_40 ?_
         obtain ⟨l_41, hl_41, h⟩ := bE h
         refine regH 7 [(4, .app (l_41.map (AV.int .i64)) l_41.length)] [0, 2, 3, 8, 9, 10, 12, 13] [LApp b_29.length (b_29.map (AV.int .i64)) (([use_27] : List Int).map (AV.int .i64)) 1 (l_41.map (AV.int .i64)) l_41.length] (mkS 82 [(0, .ptr 0 0), (2, i6 bills_3), (3, i6 coins_4), (8, .ptr 1 0), (9, .ptr 2 0), (10, i6 i_11), (12, .ptr 3 0), (13, i6 use_27)]) (⟨[(C_bk_Drum r_39.2), [.nils, .nils], [.sl (b_13.map A_Fund) (some 0), .nils], [i6 r_18.1, i6 r_20.1, i6 r_21.1, .sl (l_41.map (AV.int .i64)) (some 1)]], [(b_13.length, 4), (l_41.length, 1), (1, 1)]⟩) (by kernel_rfl) ⟨LApp.of hl_41 (fun _ => rfl), trivial⟩ rfl ?_
         (try simp only [reduceCtorEq, AEx.ex.injEq, Nat.reduceEqDiff, if_true, if_false])
         exact ⟨_, _, forgetA (m := 82) 4 [0, 1] [(0, .ptr 0 0), (2, i6 bills_3), (3, i6 coins_4), (8, .ptr 1 0), (9, .ptr 2 0), (10, i6 i_11), (12, .ptr 3 0), (13, i6 use_27)] [(C_bk_Drum r_39.2), [.nils, .nils], [.sl (b_13.map A_Fund) (some 0), .nils], [i6 r_18.1, i6 r_20.1, i6 r_21.1, .sl (l_41.map (AV.int .i64)) (some 1)]] [(b_13.length, 4), (l_41.length, 1)] (by simp [setAll]) (by simp) ⟨rfl, rfl, rfl, rfl, rfl, rfl, rfl, rfl, trivial⟩ (by simp) rfl (by decide), r_39.2.beat_, l_41, h, rfl, rfl⟩
        ·refine Ex.condF _ rfl hc_40 ?_
         refine Ex.skip ?_
         (try simp only [reduceCtorEq, AEx.ex.injEq, Nat.reduceEqDiff, if_true, if_false])
         exact ⟨_, _, forgetK [0, 2, 3, 8, 9, 10, 12, 13], r_39.2.beat_, b_29, h, rfl, rfl⟩
       ·rintro a S ⟨b_34, b_35, h, rfl, rfl⟩
        subst hK_38
        refine rg 3 [0, 2, 3, 8, 9, 10, 12, 13] (mkS 82 [(0, .ptr 0 0), (2, i6 bills_3), (3, i6 coins_4), (8, .ptr 1 0), (9, .ptr 2 0), (10, i6 i_11), (12, .ptr 3 0), (13, i6 (IntKind.i64.wrap (use_27 + 1)))]) ⟨[[.int .u64 b_34], [.nils, .nils], [.sl (b_13.map A_Fund) (some 0), .nils], [i6 r_18.1, i6 r_20.1, i6 r_21.1, .sl (b_35.map (AV.int .i64)) (some 1)]], [(b_13.length, 4), (b_35.length, 1)]⟩ ?_
        dsimp only
        exact ⟨_, _, Forgets.refl _ _ _, k, Nat.lt_succ_self k, (IntKind.i64.wrap (use_27 + 1)), b_34, b_35, h, rfl, rfl⟩
      ·refine Ex.condF _ rfl hc_33 ?_
       refine Ex.exit ?_
       (try simp only [reduceCtorEq, AEx.ex.injEq, Nat.reduceEqDiff, if_true, if_false])
       exact ⟨_, _, forgetK [0, 2, 3, 8, 9, 10, 12], b_28, b_29, h, rfl, rfl⟩
    ·rintro a S ⟨b_22, b_23, h, rfl, rfl⟩
     subst hK_26
     refine Ex.postF ?_
     obtain ⟨l_42, hl_42, h⟩ := bE h
     refine regH 7 [(4, .app (l_42.map A_Fund) l_42.length)] [0, 2, 3, 8, 9, 10] [LApp b_13.length (b_13.map A_Fund) (([(⟨r_18.1, r_20.1, r_21.1, b_23⟩ : T_Fund)] : List T_Fund).map A_Fund) 4 (l_42.map A_Fund) l_42.length] (mkS 82 [(0, .ptr 0 0), (2, i6 bills_3), (3, i6 coins_4), (8, .ptr 1 0), (9, .ptr 2 0), (10, i6 i_11)]) (⟨[[.int .u64 b_22], [.nils, .nils], [.sl (l_42.map A_Fund) (some 0), .nils], [i6 r_18.1, i6 r_20.1, i6 r_21.1, .sl (b_23.map (AV.int .i64)) (some 1)]], [(l_42.length, 4), (b_23.length, 1), (1, 4)]⟩) (by kernel_rfl) ⟨LApp.of hl_42 (fun _ => rfl), trivial⟩ rfl ?_
     refine ⟨mkS 82 [(0, .ptr 0 0), (2, i6 bills_3), (3, i6 coins_4), (8, .ptr 1 0), (9, .ptr 2 0), (10, i6 i_11)], ⟨[[.int .u64 b_22], [.nils, .nils], [.sl (l_42.map A_Fund) (some 0), .nils], [i6 r_18.1, i6 r_20.1, i6 r_21.1, .sl (b_23.map (AV.int .i64)) (some 1)]], [(l_42.length, 4), (b_23.length, 1), (1, 4)]⟩, Forgets.refl _ _ _, ?_⟩
     refine rg 3 [0, 2, 3, 8, 9, 10] (mkS 82 [(0, .ptr 0 0), (2, i6 bills_3), (3, i6 coins_4), (8, .ptr 1 0), (9, .ptr 2 0), (10, i6 (IntKind.i64.wrap (i_11 - 1)))]) ⟨[[.int .u64 b_22], [.nils, .nils], [.sl (l_42.map A_Fund) (some 0), .nils], [i6 r_18.1, i6 r_20.1, i6 r_21.1, .sl (b_23.map (AV.int .i64)) (some 1)]], [(l_42.length, 4), (b_23.length, 1), (1, 4)]⟩ ?_
     dsimp only
     exact ⟨_, _, forgetA (m := 82) 3 [0] [(0, .ptr 0 0), (2, i6 bills_3), (3, i6 coins_4), (8, .ptr 1 0), (9, .ptr 2 0), (10, i6 (IntKind.i64.wrap (i_11 - 1)))] [[.int .u64 b_22], [.nils, .nils], [.sl (l_42.map A_Fund) (some 0), .nils]] [(l_42.length, 4)] (by simp [setAll]) (by simp) ⟨rfl, rfl, rfl, rfl, rfl, rfl, trivial⟩ (by simp) rfl (by decide), k, Nat.lt_succ_self k, (IntKind.i64.wrap (i_11 - 1)), b_22, l_42, h, rfl, rfl⟩
   ·refine Ex.condF _ rfl hc_17 ?_
    refine Ex.exit ?_
    (try simp only [reduceCtorEq, AEx.ex.injEq, Nat.reduceEqDiff, if_true, if_false])
    exact ⟨_, _, forgetK [0, 2, 3, 8, 9], b_12, b_13, h, rfl, rfl⟩
 ·rintro a S ⟨b_6, b_7, h, rfl, rfl⟩
  subst hK_10
  refine Ex.seq (Ex.seq ?_)
  obtain ⟨r_43, hr_43, h⟩ := bE h
  refine Ex.reg (rn 3 [0, 3, 8, 9, 59, 61] (mkS 82 [(0, .ptr 0 0), (3, i6 coins_4), (8, .ptr 1 0), (9, .ptr 2 0), (59, .ptr 0 0), (61, i6 (IntKind.i64.wrap (bills_3 + 1)))]) ⟨[[.int .u64 b_6], [.nils, .nils], [.sl (b_7.map A_Fund) (some 0), .nils]], [(b_7.length, 4)]⟩ ?_)
  refine ExO.callL [0] [.ptr 0 0, i6 (IntKind.i64.wrap (bills_3 + 1))] rfl rfl (by simp; try rfl) rfl (by simp) (d_bk_Drum_Roll N (⟨b_6⟩ : T_bk_Drum) (IntKind.i64.wrap (bills_3 + 1)) r_43 hr_43) (b_bk_Drum_Roll _ _ _ _) (by simp) ?_
  refine rn 1 [0, 3, 8, 9, 14] (mkS 82 [(0, .ptr 0 0), (3, i6 coins_4), (8, .ptr 1 0), (9, .ptr 2 0), (14, i6 r_43.1)]) ⟨[(C_bk_Drum r_43.2), [.nils, .nils], [.sl (b_7.map A_Fund) (some 0), .nils]], [(b_7.length, 4)]⟩ ?_
  refine ExO.nil ?_
  obtain ⟨K_47, hK_48, h⟩ := letE h
  refine Ex.blockJ (fun a S => ∃ (b_44 : Int), ∃ (b_45 : List T_Bill), K_47 b_44 b_45 = some r ∧ a = mkS 82 [(8, .ptr 1 0), (9, .ptr 2 0)] ∧ S = ⟨[[.int .u64 b_44], [.nils, .nils], [.sl (b_7.map A_Fund) (some 0), .sl (b_45.map A_Bill) (some 1)]], [(b_7.length, 4), (b_45.length, 3)]⟩) ?_ ?_
  ·refine Ex.forget (nilB 2 1 3 [.sl (b_7.map A_Fund) (some 0), .nils] rfl rfl) ?_
   refine Ex.castA (a2 := mkS 82 [(0, .ptr 0 0), (3, i6 coins_4), (8, .ptr 1 0), (9, .ptr 2 0), (14, i6 r_43.1)]) (S2 := ⟨[(C_bk_Drum r_43.2), [.nils, .nils], [.sl (b_7.map A_Fund) (some 0), .sl (([] : List T_Bill).map A_Bill) (some 1)]], [(b_7.length, 4), (0, 3)]⟩) (by kernel_rfl) (by kernel_rfl) ?_
   obtain ⟨B_53, hB_54, h⟩ := loop3I h
   refine Ex.loopF (fun k a S => ∃ (i_49 : Int), ∃ (b_50 : Int), ∃ (b_51 : List T_Bill), loop3 B_53 k i_49 b_50 b_51 = some r ∧ a = mkS 82 [(0, .ptr 0 0), (3, i6 coins_4), (8, .ptr 1 0), (9, .ptr 2 0), (14, i6 i_49)] ∧ S = ⟨[[.int .u64 b_50], [.nils, .nils], [.sl (b_7.map A_Fund) (some 0), .sl (b_51.map A_Bill) (some 1)]], [(b_7.length, 4), (b_51.length, 3)]⟩) N ⟨_, _, Forgets.refl _ _ _, r_43.1, r_43.2.beat_, [], h, rfl, rfl⟩ ?_
   rintro k a S ⟨i_49, b_50, b_51, h, rfl, rfl⟩
   cases k with
   | zero => exact (loop3Z h).elim
   | succ k =>
    replace h := loop3S h hB_54
    refine Ex.seq (Ex.seq ?_)
    refine rg 2 [0, 3, 8, 9, 14, 64] (mkS 82 [(0, .ptr 0 0), (3, i6 coins_4), (8, .ptr 1 0), (9, .ptr 2 0), (14, i6 i_49), (64, .bool (decide (i_49 > 0)))]) ⟨[[.int .u64 b_50], [.nils, .nils], [.sl (b_7.map A_Fund) (some 0), .sl (b_51.map A_Bill) (some 1)]], [(b_7.length, 4), (b_51.length, 3)]⟩ ?_
    rcases condI h with ⟨hc_55, h⟩ | ⟨hc_55, h⟩
    ·refine Ex.condT _ rfl hc_55 ?_
     refine Ex.skip ?_
     refine Ex.seq ?_
     refine Ex.blockK ?_
     obtain ⟨r_56, hr_56, h⟩ := bE h
     obtain ⟨r_57, hr_57, h⟩ := bE h
     obtain ⟨r_58, hr_58, h⟩ := bE h
     have hT_59 : DoesA Try.prog [⟨31, [.ptr 0 0, i6 3, i6 12], [[.int .u64 b_50]], (v_bk_Drum_Mid r_56), [(C_bk_Drum r_56.2)]⟩, ⟨14, [.ptr 0 0, i6 3], [(C_bk_Drum r_56.2)], (v_bk_Drum_Roll r_57), [(C_bk_Drum r_57.2)]⟩, ⟨14, [.ptr 0 0, i6 (IntKind.i64.wrap (coins_4 + 1))], [(C_bk_Drum r_57.2)], (v_bk_Drum_Roll r_58), [(C_bk_Drum r_58.2)]⟩] ∧ ConsA [⟨31, [.ptr 0 0, i6 3, i6 12], [[.int .u64 b_50]], (v_bk_Drum_Mid r_56), [(C_bk_Drum r_56.2)]⟩, ⟨14, [.ptr 0 0, i6 3], [(C_bk_Drum r_56.2)], (v_bk_Drum_Roll r_57), [(C_bk_Drum r_57.2)]⟩, ⟨14, [.ptr 0 0, i6 (IntKind.i64.wrap (coins_4 + 1))], [(C_bk_Drum r_57.2)], (v_bk_Drum_Roll r_58), [(C_bk_Drum r_58.2)]⟩] := ⟨⟨(d_bk_Drum_Mid N (⟨b_50⟩ : T_bk_Drum) 3 12 r_56 hr_56), rfl, (d_bk_Drum_Roll N r_56.2 3 r_57 hr_57), rfl, (d_bk_Drum_Roll N r_57.2 (IntKind.i64.wrap (coins_4 + 1)) r_58 hr_58), rfl, trivial⟩, ⟨⟨ConsR.ne rfl, ConsR.ne rfl, trivial⟩, ⟨k_bk_Drum_Roll N r_56.2 3 r_57.2 (IntKind.i64.wrap (coins_4 + 1)) r_57 r_58 hr_57 hr_58, trivial⟩, trivial, trivial⟩⟩
     refine Ex.drawE (a1 := mkS 82 [(0, .ptr 0 0), (3, i6 coins_4), (8, .ptr 1 0), (9, .ptr 2 0), (14, i6 i_49), (64, .bool (decide (i_49 > 0))), (67, .ptr 2 1), (68, .sl (b_51.map A_Bill) (some 1)), (69, .ptr 0 0), (70, i6 r_56.1), (71, .ptr 0 0), (72, i6 r_57.1), (73, .ptr 0 0), (74, i6 coins_4), (75, i6 (IntKind.i64.wrap (coins_4 + 1))), (76, i6 r_58.1), (77, .agg [i6 r_56.1, i6 r_57.1, i6 r_58.1]), (78, .sl (([(⟨r_56.1, r_57.1, r_58.1⟩ : T_Bill)] : List T_Bill).map A_Bill) (some 2))]) (tabO_ok hT_59.1) [] [(1, 3)] [⟨[(C_bk_Drum r_56.2), [.nils, .nils], [.sl (b_7.map A_Fund) (some 0), .sl (b_51.map A_Bill) (some 1)]], [(b_7.length, 4), (b_51.length, 3), (1, 3)]⟩, ⟨[(C_bk_Drum r_57.2), [.nils, .nils], [.sl (b_7.map A_Fund) (some 0), .sl (b_51.map A_Bill) (some 1)]], [(b_7.length, 4), (b_51.length, 3), (1, 3)]⟩, ⟨[(C_bk_Drum r_58.2), [.nils, .nils], [.sl (b_7.map A_Fund) (some 0), .sl (b_51.map A_Bill) (some 1)]], [(b_7.length, 4), (b_51.length, 3), (1, 3)]⟩] ?_ ?_
     ·refine drS [1, 2] 3 [] [] (mkS 82 [(0, .ptr 0 0), (3, i6 coins_4), (8, .ptr 1 0), (9, .ptr 2 0), (14, i6 i_49), (64, .bool (decide (i_49 > 0))), (67, .ptr 2 1), (68, .sl (b_51.map A_Bill) (some 1)), (69, .ptr 0 0)]) (by simp) (by kernel_rfl) trivial (by kernel_rfl) ?_
      refine drB hT_59.2 0 _ [0] [.ptr 0 0, i6 3, i6 12] (v_bk_Drum_Mid r_56) _ _ rfl rfl rfl rfl rfl rfl rfl rfl (by simp; try rfl) rfl (by simp) (b_bk_Drum_Mid _ _ _ _) (by simp) rfl ?_
      refine drS [1, 2] 1 [] [] (mkS 82 [(0, .ptr 0 0), (3, i6 coins_4), (8, .ptr 1 0), (9, .ptr 2 0), (14, i6 i_49), (64, .bool (decide (i_49 > 0))), (67, .ptr 2 1), (68, .sl (b_51.map A_Bill) (some 1)), (69, .ptr 0 0), (70, i6 r_56.1), (71, .ptr 0 0)]) (by simp) (by kernel_rfl) trivial (by kernel_rfl) ?_
      refine drB hT_59.2 1 _ [0] [.ptr 0 0, i6 3] (v_bk_Drum_Roll r_57) _ _ rfl rfl rfl rfl rfl rfl rfl rfl (by simp; try rfl) rfl (by simp) (b_bk_Drum_Roll _ _ _ _) (by simp) rfl ?_
      refine drS [1, 2] 3 [] [] (mkS 82 [(0, .ptr 0 0), (3, i6 coins_4), (8, .ptr 1 0), (9, .ptr 2 0), (14, i6 i_49), (64, .bool (decide (i_49 > 0))), (67, .ptr 2 1), (68, .sl (b_51.map A_Bill) (some 1)), (69, .ptr 0 0), (70, i6 r_56.1), (71, .ptr 0 0), (72, i6 r_57.1), (73, .ptr 0 0), (74, i6 coins_4), (75, i6 (IntKind.i64.wrap (coins_4 + 1)))]) (by simp) (by kernel_rfl) trivial (by kernel_rfl) ?_
      refine drB hT_59.2 2 _ [0] [.ptr 0 0, i6 (IntKind.i64.wrap (coins_4 + 1))] (v_bk_Drum_Roll r_58) _ _ rfl rfl rfl rfl rfl rfl rfl rfl (by simp; try rfl) rfl (by simp) (b_bk_Drum_Roll _ _ _ _) (by simp) rfl ?_
      refine drS [1, 2] 1 [] [] (mkS 82 [(0, .ptr 0 0), (3, i6 coins_4), (8, .ptr 1 0), (9, .ptr 2 0), (14, i6 i_49), (64, .bool (decide (i_49 > 0))), (67, .ptr 2 1), (68, .sl (b_51.map A_Bill) (some 1)), (69, .ptr 0 0), (70, i6 r_56.1), (71, .ptr 0 0), (72, i6 r_57.1), (73, .ptr 0 0), (74, i6 coins_4), (75, i6 (IntKind.i64.wrap (coins_4 + 1))), (76, i6 r_58.1), (77, .agg [i6 r_56.1, i6 r_57.1, i6 r_58.1])]) (by simp) (by kernel_rfl) trivial (by kernel_rfl) ?_
      refine drR 2 3 (([(⟨r_56.1, r_57.1, r_58.1⟩ : T_Bill)] : List T_Bill).map A_Bill) rfl rfl (fun _ => by kernel_rfl) (by simp) rfl rfl ?_
      exact DrO.nil rfl
     ·dsimp only [List.getLastD_cons, List.getLastD_nil]
      obtain ⟨l_60, hl_60, h⟩ := bE h
      refine runH 3 [(0, .app (l_60.map A_Bill) l_60.length)] [0, 3, 8, 9, 14] [LApp b_51.length (b_51.map A_Bill) (([(⟨r_56.1, r_57.1, r_58.1⟩ : T_Bill)] : List T_Bill).map A_Bill) 3 (l_60.map A_Bill) l_60.length] (mkS 82 [(0, .ptr 0 0), (3, i6 coins_4), (8, .ptr 1 0), (9, .ptr 2 0), (14, i6 i_49)]) (⟨[(C_bk_Drum r_58.2), [.nils, .nils], [.sl (b_7.map A_Fund) (some 0), .sl (l_60.map A_Bill) (some 1)]], [(b_7.length, 4), (l_60.length, 3), (1, 3)]⟩) (by kernel_rfl) ⟨LApp.of hl_60 (fun _ => rfl), trivial⟩ ?_
      refine ExO.nil ?_
      refine rg 3 [0, 3, 8, 9, 14] (mkS 82 [(0, .ptr 0 0), (3, i6 coins_4), (8, .ptr 1 0), (9, .ptr 2 0), (14, i6 (IntKind.i64.wrap (i_49 - 1)))]) ⟨[(C_bk_Drum r_58.2), [.nils, .nils], [.sl (b_7.map A_Fund) (some 0), .sl (l_60.map A_Bill) (some 1)]], [(b_7.length, 4), (l_60.length, 3), (1, 3)]⟩ ?_
      dsimp only
      exact ⟨_, _, forgetA (m := 82) 3 [0, 1] [(0, .ptr 0 0), (3, i6 coins_4), (8, .ptr 1 0), (9, .ptr 2 0), (14, i6 (IntKind.i64.wrap (i_49 - 1)))] [(C_bk_Drum r_58.2), [.nils, .nils], [.sl (b_7.map A_Fund) (some 0), .sl (l_60.map A_Bill) (some 1)]] [(b_7.length, 4), (l_60.length, 3)] (by simp [setAll]) (by simp) ⟨rfl, rfl, rfl, rfl, rfl, trivial⟩ (by simp) rfl (by decide), k, Nat.lt_succ_self k, (IntKind.i64.wrap (i_49 - 1)), r_58.2.beat_, l_60, h, rfl, rfl⟩
    ·refine Ex.condF _ rfl hc_55 ?_
     refine Ex.exit ?_
     (try simp only [reduceCtorEq, AEx.ex.injEq, Nat.reduceEqDiff, if_true, if_false])
     exact ⟨_, _, forgetK [8, 9], b_50, b_51, h, rfl, rfl⟩
  ·rintro a S ⟨b_44, b_45, h, rfl, rfl⟩
   subst hK_48
   refine Ex.seq (rg 2 [8] (mkS 82 [(8, .ptr 1 0)]) ⟨[[.int .u64 b_44], [.sl (b_7.map A_Fund) (some 0), .sl (b_45.map A_Bill) (some 1)], [.sl (b_7.map A_Fund) (some 0), .sl (b_45.map A_Bill) (some 1)]], [(b_7.length, 4), (b_45.length, 3)]⟩ ?_)
   refine Ex.ret ?_
   obtain rfl := sJ h
   exact rt (.agg [.sl (b_7.map A_Fund) (some 0), .sl (b_45.map A_Bill) (some 1)])
def p_bk_Ints (N : Nat) (l_1 : (List Int)) : Option ((List Int)) := ((pushI ([] : List Int) l_1).bind fun l_2 => some l_2)
def v_bk_Ints (r : (List Int)) : AV := .sl (r.map (AV.int .i64)) none
attribute [local simp] v_bk_Ints
theorem a_bk_Ints (l_1 : (List Int)) : [.sl (l_1.map (AV.int .i64)) none].mapM (ren []) = some [.sl (l_1.map (AV.int .i64)) none] := by simp
theorem b_bk_Ints (r : (List Int)) (n n2 m : Nat) : back n n2 m (v_bk_Ints r) = some (v_bk_Ints r) := by simp
theorem d_bk_Ints (N : Nat) (l_1 : (List Int)) (r : (List Int)) (h : p_bk_Ints N l_1 = some r) : Does Try.prog 37 [.sl (l_1.map (AV.int .i64)) none] [] fun v c => v = v_bk_Ints r ∧ c = [] := by
 unfold p_bk_Ints at h
 refine Does.ofL comp37 _ _ rfl rfl ?_
 refine Ex.seq (rg 1 [0] (mkS 6 [(0, .sl (l_1.map (AV.int .i64)) none)]) ⟨[], []⟩ ?_)
 refine Ex.seq ?_
 obtain ⟨l_2, hl_2, h⟩ := bE h
 refine regH 4 [(2, .apps (l_1.map (AV.int .i64)) (l_2.map (AV.int .i64)) l_2.length)] [2] [LApps 0 (([] : List Int).map (AV.int .i64)) (l_1.map (AV.int .i64)) (l_1.map (AV.int .i64)) 1 (l_2.map (AV.int .i64)) l_2.length] (mkS 6 [(2, .sl (l_2.map (AV.int .i64)) (some 0))]) (⟨[], [(l_2.length, 1)]⟩) (by kernel_rfl) ⟨LApps.of hl_2 (fun _ => rfl) (fun _ => rfl) (fun _ => rfl), trivial⟩ rfl ?_
 refine Ex.ret ?_
 obtain rfl := sJ h
 exact rt (.sl (l_2.map (AV.int .i64)) (some 0))
def v_bk_OwnLedger (r : T_Ledger) : AV := (A_Ledger r)
attribute [local simp] v_bk_OwnLedger
def p_bk_EqInts (N : Nat) (a_1 : (List Int)) (b_2 : (List Int)) : Option (Bool) := (bif (((a_1.length : Nat) : Int) != ((b_2.length : Nat) : Int)) then some false else (letJ (fun (_ : Unit) => some true) (fun k_4 => (loop1 (fun rec_8 (i_7 : Int) => (bif (decide (i_7 < ((a_1.length : Nat) : Int))) then ((getI a_1 i_7).bind fun x_12 => ((getI b_2 i_7).bind fun x_13 => (bif (x_12 != x_13) then some false else (rec_8 (IntKind.i64.wrap (i_7 + 1)))))) else (k_4 ()))) N 0))))
def v_bk_EqInts (r : Bool) : AV := .bool r
attribute [local simp] v_bk_EqInts
theorem a_bk_EqInts (a_1 : (List Int)) (b_2 : (List Int)) : [.sl (a_1.map (AV.int .i64)) none, .sl (b_2.map (AV.int .i64)) none].mapM (ren []) = some [.sl (a_1.map (AV.int .i64)) none, .sl (b_2.map (AV.int .i64)) none] := by simp
theorem b_bk_EqInts (r : Bool) (n n2 m : Nat) : back n n2 m (v_bk_EqInts r) = some (v_bk_EqInts r) := by simp
theorem d_bk_EqInts (N : Nat) (a_1 : (List Int)) (b_2 : (List Int)) (r : Bool) (h : p_bk_EqInts N a_1 b_2 = some r) : Does Try.prog 24 [.sl (a_1.map (AV.int .i64)) none, .sl (b_2.map (AV.int .i64)) none] [] fun v c => v = v_bk_EqInts r ∧ c = [] := by
 unfold p_bk_EqInts at h
 refine Does.ofL comp24 _ _ rfl rfl ?_
 refine Ex.seq (rg 1 [0, 1] (mkS 26 [(0, .sl (a_1.map (AV.int .i64)) none), (1, .sl (b_2.map (AV.int .i64)) none)]) ⟨[], []⟩ ?_)
 refine Ex.seq (Ex.seq ?_)
 refine regH 5 [(1, .eq (i6 ((a_1.length : Nat) : Int))), (3, .eq (i6 ((b_2.length : Nat) : Int)))] [0, 1, 10] [AV.int .i64 (((a_1.map (AV.int .i64)).length : Nat) : Int) = AV.int .i64 ((a_1.length : Nat) : Int), AV.int .i64 (((b_2.map (AV.int .i64)).length : Nat) : Int) = AV.int .i64 ((b_2.length : Nat) : Int)] (mkS 26 [(0, .sl (a_1.map (AV.int .i64)) none), (1, .sl (b_2.map (AV.int .i64)) none), (10, .bool (((a_1.length : Nat) : Int) != ((b_2.length : Nat) : Int)))]) (⟨[], []⟩) (by kernel_rfl) ⟨lenM _ _, lenM _ _, trivial⟩ rfl ?_
 rcases condI h with ⟨hc_3, h⟩ | ⟨hc_3, h⟩
 ·refine Ex.condT _ rfl hc_3 ?_
  refine Ex.seq (rg 1 [4] (mkS 26 [(4, .bool false)]) ⟨[], []⟩ ?_)
  refine Ex.ret ?_
  obtain rfl := sJ h
  exact rt (.bool false)
 ·refine Ex.condF _ rfl hc_3 ?_
  refine Ex.skip ?_
  refine Ex.seq (Ex.seq ?_)
  refine rg 1 [0, 1, 5] (mkS 26 [(0, .sl (a_1.map (AV.int .i64)) none), (1, .sl (b_2.map (AV.int .i64)) none), (5, i6 0)]) ⟨[], []⟩ ?_
  obtain ⟨K_5, hK_6, h⟩ := letE h
  refine Ex.blockJ (fun a S => K_5 () = some r ∧ a = mkS 26 [] ∧ S = ⟨[], []⟩) ?_ ?_
  ·obtain ⟨B_9, hB_10, h⟩ := loop1I h
   refine Ex.loopF (fun k a S => ∃ (i_7 : Int), loop1 B_9 k i_7 = some r ∧ a = mkS 26 [(0, .sl (a_1.map (AV.int .i64)) none), (1, .sl (b_2.map (AV.int .i64)) none), (5, i6 i_7)] ∧ S = ⟨[], []⟩) N ⟨_, _, Forgets.refl _ _ _, 0, h, rfl, rfl⟩ ?_
   rintro k a S ⟨i_7, h, rfl, rfl⟩
   cases k with
   | zero => exact (loop1Z h).elim
   | succ k =>
    replace h := loop1S h hB_10
    refine Ex.seq (Ex.seq ?_)
    refine regH 4 [(2, .eq (i6 ((a_1.length : Nat) : Int)))] [0, 1, 5, 14] [AV.int .i64 (((a_1.map (AV.int .i64)).length : Nat) : Int) = AV.int .i64 ((a_1.length : Nat) : Int)] (mkS 26 [(0, .sl (a_1.map (AV.int .i64)) none), (1, .sl (b_2.map (AV.int .i64)) none), (5, i6 i_7), (14, .bool (decide (i_7 < ((a_1.length : Nat) : Int))))]) (⟨[], []⟩) (by kernel_rfl) ⟨lenM _ _, trivial⟩ rfl ?_
    rcases condI h with ⟨hc_11, h⟩ | ⟨hc_11, h⟩
    ·refine Ex.condT _ rfl hc_11 ?_
     refine Ex.skip ?_
     refine Ex.seq ?_
     refine Ex.blockK ?_
     refine Ex.seq ?_
     obtain ⟨x_12, hx_12, h⟩ := bE h
     obtain ⟨x_13, hx_13, h⟩ := bE h
     refine Ex.drawE (a1 := mkS 26 [(0, .sl (a_1.map (AV.int .i64)) none), (1, .sl (b_2.map (AV.int .i64)) none), (5, i6 i_7), (14, .bool (decide (i_7 < ((a_1.length : Nat) : Int)))), (17, .sl (a_1.map (AV.int .i64)) none), (18, i6 i_7), (19, .rop [i6 x_12]), (20, i6 x_12), (21, .sl (b_2.map (AV.int .i64)) none), (22, i6 i_7), (23, .rop [i6 x_13]), (24, i6 x_13)]) (noClr_ok _) [] [] [] ?_ ?_
     ·refine drS [] 8 [(2, .rop [i6 x_12]), (6, .rop [i6 x_13])] [LGet (a_1.map (AV.int .i64)) i_7 1 [i6 x_12], LGet (b_2.map (AV.int .i64)) i_7 1 [i6 x_13]] (mkS 26 [(0, .sl (a_1.map (AV.int .i64)) none), (1, .sl (b_2.map (AV.int .i64)) none), (5, i6 i_7), (14, .bool (decide (i_7 < ((a_1.length : Nat) : Int)))), (17, .sl (a_1.map (AV.int .i64)) none), (18, i6 i_7), (19, .rop [i6 x_12]), (20, i6 x_12), (21, .sl (b_2.map (AV.int .i64)) none), (22, i6 i_7), (23, .rop [i6 x_13]), (24, i6 x_13)]) (by simp) (by kernel_rfl) ⟨LGet.of hx_12 rfl, LGet.of hx_13 rfl, trivial⟩ (by kernel_rfl) ?_
      exact DrO.nil rfl
     ·dsimp only [List.getLastD_cons, List.getLastD_nil]
      refine rn 1 [0, 1, 5, 25] (mkS 26 [(0, .sl (a_1.map (AV.int .i64)) none), (1, .sl (b_2.map (AV.int .i64)) none), (5, i6 i_7), (25, .bool (x_12 != x_13))]) ⟨[], []⟩ ?_
      refine ExO.nil ?_
      rcases condI h with ⟨hc_14, h⟩ | ⟨hc_14, h⟩
      ·refine Ex.condT _ rfl hc_14 ?_
       refine Ex.seq (rg 1 [4] (mkS 26 [(4, .bool false)]) ⟨[], []⟩ ?_)
       refine Ex.ret ?_
       obtain rfl := sJ h
       exact rt (.bool false)
      ·refine Ex.condF _ rfl hc_14 ?_
       refine Ex.skip ?_
       refine rg 3 [0, 1, 5] (mkS 26 [(0, .sl (a_1.map (AV.int .i64)) none), (1, .sl (b_2.map (AV.int .i64)) none), (5, i6 (IntKind.i64.wrap (i_7 + 1)))]) ⟨[], []⟩ ?_
       dsimp only
       exact ⟨_, _, Forgets.refl _ _ _, k, Nat.lt_succ_self k, (IntKind.i64.wrap (i_7 + 1)), h, rfl, rfl⟩
    ·refine Ex.condF _ rfl hc_11 ?_
     refine Ex.exit ?_
     (try simp only [reduceCtorEq, AEx.ex.injEq, Nat.reduceEqDiff, if_true, if_false])
     exact ⟨_, _, forgetK [], h, rfl, rfl⟩
  ·rintro a S ⟨h, rfl, rfl⟩
   subst hK_6
   refine Ex.seq (rg 1 [4] (mkS 26 [(4, .bool true)]) ⟨[], []⟩ ?_)
   refine Ex.ret ?_
   obtain rfl := sJ h
   exact rt (.bool true)
def p_bk_EqLists (N : Nat) (a_1 : (List (List Int))) (b_2 : (List (List Int))) : Option (Bool) := (bif (((a_1.length : Nat) : Int) != ((b_2.length : Nat) : Int)) then some false else (letJ (fun (_ : Unit) => some true) (fun k_4 => (loop1 (fun rec_8 (i_7 : Int) => (bif (decide (i_7 < ((a_1.length : Nat) : Int))) then ((getI a_1 i_7).bind fun x_12 => ((getI b_2 i_7).bind fun x_13 => ((p_bk_EqInts N x_12 x_13).bind fun r_14 => (bif (!r_14) then some false else (rec_8 (IntKind.i64.wrap (i_7 + 1))))))) else (k_4 ()))) N 0))))
def v_bk_EqLists (r : Bool) : AV := .bool r
attribute [local simp] v_bk_EqLists
theorem a_bk_EqLists (a_1 : (List (List Int))) (b_2 : (List (List Int))) : [.sl (a_1.map (SV (AV.int .i64))) none, .sl (b_2.map (SV (AV.int .i64))) none].mapM (ren []) = some [.sl (a_1.map (SV (AV.int .i64))) none, .sl (b_2.map (SV (AV.int .i64))) none] := by simp
theorem b_bk_EqLists (r : Bool) (n n2 m : Nat) : back n n2 m (v_bk_EqLists r) = some (v_bk_EqLists r) := by simp
theorem d_bk_EqLists (N : Nat) (a_1 : (List (List Int))) (b_2 : (List (List Int))) (r : Bool) (h : p_bk_EqLists N a_1 b_2 = some r) : Does Try.prog 23 [.sl (a_1.map (SV (AV.int .i64))) none, .sl (b_2.map (SV (AV.int .i64))) none] [] fun v c => v = v_bk_EqLists r ∧ c = [] := by
 unfold p_bk_EqLists at h
 refine Does.ofL comp23 _ _ rfl rfl ?_
 refine Ex.seq (rg 1 [0, 1] (mkS 27 [(0, .sl (a_1.map (SV (AV.int .i64))) none), (1, .sl (b_2.map (SV (AV.int .i64))) none)]) ⟨[], []⟩ ?_)
 refine Ex.seq (Ex.seq ?_)
 refine regH 5 [(1, .eq (i6 ((a_1.length : Nat) : Int))), (3, .eq (i6 ((b_2.length : Nat) : Int)))] [0, 1, 10] [AV.int .i64 (((a_1.map (SV (AV.int .i64))).length : Nat) : Int) = AV.int .i64 ((a_1.length : Nat) : Int), AV.int .i64 (((b_2.map (SV (AV.int .i64))).length : Nat) : Int) = AV.int .i64 ((b_2.length : Nat) : Int)] (mkS 27 [(0, .sl (a_1.map (SV (AV.int .i64))) none), (1, .sl (b_2.map (SV (AV.int .i64))) none), (10, .bool (((a_1.length : Nat) : Int) != ((b_2.length : Nat) : Int)))]) (⟨[], []⟩) (by kernel_rfl) ⟨lenM _ _, lenM _ _, trivial⟩ rfl ?_
 rcases condI h with ⟨hc_3, h⟩ | ⟨hc_3, h⟩
 ·refine Ex.condT _ rfl hc_3 ?_
  refine Ex.seq (rg 1 [4] (mkS 27 [(4, .bool false)]) ⟨[], []⟩ ?_)
  refine Ex.ret ?_
  obtain rfl := sJ h
  exact rt (.bool false)
 ·refine Ex.condF _ rfl hc_3 ?_
  refine Ex.skip ?_
  refine Ex.seq (Ex.seq ?_)
  refine rg 1 [0, 1, 5] (mkS 27 [(0, .sl (a_1.map (SV (AV.int .i64))) none), (1, .sl (b_2.map (SV (AV.int .i64))) none), (5, i6 0)]) ⟨[], []⟩ ?_
  obtain ⟨K_5, hK_6, h⟩ := letE h
  refine Ex.blockJ (fun a S => K_5 () = some r ∧ a = mkS 27 [] ∧ S = ⟨[], []⟩) ?_ ?_
  ·obtain ⟨B_9, hB_10, h⟩ := loop1I h
   refine Ex.loopF (fun k a S => ∃ (i_7 : Int), loop1 B_9 k i_7 = some r ∧ a = mkS 27 [(0, .sl (a_1.map (SV (AV.int .i64))) none), (1, .sl (b_2.map (SV (AV.int .i64))) none), (5, i6 i_7)] ∧ S = ⟨[], []⟩) N ⟨_, _, Forgets.refl _ _ _, 0, h, rfl, rfl⟩ ?_
   rintro k a S ⟨i_7, h, rfl, rfl⟩
   cases k with
   | zero => exact (loop1Z h).elim
   | succ k =>
    replace h := loop1S h hB_10
    refine Ex.seq (Ex.seq ?_)
    refine regH 4 [(2, .eq (i6 ((a_1.length : Nat) : Int)))] [0, 1, 5, 14] [AV.int .i64 (((a_1.map (SV (AV.int .i64))).length : Nat) : Int) = AV.int .i64 ((a_1.length : Nat) : Int)] (mkS 27 [(0, .sl (a_1.map (SV (AV.int .i64))) none), (1, .sl (b_2.map (SV (AV.int .i64))) none), (5, i6 i_7), (14, .bool (decide (i_7 < ((a_1.length : Nat) : Int))))]) (⟨[], []⟩) (by kernel_rfl) ⟨lenM _ _, trivial⟩ rfl ?_
    rcases condI h with ⟨hc_11, h⟩ | ⟨hc_11, h⟩
    ·refine Ex.condT _ rfl hc_11 ?_
     refine Ex.skip ?_
     refine Ex.seq ?_
     refine Ex.blockK ?_
     refine Ex.seq ?_
     obtain ⟨x_12, hx_12, h⟩ := bE h
     obtain ⟨x_13, hx_13, h⟩ := bE h
     refine Ex.drawE (a1 := mkS 27 [(0, .sl (a_1.map (SV (AV.int .i64))) none), (1, .sl (b_2.map (SV (AV.int .i64))) none), (5, i6 i_7), (14, .bool (decide (i_7 < ((a_1.length : Nat) : Int)))), (17, .sl (a_1.map (SV (AV.int .i64))) none), (18, i6 i_7), (19, .rop [.sl (x_12.map (AV.int .i64)) none]), (20, .sl (x_12.map (AV.int .i64)) none), (21, .sl (b_2.map (SV (AV.int .i64))) none), (22, i6 i_7), (23, .rop [.sl (x_13.map (AV.int .i64)) none]), (24, .sl (x_13.map (AV.int .i64)) none)]) (noClr_ok _) [] [] [] ?_ ?_
     ·refine drS [] 8 [(2, .rop [.sl (x_12.map (AV.int .i64)) none]), (6, .rop [.sl (x_13.map (AV.int .i64)) none])] [LGet (a_1.map (SV (AV.int .i64))) i_7 1 [.sl (x_12.map (AV.int .i64)) none], LGet (b_2.map (SV (AV.int .i64))) i_7 1 [.sl (x_13.map (AV.int .i64)) none]] (mkS 27 [(0, .sl (a_1.map (SV (AV.int .i64))) none), (1, .sl (b_2.map (SV (AV.int .i64))) none), (5, i6 i_7), (14, .bool (decide (i_7 < ((a_1.length : Nat) : Int)))), (17, .sl (a_1.map (SV (AV.int .i64))) none), (18, i6 i_7), (19, .rop [.sl (x_12.map (AV.int .i64)) none]), (20, .sl (x_12.map (AV.int .i64)) none), (21, .sl (b_2.map (SV (AV.int .i64))) none), (22, i6 i_7), (23, .rop [.sl (x_13.map (AV.int .i64)) none]), (24, .sl (x_13.map (AV.int .i64)) none)]) (by simp) (by kernel_rfl) ⟨LGet.of hx_12 rfl, LGet.of hx_13 rfl, trivial⟩ (by kernel_rfl) ?_
      exact DrO.nil rfl
     ·dsimp only [List.getLastD_cons, List.getLastD_nil]
      obtain ⟨r_14, hr_14, h⟩ := bE h
      refine ExO.callL [] [.sl (x_12.map (AV.int .i64)) none, .sl (x_13.map (AV.int .i64)) none] rfl rfl (a_bk_EqInts x_12 x_13) rfl rfl (d_bk_EqInts N x_12 x_13 r_14 hr_14) (b_bk_EqInts _ _ _ _) rfl ?_
      refine rn 1 [0, 1, 5, 26] (mkS 27 [(0, .sl (a_1.map (SV (AV.int .i64))) none), (1, .sl (b_2.map (SV (AV.int .i64))) none), (5, i6 i_7), (26, .bool (!r_14))]) ⟨[], []⟩ ?_
      refine ExO.nil ?_
      rcases condI h with ⟨hc_15, h⟩ | ⟨hc_15, h⟩
      ·refine Ex.condT _ rfl hc_15 ?_
       refine Ex.seq (rg 1 [4] (mkS 27 [(4, .bool false)]) ⟨[], []⟩ ?_)
       refine Ex.ret ?_
       obtain rfl := sJ h
       exact rt (.bool false)
      ·refine Ex.condF _ rfl hc_15 ?_
       refine Ex.skip ?_
       refine rg 3 [0, 1, 5] (mkS 27 [(0, .sl (a_1.map (SV (AV.int .i64))) none), (1, .sl (b_2.map (SV (AV.int .i64))) none), (5, i6 (IntKind.i64.wrap (i_7 + 1)))]) ⟨[], []⟩ ?_
       dsimp only
       exact ⟨_, _, Forgets.refl _ _ _, k, Nat.lt_succ_self k, (IntKind.i64.wrap (i_7 + 1)), h, rfl, rfl⟩
    ·refine Ex.condF _ rfl hc_11 ?_
     refine Ex.exit ?_
     (try simp only [reduceCtorEq, AEx.ex.injEq, Nat.reduceEqDiff, if_true, if_false])
     exact ⟨_, _, forgetK [], h, rfl, rfl⟩
  ·rintro a S ⟨h, rfl, rfl⟩
   subst hK_6
   refine Ex.seq (rg 1 [4] (mkS 27 [(4, .bool true)]) ⟨[], []⟩ ?_)
   refine Ex.ret ?_
   obtain rfl := sJ h
   exact rt (.bool true)
def v_bk_EqLedgers (r : Bool) : AV := .bool r
attribute [local simp] v_bk_EqLedgers
def p_bk_Lists (N : Nat) (l_1 : (List (List Int))) : Option ((List (List Int))) := (letJ (fun (out_2 : List (List Int)) => some out_2) (fun k_3 => (loop2 (fun rec_8 (out_6 : List (List Int)) (i_7 : Int) => (bif (decide (i_7 < ((l_1.length : Nat) : Int))) then ((getI l_1 i_7).bind fun x_12 => ((p_bk_Ints N x_12).bind fun r_13 => ((pushI out_6 ([r_13] : List (List Int))).bind fun l_14 => (rec_8 l_14 (IntKind.i64.wrap (i_7 + 1)))))) else (k_3 out_6))) N [] 0)))
def v_bk_Lists (r : (List (List Int))) : AV := .sl (r.map (SV (AV.int .i64))) none
attribute [local simp] v_bk_Lists
end Go.Proofs.Ytfhapfljomgmnaa
end
section
namespace Go.Proofs.Ytfhapfljomgmnaa
open Go.RowKit
attribute [local simp] ren ren1 AV.plain AV.plain1 AV.clean cleanL cleanI cleanBo cleanSt cleanII KL_bk_Drum KL_Fund KL_Bill KL_Ledger A_bk_Drum C_bk_Drum A_Fund C_Fund A_Bill C_Bill A_Ledger C_Ledger back back1 re re1 List.idxOf? List.findIdx? List.findIdx?.go KB_bk_Drum KB_Fund KB_Bill KB_Ledger fadeS fadeV
def p_within (N : Nat) (n_1 : Int) (least_2 : Int) (most_3 : Int) : Option (Bool) := (bif (decide (n_1 ≥ least_2)) then some (decide (n_1 ≤ most_3)) else some false)
def v_within (r : Bool) : AV := .bool r
attribute [local simp] v_within
theorem a_within (n_1 : Int) (least_2 : Int) (most_3 : Int) : [i6 n_1, i6 least_2, i6 most_3].mapM (ren []) = some [i6 n_1, i6 least_2, i6 most_3] := by simp
theorem b_within (r : Bool) (n n2 m : Nat) : back n n2 m (v_within r) = some (v_within r) := by simp
theorem d_within (N : Nat) (n_1 : Int) (least_2 : Int) (most_3 : Int) (r : Bool) (h : p_within N n_1 least_2 most_3 = some r) : Does Try.prog 51 [i6 n_1, i6 least_2, i6 most_3] [] fun v c => v = v_within r ∧ c = [] := by
 unfold p_within at h
 refine Does.ofL comp51 _ _ rfl rfl ?_
 refine Ex.seq (rg 1 [0, 1, 2] (mkS 15 [(0, i6 n_1), (1, i6 least_2), (2, i6 most_3)]) ⟨[], []⟩ ?_)
 refine Ex.seq ?_
 rcases condI h with ⟨hc_4, h⟩ | ⟨hc_4, h⟩
 ·refine regH 9 [(3, .eq (.bool true))] [6] [AV.bool (decide (n_1 ≥ least_2)) = AV.bool true] (mkS 15 [(6, .bool (decide (n_1 ≤ most_3)))]) (⟨[], []⟩) (by kernel_rfl) ⟨congrArg AV.bool hc_4, trivial⟩ rfl ?_
  refine Ex.ret ?_
  obtain rfl := sJ h
  exact rt (.bool (decide (n_1 ≤ most_3)))
 ·refine regH 9 [(3, .eq (.bool false))] [6] [AV.bool (decide (n_1 ≥ least_2)) = AV.bool false] (mkS 15 [(6, .bool false)]) (⟨[], []⟩) (by kernel_rfl) ⟨congrArg AV.bool hc_4, trivial⟩ rfl ?_
  refine Ex.ret ?_
  obtain rfl := sJ h
  exact rt (.bool false)
def p_isDate (N : Nat) (n_1 : Int) : Option (Bool) := ((p_within N n_1 0 3650).bind fun r_2 => some r_2)
def v_isDate (r : Bool) : AV := .bool r
attribute [local simp] v_isDate
theorem a_isDate (n_1 : Int) : [i6 n_1].mapM (ren []) = some [i6 n_1] := by simp
theorem b_isDate (r : Bool) (n n2 m : Nat) : back n n2 m (v_isDate r) = some (v_isDate r) := by simp
theorem d_isDate (N : Nat) (n_1 : Int) (r : Bool) (h : p_isDate N n_1 = some r) : Does Try.prog 56 [i6 n_1] [] fun v c => v = v_isDate r ∧ c = [] := by
 unfold p_isDate at h
 refine Does.ofL comp56 _ _ rfl rfl ?_
 refine Ex.seq (rg 1 [0] (mkS 5 [(0, i6 n_1)]) ⟨[], []⟩ ?_)
 refine Ex.seq ?_
 obtain ⟨r_2, hr_2, h⟩ := bE h
 refine Ex.reg (rn 1 [3] (mkS 5 [(3, i6 n_1)]) ⟨[], []⟩ ?_)
 refine ExO.callL [] [i6 n_1, i6 0, i6 3650] rfl rfl (a_within n_1 0 3650) rfl rfl (d_within N n_1 0 3650 r_2 hr_2) (b_within _ _ _ _) rfl ?_
 refine rn 1 [2] (mkS 5 [(2, .bool r_2)]) ⟨[], []⟩ ?_
 refine ExO.nil ?_
 refine Ex.ret ?_
 obtain rfl := sJ h
 exact rt (.bool r_2)
def p_isAmount (N : Nat) (n_1 : Int) : Option (Bool) := ((p_within N n_1 0 1000000000).bind fun r_2 => some r_2)
def v_isAmount (r : Bool) : AV := .bool r
attribute [local simp] v_isAmount
theorem a_isAmount (n_1 : Int) : [i6 n_1].mapM (ren []) = some [i6 n_1] := by simp
theorem b_isAmount (r : Bool) (n n2 m : Nat) : back n n2 m (v_isAmount r) = some (v_isAmount r) := by simp
theorem d_isAmount (N : Nat) (n_1 : Int) (r : Bool) (h : p_isAmount N n_1 = some r) : Does Try.prog 58 [i6 n_1] [] fun v c => v = v_isAmount r ∧ c = [] := by
 unfold p_isAmount at h
 refine Does.ofL comp58 _ _ rfl rfl ?_
 refine Ex.seq (rg 1 [0] (mkS 5 [(0, i6 n_1)]) ⟨[], []⟩ ?_)
 refine Ex.seq ?_
 obtain ⟨r_2, hr_2, h⟩ := bE h
 refine Ex.reg (rn 1 [3] (mkS 5 [(3, i6 n_1)]) ⟨[], []⟩ ?_)
 refine ExO.callL [] [i6 n_1, i6 0, i6 1000000000] rfl rfl (a_within n_1 0 1000000000) rfl rfl (d_within N n_1 0 1000000000 r_2 hr_2) (b_within _ _ _ _) rfl ?_
 refine rn 1 [2] (mkS 5 [(2, .bool r_2)]) ⟨[], []⟩ ?_
 refine ExO.nil ?_
 refine Ex.ret ?_
 obtain rfl := sJ h
 exact rt (.bool r_2)
def p_isUse (N : Nat) (n_1 : Int) : Option (Bool) := ((p_within N n_1 0 7).bind fun r_2 => some r_2)
def v_isUse (r : Bool) : AV := .bool r
attribute [local simp] v_isUse
theorem a_isUse (n_1 : Int) : [i6 n_1].mapM (ren []) = some [i6 n_1] := by simp
theorem b_isUse (r : Bool) (n n2 m : Nat) : back n n2 m (v_isUse r) = some (v_isUse r) := by simp
theorem d_isUse (N : Nat) (n_1 : Int) (r : Bool) (h : p_isUse N n_1 = some r) : Does Try.prog 57 [i6 n_1] [] fun v c => v = v_isUse r ∧ c = [] := by
 unfold p_isUse at h
 refine Does.ofL comp57 _ _ rfl rfl ?_
 refine Ex.seq (rg 1 [0] (mkS 5 [(0, i6 n_1)]) ⟨[], []⟩ ?_)
 refine Ex.seq ?_
 obtain ⟨r_2, hr_2, h⟩ := bE h
 refine Ex.reg (rn 1 [3] (mkS 5 [(3, i6 n_1)]) ⟨[], []⟩ ?_)
 refine ExO.callL [] [i6 n_1, i6 0, i6 7] rfl rfl (a_within n_1 0 7) rfl rfl (d_within N n_1 0 7 r_2 hr_2) (b_within _ _ _ _) rfl ?_
 refine rn 1 [2] (mkS 5 [(2, .bool r_2)]) ⟨[], []⟩ ?_
 refine ExO.nil ?_
 refine Ex.ret ?_
 obtain rfl := sJ h
 exact rt (.bool r_2)
def p_checkUses (N : Nat) (uses_1 : (List Int)) : Option (Int) := (letJ (fun (_ : Unit) => some 0) (fun k_2 => (loop1 (fun rec_6 (y_5 : Int) => (bif (decide (y_5 < ((uses_1.length : Nat) : Int))) then ((getI uses_1 y_5).bind fun x_10 => ((p_isUse N x_10).bind fun r_11 => (bif (!r_11) then some 2 else (letJ (fun (y_13 : Bool) => (bif y_13 then some 9 else (rec_6 (IntKind.i64.wrap (y_5 + 1))))) (fun k_14 => (bif (decide (y_5 > 0)) then ((getI uses_1 (IntKind.i64.wrap (y_5 - 1))).bind fun x_18 => (k_14 (decide (x_10 ≤ x_18)))) else (k_14 false))))))) else (k_2 ()))) N 0)))
def v_checkUses (r : Int) : AV := i6 r
attribute [local simp] v_checkUses
theorem a_checkUses (uses_1 : (List Int)) : [.sl (uses_1.map (AV.int .i64)) none].mapM (ren []) = some [.sl (uses_1.map (AV.int .i64)) none] := by simp
theorem b_checkUses (r : Int) (n n2 m : Nat) : back n n2 m (v_checkUses r) = some (v_checkUses r) := by simp
theorem d_checkUses (N : Nat) (uses_1 : (List Int)) (r : Int) (h : p_checkUses N uses_1 = some r) : Does Try.prog 80 [.sl (uses_1.map (AV.int .i64)) none] [] fun v c => v = v_checkUses r ∧ c = [] := by
 unfold p_checkUses at h
 refine Does.ofL comp80 _ _ rfl rfl ?_
 refine Ex.seq (rg 1 [0] (mkS 29 [(0, .sl (uses_1.map (AV.int .i64)) none)]) ⟨[], []⟩ ?_)
 refine Ex.seq (Ex.seq ?_)
 refine regH 3 [(1, .eq (i6 ((uses_1.length : Nat) : Int)))] [0, 5, 6, 7] [AV.int .i64 (((uses_1.map (AV.int .i64)).length : Nat) : Int) = AV.int .i64 ((uses_1.length : Nat) : Int)] (mkS 29 [(0, .sl (uses_1.map (AV.int .i64)) none), (5, .sl (uses_1.map (AV.int .i64)) none), (6, i6 ((uses_1.length : Nat) : Int)), (7, i6 0)]) (⟨[], []⟩) (by kernel_rfl) ⟨lenM _ _, trivial⟩ rfl ?_
 obtain ⟨K_3, hK_4, h⟩ := letE h
 refine Ex.blockJ (fun a S => K_3 () = some r ∧ a = mkS 29 [] ∧ S = ⟨[], []⟩) ?_ ?_
 ·obtain ⟨B_7, hB_8, h⟩ := loop1I h
  refine Ex.loopF (fun k a S => ∃ (y_5 : Int), loop1 B_7 k y_5 = some r ∧ a = mkS 29 [(0, .sl (uses_1.map (AV.int .i64)) none), (5, .sl (uses_1.map (AV.int .i64)) none), (6, i6 ((uses_1.length : Nat) : Int)), (7, i6 y_5)] ∧ S = ⟨[], []⟩) N ⟨_, _, Forgets.refl _ _ _, 0, h, rfl, rfl⟩ ?_
  rintro k a S ⟨y_5, h, rfl, rfl⟩
  cases k with
  | zero => exact (loop1Z h).elim
  | succ k =>
   replace h := loop1S h hB_8
   refine Ex.seq (rg 1 [0, 5, 6, 7, 8] (mkS 29 [(0, .sl (uses_1.map (AV.int .i64)) none), (5, .sl (uses_1.map (AV.int .i64)) none), (6, i6 ((uses_1.length : Nat) : Int)), (7, i6 y_5), (8, .bool (decide (y_5 < ((uses_1.length : Nat) : Int))))]) ⟨[], []⟩ ?_)
   refine Ex.seq ?_
   rcases condI h with ⟨hc_9, h⟩ | ⟨hc_9, h⟩
   ·refine Ex.condT _ rfl hc_9 ?_
    refine Ex.skip ?_
    refine Ex.seq ?_
    refine Ex.blockK ?_
    refine Ex.seq ?_
    obtain ⟨x_10, hx_10, h⟩ := bE h
    refine regH 5 [(1, .rop [i6 x_10])] [0, 3, 4, 5, 6, 7] [LGet (uses_1.map (AV.int .i64)) y_5 1 [i6 x_10]] (mkS 29 [(0, .sl (uses_1.map (AV.int .i64)) none), (3, i6 y_5), (4, i6 x_10), (5, .sl (uses_1.map (AV.int .i64)) none), (6, i6 ((uses_1.length : Nat) : Int)), (7, i6 y_5)]) (⟨[], []⟩) (by kernel_rfl) ⟨LGet.of hx_10 rfl, trivial⟩ rfl ?_
    refine Ex.blockK ?_
    refine Ex.seq ?_
    obtain ⟨r_11, hr_11, h⟩ := bE h
    refine Ex.reg (rn 1 [0, 3, 4, 5, 6, 7, 13] (mkS 29 [(0, .sl (uses_1.map (AV.int .i64)) none), (3, i6 y_5), (4, i6 x_10), (5, .sl (uses_1.map (AV.int .i64)) none), (6, i6 ((uses_1.length : Nat) : Int)), (7, i6 y_5), (13, i6 x_10)]) ⟨[], []⟩ ?_)
    refine ExO.callL [] [i6 x_10] rfl rfl (a_isUse x_10) rfl rfl (d_isUse N x_10 r_11 hr_11) (b_isUse _ _ _ _) rfl ?_
    refine rn 2 [0, 3, 4, 5, 6, 7, 12] (mkS 29 [(0, .sl (uses_1.map (AV.int .i64)) none), (3, i6 y_5), (4, i6 x_10), (5, .sl (uses_1.map (AV.int .i64)) none), (6, i6 ((uses_1.length : Nat) : Int)), (7, i6 y_5), (12, .bool (!r_11))]) ⟨[], []⟩ ?_
    refine ExO.nil ?_
    rcases condI h with ⟨hc_12, h⟩ | ⟨hc_12, h⟩
    ·refine Ex.condT _ rfl hc_12 ?_
     refine Ex.seq (rg 1 [2] (mkS 29 [(2, i6 2)]) ⟨[], []⟩ ?_)
     refine Ex.ret ?_
     obtain rfl := sJ h
     exact rt (i6 2)
    ·refine Ex.condF _ rfl hc_12 ?_
     obtain ⟨K_15, hK_16, h⟩ := letE h
     refine Ex.seqJ (fun a S => ∃ (y_13 : Bool), K_15 y_13 = some r ∧ a = mkS 29 [(0, .sl (uses_1.map (AV.int .i64)) none), (5, .sl (uses_1.map (AV.int .i64)) none), (6, i6 ((uses_1.length : Nat) : Int)), (7, i6 y_5), (16, .bool y_13)] ∧ S = ⟨[], []⟩) ?_ ?_
     ·rcases condI h with ⟨hc_17, h⟩ | ⟨hc_17, h⟩
      ·obtain ⟨x_18, hx_18, h⟩ := bE h
       refine regH 12 [(2, .eq (.bool true)), (7, .rop [i6 x_18])] [0, 5, 6, 7, 16] [AV.bool (decide (y_5 > 0)) = AV.bool true, LGet (uses_1.map (AV.int .i64)) (IntKind.i64.wrap (y_5 - 1)) 1 [i6 x_18]] (mkS 29 [(0, .sl (uses_1.map (AV.int .i64)) none), (5, .sl (uses_1.map (AV.int .i64)) none), (6, i6 ((uses_1.length : Nat) : Int)), (7, i6 y_5), (16, .bool (decide (x_10 ≤ x_18)))]) (⟨[], []⟩) (by kernel_rfl) ⟨congrArg AV.bool hc_17, LGet.of hx_18 rfl, trivial⟩ rfl ?_
       (try simp only [reduceCtorEq, AEx.ex.injEq, Nat.reduceEqDiff, if_true, if_false])
       exact ⟨_, _, Forgets.refl _ _ _, (decide (x_10 ≤ x_18)), h, rfl, rfl⟩
      ·refine regH 12 [(2, .eq (.bool false))] [0, 5, 6, 7, 16] [AV.bool (decide (y_5 > 0)) = AV.bool false] (mkS 29 [(0, .sl (uses_1.map (AV.int .i64)) none), (5, .sl (uses_1.map (AV.int .i64)) none), (6, i6 ((uses_1.length : Nat) : Int)), (7, i6 y_5), (16, .bool false)]) (⟨[], []⟩) (by kernel_rfl) ⟨congrArg AV.bool hc_17, trivial⟩ rfl ?_
       (try simp only [reduceCtorEq, AEx.ex.injEq, Nat.reduceEqDiff, if_true, if_false])
       exact ⟨_, _, Forgets.refl _ _ _, false, h, rfl, rfl⟩
     ·rintro a S ⟨y_13, h, rfl, rfl⟩
      subst hK_16
      rcases condI h with ⟨hc_19, h⟩ | ⟨hc_19, h⟩
      ·refine Ex.condT _ rfl hc_19 ?_
       refine Ex.seq (rg 1 [2] (mkS 29 [(2, i6 9)]) ⟨[], []⟩ ?_)
       refine Ex.ret ?_
       obtain rfl := sJ h
       exact rt (i6 9)
      ·refine Ex.condF _ rfl hc_19 ?_
       refine Ex.skip ?_
       refine rg 2 [0, 5, 6, 7] (mkS 29 [(0, .sl (uses_1.map (AV.int .i64)) none), (5, .sl (uses_1.map (AV.int .i64)) none), (6, i6 ((uses_1.length : Nat) : Int)), (7, i6 (IntKind.i64.wrap (y_5 + 1)))]) ⟨[], []⟩ ?_
       dsimp only
       exact ⟨_, _, Forgets.refl _ _ _, k, Nat.lt_succ_self k, (IntKind.i64.wrap (y_5 + 1)), h, rfl, rfl⟩
   ·refine Ex.condF _ rfl hc_9 ?_
    refine Ex.exit ?_
    (try simp only [reduceCtorEq, AEx.ex.injEq, Nat.reduceEqDiff, if_true, if_false])
    exact ⟨_, _, forgetK [], h, rfl, rfl⟩
 ·rintro a S ⟨h, rfl, rfl⟩
  subst hK_4
  refine Ex.seq (rg 1 [2] (mkS 29 [(2, i6 0)]) ⟨[], []⟩ ?_)
  refine Ex.ret ?_
  obtain rfl := sJ h
  exact rt (i6 0)
def p_checkFund (N : Nat) (f_1 : T_Fund) : Option (Int) := (letJ (fun (y_2 : Bool) => (bif y_2 then some 2 else (bif (decide (f_1.Day > f_1.Until)) then some 9 else ((p_isAmount N f_1.Amount).bind fun r_11 => (bif (!r_11) then some 2 else (bif (decide (((f_1.Uses.length : Nat) : Int) > 8)) then some 5 else ((p_checkUses N f_1.Uses).bind fun r_14 => some r_14))))))) (fun k_3 => ((p_isDate N f_1.Day).bind fun r_6 => (bif (!r_6) then (k_3 true) else ((p_isDate N f_1.Until).bind fun r_8 => (k_3 (!r_8)))))))
def v_checkFund (r : Int) : AV := i6 r
attribute [local simp] v_checkFund
theorem a_checkFund (f_1 : T_Fund) : [(A_Fund f_1)].mapM (ren []) = some [(A_Fund f_1)] := by simp
theorem b_checkFund (r : Int) (n n2 m : Nat) : back n n2 m (v_checkFund r) = some (v_checkFund r) := by simp
theorem d_checkFund (N : Nat) (f_1 : T_Fund) (r : Int) (h : p_checkFund N f_1 = some r) : Does Try.prog 55 [(A_Fund f_1)] [] fun v c => v = v_checkFund r ∧ c = [] := by
 unfold p_checkFund at h
 refine Does.ofL comp55 _ _ rfl rfl ?_
 refine Ex.seq (rg 2 [1] (mkS 33 [(1, .ptr 0 0)]) ⟨[(C_Fund f_1)], []⟩ ?_)
 refine Ex.seq ?_
 refine Ex.blockK ?_
 obtain ⟨K_4, hK_5, h⟩ := letE h
 refine Ex.seqJ (fun a S => ∃ (y_2 : Bool), K_4 y_2 = some r ∧ a = mkS 33 [(1, .ptr 0 0), (3, .bool y_2)] ∧ S = ⟨[(C_Fund f_1)], []⟩) ?_ ?_
 ·obtain ⟨r_6, hr_6, h⟩ := bE h
  refine Ex.reg (rn 2 [1, 5] (mkS 33 [(1, .ptr 0 0), (5, i6 f_1.Day)]) ⟨[(C_Fund f_1)], []⟩ ?_)
  refine ExO.callL [] [i6 f_1.Day] rfl rfl (a_isDate f_1.Day) rfl rfl (d_isDate N f_1.Day r_6 hr_6) (b_isDate _ _ _ _) rfl ?_
  rcases condI h with ⟨hc_7, h⟩ | ⟨hc_7, h⟩
  ·refine runH 8 [(1, .eq (.bool true))] [1, 3] [AV.bool (!r_6) = AV.bool true] (mkS 33 [(1, .ptr 0 0), (3, .bool true)]) (⟨[(C_Fund f_1)], []⟩) (by kernel_rfl) ⟨congrArg AV.bool hc_7, trivial⟩ ?_
   refine ExO.nil ?_
   (try simp only [reduceCtorEq, AEx.ex.injEq, Nat.reduceEqDiff, if_true, if_false])
   exact ⟨_, _, Forgets.refl _ _ _, true, h, rfl, rfl⟩
  ·obtain ⟨r_8, hr_8, h⟩ := bE h
   refine runH 4 [(1, .eq (.bool false))] [1, 8, 10] [AV.bool (!r_6) = AV.bool false] (mkS 33 [(1, .ptr 0 0), (8, .bool false), (10, i6 f_1.Until)]) (⟨[(C_Fund f_1)], []⟩) (by kernel_rfl) ⟨congrArg AV.bool hc_7, trivial⟩ ?_
   refine ExO.callL [] [i6 f_1.Until] rfl rfl (a_isDate f_1.Until) rfl rfl (d_isDate N f_1.Until r_8 hr_8) (b_isDate _ _ _ _) rfl ?_
   refine rn 3 [1, 3] (mkS 33 [(1, .ptr 0 0), (3, .bool (!r_8))]) ⟨[(C_Fund f_1)], []⟩ ?_
   refine ExO.nil ?_
   (try simp only [reduceCtorEq, AEx.ex.injEq, Nat.reduceEqDiff, if_true, if_false])
   exact ⟨_, _, Forgets.refl _ _ _, (!r_8), h, rfl, rfl⟩
 ·rintro a S ⟨y_2, h, rfl, rfl⟩
  subst hK_5
  rcases condI h with ⟨hc_9, h⟩ | ⟨hc_9, h⟩
  ·refine Ex.condT _ rfl hc_9 ?_
   refine Ex.seq (rg 1 [2] (mkS 33 [(2, i6 2)]) ⟨[(C_Fund f_1)], []⟩ ?_)
   refine Ex.ret ?_
   obtain rfl := sJ h
   exact rt (i6 2)
  ·refine Ex.condF _ rfl hc_9 ?_
   refine Ex.seq (rg 6 [1, 14] (mkS 33 [(1, .ptr 0 0), (14, .bool (decide (f_1.Day > f_1.Until)))]) ⟨[(C_Fund f_1)], []⟩ ?_)
   rcases condI h with ⟨hc_10, h⟩ | ⟨hc_10, h⟩
   ·refine Ex.condT _ rfl hc_10 ?_
    refine Ex.seq (rg 1 [2] (mkS 33 [(2, i6 9)]) ⟨[(C_Fund f_1)], []⟩ ?_)
    refine Ex.ret ?_
    obtain rfl := sJ h
    exact rt (i6 9)
   ·refine Ex.condF _ rfl hc_10 ?_
    refine Ex.seq ?_
    obtain ⟨r_11, hr_11, h⟩ := bE h
    refine Ex.reg (rn 2 [1, 22] (mkS 33 [(1, .ptr 0 0), (22, i6 f_1.Amount)]) ⟨[(C_Fund f_1)], []⟩ ?_)
    refine ExO.callL [] [i6 f_1.Amount] rfl rfl (a_isAmount f_1.Amount) rfl rfl (d_isAmount N f_1.Amount r_11 hr_11) (b_isAmount _ _ _ _) rfl ?_
    refine rn 2 [1, 20] (mkS 33 [(1, .ptr 0 0), (20, .bool (!r_11))]) ⟨[(C_Fund f_1)], []⟩ ?_
    refine ExO.nil ?_
    rcases condI h with ⟨hc_12, h⟩ | ⟨hc_12, h⟩
    ·refine Ex.condT _ rfl hc_12 ?_
     refine Ex.seq (rg 1 [2] (mkS 33 [(2, i6 2)]) ⟨[(C_Fund f_1)], []⟩ ?_)
     refine Ex.ret ?_
     obtain rfl := sJ h
     exact rt (i6 2)
    ·refine Ex.condF _ rfl hc_12 ?_
     refine Ex.seq ?_
     refine regH 5 [(2, .eq (i6 ((f_1.Uses.length : Nat) : Int)))] [1, 25] [AV.int .i64 (((f_1.Uses.map (AV.int .i64)).length : Nat) : Int) = AV.int .i64 ((f_1.Uses.length : Nat) : Int)] (mkS 33 [(1, .ptr 0 0), (25, .bool (decide (((f_1.Uses.length : Nat) : Int) > 8)))]) (⟨[(C_Fund f_1)], []⟩) (by kernel_rfl) ⟨lenM _ _, trivial⟩ rfl ?_
     rcases condI h with ⟨hc_13, h⟩ | ⟨hc_13, h⟩
     ·refine Ex.condT _ rfl hc_13 ?_
      refine Ex.seq (rg 1 [2] (mkS 33 [(2, i6 5)]) ⟨[(C_Fund f_1)], []⟩ ?_)
      refine Ex.ret ?_
      obtain rfl := sJ h
      exact rt (i6 5)
     ·refine Ex.condF _ rfl hc_13 ?_
      refine Ex.skip ?_
      refine Ex.seq ?_
      obtain ⟨r_14, hr_14, h⟩ := bE h
      refine Ex.reg (rn 2 [31] (mkS 33 [(31, .sl (f_1.Uses.map (AV.int .i64)) none)]) ⟨[(C_Fund f_1)], []⟩ ?_)
      refine ExO.callL [] [.sl (f_1.Uses.map (AV.int .i64)) none] rfl rfl (a_checkUses f_1.Uses) rfl rfl (d_checkUses N f_1.Uses r_14 hr_14) (b_checkUses _ _ _ _) rfl ?_
      refine rn 1 [2] (mkS 33 [(2, i6 r_14)]) ⟨[(C_Fund f_1)], []⟩ ?_
      refine ExO.nil ?_
      refine Ex.ret ?_
      obtain rfl := sJ h
      exact rt (i6 r_14)
def p_Check (N : Nat) (l_1 : T_Ledger) : Option (Int) := (bif (decide (((l_1.Funds.length : Nat) : Int) > 8)) then some 5 else (letJ (fun (_ : Unit) => (bif (decide (((l_1.Bills.length : Nat) : Int) > 8)) then some 5 else (letJ (fun (_ : Unit) => some 0) (fun k_15 => (loop1 (fun rec_19 (y_18 : Int) => (bif (decide (y_18 < ((l_1.Bills.length : Nat) : Int))) then ((getI l_1.Bills y_18).bind fun x_23 => (letJ (fun (y_24 : Bool) => (bif y_24 then some 2 else (rec_19 (IntKind.i64.wrap (y_18 + 1))))) (fun k_25 => ((p_isDate N x_23.Day).bind fun r_28 => (bif (!r_28) then (k_25 true) else ((p_isUse N x_23.Use).bind fun r_30 => (bif (!r_30) then (k_25 true) else ((p_isAmount N x_23.Amount).bind fun r_32 => (k_25 (!r_32)))))))))) else (k_15 ()))) N 0))))) (fun k_3 => (loop1 (fun rec_7 (y_6 : Int) => (bif (decide (y_6 < ((l_1.Funds.length : Nat) : Int))) then ((getI l_1.Funds y_6).bind fun x_11 => ((p_checkFund N x_11).bind fun r_12 => (bif (r_12 != 0) then some r_12 else (rec_7 (IntKind.i64.wrap (y_6 + 1)))))) else (k_3 ()))) N 0))))
def v_Check (r : Int) : AV := i6 r
attribute [local simp] v_Check
theorem a_Check (l_1 : T_Ledger) : [(A_Ledger l_1)].mapM (ren []) = some [(A_Ledger l_1)] := by simp
theorem b_Check (r : Int) (n n2 m : Nat) : back n n2 m (v_Check r) = some (v_Check r) := by simp
theorem d_Check (N : Nat) (l_1 : T_Ledger) (r : Int) (h : p_Check N l_1 = some r) : Does Try.prog 21 [(A_Ledger l_1)] [] fun v c => v = v_Check r ∧ c = [] := by
 unfold p_Check at h
 refine Does.ofL comp21 _ _ rfl rfl ?_
 refine Ex.seq (rg 2 [1] (mkS 53 [(1, .ptr 0 0)]) ⟨[(C_Ledger l_1)], []⟩ ?_)
 refine Ex.seq (Ex.seq ?_)
 refine regH 4 [(2, .eq (i6 ((l_1.Funds.length : Nat) : Int)))] [1, 11] [AV.int .i64 (((l_1.Funds.map A_Fund).length : Nat) : Int) = AV.int .i64 ((l_1.Funds.length : Nat) : Int)] (mkS 53 [(1, .ptr 0 0), (11, .bool (decide (((l_1.Funds.length : Nat) : Int) > 8)))]) (⟨[(C_Ledger l_1)], []⟩) (by kernel_rfl) ⟨lenM _ _, trivial⟩ rfl ?_
 rcases condI h with ⟨hc_2, h⟩ | ⟨hc_2, h⟩
 ·refine Ex.condT _ rfl hc_2 ?_
  refine Ex.seq (rg 1 [2] (mkS 53 [(2, i6 5)]) ⟨[(C_Ledger l_1)], []⟩ ?_)
  refine Ex.ret ?_
  obtain rfl := sJ h
  exact rt (i6 5)
 ·refine Ex.condF _ rfl hc_2 ?_
  refine Ex.skip ?_
  refine Ex.seq (Ex.seq ?_)
  refine regH 4 [(2, .eq (i6 ((l_1.Funds.length : Nat) : Int)))] [1, 13, 14, 15] [AV.int .i64 (((l_1.Funds.map A_Fund).length : Nat) : Int) = AV.int .i64 ((l_1.Funds.length : Nat) : Int)] (mkS 53 [(1, .ptr 0 0), (13, .sl (l_1.Funds.map A_Fund) none), (14, i6 ((l_1.Funds.length : Nat) : Int)), (15, i6 0)]) (⟨[(C_Ledger l_1)], []⟩) (by kernel_rfl) ⟨lenM _ _, trivial⟩ rfl ?_
  obtain ⟨K_4, hK_5, h⟩ := letE h
  refine Ex.blockJ (fun a S => K_4 () = some r ∧ a = mkS 53 [(1, .ptr 0 0)] ∧ S = ⟨[(C_Ledger l_1)], []⟩) ?_ ?_
  ·obtain ⟨B_8, hB_9, h⟩ := loop1I h
   refine Ex.loopF (fun k a S => ∃ (y_6 : Int), loop1 B_8 k y_6 = some r ∧ a = mkS 53 [(1, .ptr 0 0), (13, .sl (l_1.Funds.map A_Fund) none), (14, i6 ((l_1.Funds.length : Nat) : Int)), (15, i6 y_6)] ∧ S = ⟨[(C_Ledger l_1)], []⟩) N ⟨_, _, Forgets.refl _ _ _, 0, h, rfl, rfl⟩ ?_
   rintro k a S ⟨y_6, h, rfl, rfl⟩
   cases k with
   | zero => exact (loop1Z h).elim
   | succ k =>
    replace h := loop1S h hB_9
    refine Ex.seq (rg 1 [1, 13, 14, 15, 16] (mkS 53 [(1, .ptr 0 0), (13, .sl (l_1.Funds.map A_Fund) none), (14, i6 ((l_1.Funds.length : Nat) : Int)), (15, i6 y_6), (16, .bool (decide (y_6 < ((l_1.Funds.length : Nat) : Int))))]) ⟨[(C_Ledger l_1)], []⟩ ?_)
    refine Ex.seq ?_
    rcases condI h with ⟨hc_10, h⟩ | ⟨hc_10, h⟩
    ·refine Ex.condT _ rfl hc_10 ?_
     refine Ex.skip ?_
     refine Ex.seq ?_
     refine Ex.blockK ?_
     refine Ex.seq ?_
     obtain ⟨x_11, hx_11, h⟩ := bE h
     refine regH 4 [(0, .rop (C_Fund x_11))] [1, 4, 13, 14, 15] [LGet (l_1.Funds.map A_Fund) y_6 4 (C_Fund x_11)] (mkS 53 [(1, .ptr 0 0), (4, .ptr 1 0), (13, .sl (l_1.Funds.map A_Fund) none), (14, i6 ((l_1.Funds.length : Nat) : Int)), (15, i6 y_6)]) (⟨[(C_Ledger l_1), (C_Fund x_11)], []⟩) (by kernel_rfl) ⟨LGet.of hx_11 rfl, trivial⟩ rfl ?_
     refine Ex.seq ?_
     obtain ⟨r_12, hr_12, h⟩ := bE h
     refine Ex.reg (rn 1 [1, 13, 14, 15, 19] (mkS 53 [(1, .ptr 0 0), (13, .sl (l_1.Funds.map A_Fund) none), (14, i6 ((l_1.Funds.length : Nat) : Int)), (15, i6 y_6), (19, (A_Fund x_11))]) ⟨[(C_Ledger l_1), (C_Fund x_11)], []⟩ ?_)
     refine ExO.callL [] [(A_Fund x_11)] rfl rfl (a_checkFund x_11) rfl rfl (d_checkFund N x_11 r_12 hr_12) (b_checkFund _ _ _ _) rfl ?_
     refine rn 1 [1, 5, 13, 14, 15] (mkS 53 [(1, .ptr 0 0), (5, i6 r_12), (13, .sl (l_1.Funds.map A_Fund) none), (14, i6 ((l_1.Funds.length : Nat) : Int)), (15, i6 y_6)]) ⟨[(C_Ledger l_1), (C_Fund x_11)], []⟩ ?_
     refine ExO.nil ?_
     refine Ex.seq (rg 2 [1, 5, 13, 14, 15, 22] (mkS 53 [(1, .ptr 0 0), (5, i6 r_12), (13, .sl (l_1.Funds.map A_Fund) none), (14, i6 ((l_1.Funds.length : Nat) : Int)), (15, i6 y_6), (22, .bool (r_12 != 0))]) ⟨[(C_Ledger l_1), (C_Fund x_11)], []⟩ ?_)
     rcases condI h with ⟨hc_13, h⟩ | ⟨hc_13, h⟩
     ·refine Ex.condT _ rfl hc_13 ?_
      refine Ex.seq (rg 2 [2] (mkS 53 [(2, i6 r_12)]) ⟨[(C_Ledger l_1), (C_Fund x_11)], []⟩ ?_)
      refine Ex.ret ?_
      obtain rfl := sJ h
      exact rt (i6 r_12)
     ·refine Ex.condF _ rfl hc_13 ?_
      refine Ex.skip ?_
      refine rg 2 [1, 13, 14, 15] (mkS 53 [(1, .ptr 0 0), (13, .sl (l_1.Funds.map A_Fund) none), (14, i6 ((l_1.Funds.length : Nat) : Int)), (15, i6 (IntKind.i64.wrap (y_6 + 1)))]) ⟨[(C_Ledger l_1), (C_Fund x_11)], []⟩ ?_
      dsimp only
      exact ⟨_, _, forgetA (m := 53) 1 [] [(1, .ptr 0 0), (13, .sl (l_1.Funds.map A_Fund) none), (14, i6 ((l_1.Funds.length : Nat) : Int)), (15, i6 (IntKind.i64.wrap (y_6 + 1)))] [(C_Ledger l_1)] [] (by simp [setAll]) (by simp) ⟨rfl, (reN (KL_Fund _)), rfl, rfl, trivial⟩ (by simp) rfl (by decide), k, Nat.lt_succ_self k, (IntKind.i64.wrap (y_6 + 1)), h, rfl, rfl⟩
    ·refine Ex.condF _ rfl hc_10 ?_
     refine Ex.exit ?_
     (try simp only [reduceCtorEq, AEx.ex.injEq, Nat.reduceEqDiff, if_true, if_false])
     exact ⟨_, _, forgetK [1], h, rfl, rfl⟩
  ·rintro a S ⟨h, rfl, rfl⟩
   subst hK_5
   refine Ex.seq (Ex.seq ?_)
   refine regH 4 [(2, .eq (i6 ((l_1.Bills.length : Nat) : Int)))] [1, 28] [AV.int .i64 (((l_1.Bills.map A_Bill).length : Nat) : Int) = AV.int .i64 ((l_1.Bills.length : Nat) : Int)] (mkS 53 [(1, .ptr 0 0), (28, .bool (decide (((l_1.Bills.length : Nat) : Int) > 8)))]) (⟨[(C_Ledger l_1)], []⟩) (by kernel_rfl) ⟨lenM _ _, trivial⟩ rfl ?_
   rcases condI h with ⟨hc_14, h⟩ | ⟨hc_14, h⟩
   ·refine Ex.condT _ rfl hc_14 ?_
    refine Ex.seq (rg 1 [2] (mkS 53 [(2, i6 5)]) ⟨[(C_Ledger l_1)], []⟩ ?_)
    refine Ex.ret ?_
    obtain rfl := sJ h
    exact rt (i6 5)
   ·refine Ex.condF _ rfl hc_14 ?_
    refine Ex.skip ?_
    refine Ex.seq (Ex.seq ?_)
    refine regH 4 [(2, .eq (i6 ((l_1.Bills.length : Nat) : Int)))] [30, 31, 32] [AV.int .i64 (((l_1.Bills.map A_Bill).length : Nat) : Int) = AV.int .i64 ((l_1.Bills.length : Nat) : Int)] (mkS 53 [(30, .sl (l_1.Bills.map A_Bill) none), (31, i6 ((l_1.Bills.length : Nat) : Int)), (32, i6 0)]) (⟨[(C_Ledger l_1)], []⟩) (by kernel_rfl) ⟨lenM _ _, trivial⟩ rfl ?_
    obtain ⟨K_16, hK_17, h⟩ := letE h
    refine Ex.blockJ (fun a S => K_16 () = some r ∧ a = mkS 53 [] ∧ S = ⟨[], []⟩) ?_ ?_
    ·obtain ⟨B_20, hB_21, h⟩ := loop1I h
     refine Ex.loopF (fun k a S => ∃ (y_18 : Int), loop1 B_20 k y_18 = some r ∧ a = mkS 53 [(30, .sl (l_1.Bills.map A_Bill) none), (31, i6 ((l_1.Bills.length : Nat) : Int)), (32, i6 y_18)] ∧ S = ⟨[], []⟩) N ⟨_, _, forgetA (m := 53) 0 [] [(30, .sl (l_1.Bills.map A_Bill) none), (31, i6 ((l_1.Bills.length : Nat) : Int)), (32, i6 0)] [] [] (by simp [setAll]) (by simp) ⟨(reN (KL_Bill _)), rfl, rfl, trivial⟩ (by simp) rfl (by decide), 0, h, rfl, rfl⟩ ?_
     rintro k a S ⟨y_18, h, rfl, rfl⟩
     cases k with
     | zero => exact (loop1Z h).elim
     | succ k =>
      replace h := loop1S h hB_21
      refine Ex.seq (rg 1 [30, 31, 32, 33] (mkS 53 [(30, .sl (l_1.Bills.map A_Bill) none), (31, i6 ((l_1.Bills.length : Nat) : Int)), (32, i6 y_18), (33, .bool (decide (y_18 < ((l_1.Bills.length : Nat) : Int))))]) ⟨[], []⟩ ?_)
      refine Ex.seq ?_
      rcases condI h with ⟨hc_22, h⟩ | ⟨hc_22, h⟩
      ·refine Ex.condT _ rfl hc_22 ?_
       refine Ex.skip ?_
       refine Ex.seq ?_
       refine Ex.blockK ?_
       refine Ex.seq ?_
       obtain ⟨x_23, hx_23, h⟩ := bE h
       refine regH 4 [(0, .rop (C_Bill x_23))] [7, 30, 31, 32] [LGet (l_1.Bills.map A_Bill) y_18 3 (C_Bill x_23)] (mkS 53 [(7, .ptr 0 0), (30, .sl (l_1.Bills.map A_Bill) none), (31, i6 ((l_1.Bills.length : Nat) : Int)), (32, i6 y_18)]) (⟨[(C_Bill x_23)], []⟩) (by kernel_rfl) ⟨LGet.of hx_23 rfl, trivial⟩ rfl ?_
       obtain ⟨K_26, hK_27, h⟩ := letE h
       refine Ex.seqJ (fun a S => ∃ (y_24 : Bool), K_26 y_24 = some r ∧ a = mkS 53 [(30, .sl (l_1.Bills.map A_Bill) none), (31, i6 ((l_1.Bills.length : Nat) : Int)), (32, i6 y_18), (51, .bool y_24)] ∧ S = ⟨[], []⟩) ?_ ?_
       ·obtain ⟨r_28, hr_28, h⟩ := bE h
        refine Ex.reg (rn 2 [7, 30, 31, 32, 37] (mkS 53 [(7, .ptr 0 0), (30, .sl (l_1.Bills.map A_Bill) none), (31, i6 ((l_1.Bills.length : Nat) : Int)), (32, i6 y_18), (37, i6 x_23.Day)]) ⟨[(C_Bill x_23)], []⟩ ?_)
        refine ExO.callL [] [i6 x_23.Day] rfl rfl (a_isDate x_23.Day) rfl rfl (d_isDate N x_23.Day r_28 hr_28) (b_isDate _ _ _ _) rfl ?_
        rcases condI h with ⟨hc_29, h⟩ | ⟨hc_29, h⟩
        ·refine runH 13 [(1, .eq (.bool true))] [30, 31, 32, 51] [AV.bool (!r_28) = AV.bool true] (mkS 53 [(30, .sl (l_1.Bills.map A_Bill) none), (31, i6 ((l_1.Bills.length : Nat) : Int)), (32, i6 y_18), (51, .bool true)]) (⟨[(C_Bill x_23)], []⟩) (by kernel_rfl) ⟨congrArg AV.bool hc_29, trivial⟩ ?_
         refine ExO.nil ?_
         (try simp only [reduceCtorEq, AEx.ex.injEq, Nat.reduceEqDiff, if_true, if_false])
         exact ⟨_, _, forgetA (m := 53) 0 [] [(30, .sl (l_1.Bills.map A_Bill) none), (31, i6 ((l_1.Bills.length : Nat) : Int)), (32, i6 y_18), (51, .bool true)] [] [] (by simp [setAll]) (by simp) ⟨(reN (KL_Bill _)), rfl, rfl, rfl, trivial⟩ (by simp) rfl (by decide), true, h, rfl, rfl⟩
        ·obtain ⟨r_30, hr_30, h⟩ := bE h
         refine runH 4 [(1, .eq (.bool false))] [7, 30, 31, 32, 40, 42] [AV.bool (!r_28) = AV.bool false] (mkS 53 [(7, .ptr 0 0), (30, .sl (l_1.Bills.map A_Bill) none), (31, i6 ((l_1.Bills.length : Nat) : Int)), (32, i6 y_18), (40, .bool false), (42, i6 x_23.Use)]) (⟨[(C_Bill x_23)], []⟩) (by kernel_rfl) ⟨congrArg AV.bool hc_29, trivial⟩ ?_
         refine ExO.callL [] [i6 x_23.Use] rfl rfl (a_isUse x_23.Use) rfl rfl (d_isUse N x_23.Use r_30 hr_30) (b_isUse _ _ _ _) rfl ?_
         rcases condI h with ⟨hc_31, h⟩ | ⟨hc_31, h⟩
         ·refine runH 8 [(2, .eq (.bool true))] [30, 31, 32, 51] [AV.bool (!r_30) = AV.bool true] (mkS 53 [(30, .sl (l_1.Bills.map A_Bill) none), (31, i6 ((l_1.Bills.length : Nat) : Int)), (32, i6 y_18), (51, .bool true)]) (⟨[(C_Bill x_23)], []⟩) (by kernel_rfl) ⟨congrArg AV.bool hc_31, trivial⟩ ?_
          refine ExO.nil ?_
          (try simp only [reduceCtorEq, AEx.ex.injEq, Nat.reduceEqDiff, if_true, if_false])
          exact ⟨_, _, forgetA (m := 53) 0 [] [(30, .sl (l_1.Bills.map A_Bill) none), (31, i6 ((l_1.Bills.length : Nat) : Int)), (32, i6 y_18), (51, .bool true)] [] [] (by simp [setAll]) (by simp) ⟨(reN (KL_Bill _)), rfl, rfl, rfl, trivial⟩ (by simp) rfl (by decide), true, h, rfl, rfl⟩
         ·obtain ⟨r_32, hr_32, h⟩ := bE h
          refine runH 5 [(2, .eq (.bool false))] [30, 31, 32, 46, 48] [AV.bool (!r_30) = AV.bool false] (mkS 53 [(30, .sl (l_1.Bills.map A_Bill) none), (31, i6 ((l_1.Bills.length : Nat) : Int)), (32, i6 y_18), (46, .bool false), (48, i6 x_23.Amount)]) (⟨[(C_Bill x_23)], []⟩) (by kernel_rfl) ⟨congrArg AV.bool hc_31, trivial⟩ ?_
          refine ExO.callL [] [i6 x_23.Amount] rfl rfl (a_isAmount x_23.Amount) rfl rfl (d_isAmount N x_23.Amount r_32 hr_32) (b_isAmount _ _ _ _) rfl ?_
          refine rn 2 [30, 31, 32, 51] (mkS 53 [(30, .sl (l_1.Bills.map A_Bill) none), (31, i6 ((l_1.Bills.length : Nat) : Int)), (32, i6 y_18), (51, .bool (!r_32))]) ⟨[(C_Bill x_23)], []⟩ ?_
          refine ExO.nil ?_
          (try simp only [reduceCtorEq, AEx.ex.injEq, Nat.reduceEqDiff, if_true, if_false])
          exact ⟨_, _, forgetA (m := 53) 0 [] [(30, .sl (l_1.Bills.map A_Bill) none), (31, i6 ((l_1.Bills.length : Nat) : Int)), (32, i6 y_18), (51, .bool (!r_32))] [] [] (by simp [setAll]) (by simp) ⟨(reN (KL_Bill _)), rfl, rfl, rfl, trivial⟩ (by simp) rfl (by decide), (!r_32), h, rfl, rfl⟩
       ·rintro a S ⟨y_24, h, rfl, rfl⟩
        subst hK_27
        rcases condI h with ⟨hc_33, h⟩ | ⟨hc_33, h⟩
        ·refine Ex.condT _ rfl hc_33 ?_
         refine Ex.seq (rg 1 [2] (mkS 53 [(2, i6 2)]) ⟨[], []⟩ ?_)
         refine Ex.ret ?_
         obtain rfl := sJ h
         exact rt (i6 2)
        ·refine Ex.condF _ rfl hc_33 ?_
         refine Ex.skip ?_
         refine rg 2 [30, 31, 32] (mkS 53 [(30, .sl (l_1.Bills.map A_Bill) none), (31, i6 ((l_1.Bills.length : Nat) : Int)), (32, i6 (IntKind.i64.wrap (y_18 + 1)))]) ⟨[], []⟩ ?_
         dsimp only
         exact ⟨_, _, Forgets.refl _ _ _, k, Nat.lt_succ_self k, (IntKind.i64.wrap (y_18 + 1)), h, rfl, rfl⟩
      ·refine Ex.condF _ rfl hc_22 ?_
       refine Ex.exit ?_
       (try simp only [reduceCtorEq, AEx.ex.injEq, Nat.reduceEqDiff, if_true, if_false])
       exact ⟨_, _, forgetK [], h, rfl, rfl⟩
    ·rintro a S ⟨h, rfl, rfl⟩
     subst hK_17
     refine Ex.seq (rg 1 [2] (mkS 53 [(2, i6 0)]) ⟨[], []⟩ ?_)
     refine Ex.ret ?_
     obtain rfl := sJ h
     exact rt (i6 0)
def p_slices_Values_int_int (N : Nat) (s_1 : (List Int)) : Option ((List Int)) := some s_1
def v_slices_Values_int_int (r : (List Int)) : AV := .fn 98 [] [.rop [.sl (r.map (AV.int .i64)) none]]
attribute [local simp] v_slices_Values_int_int
theorem a_slices_Values_int_int (s_1 : (List Int)) : [.sl (s_1.map (AV.int .i64)) none].mapM (ren []) = some [.sl (s_1.map (AV.int .i64)) none] := by simp
theorem b_slices_Values_int_int (r : (List Int)) (n n2 m : Nat) : back n n2 m (v_slices_Values_int_int r) = some (v_slices_Values_int_int r) := by simp
theorem d_slices_Values_int_int (N : Nat) (s_1 : (List Int)) (r : (List Int)) (h : p_slices_Values_int_int N s_1 = some r) : Does Try.prog 88 [.sl (s_1.map (AV.int .i64)) none] [] fun v c => v = v_slices_Values_int_int r ∧ c = [] := by
 unfold p_slices_Values_int_int at h
 refine Does.ofL comp88 _ _ rfl rfl ?_
 refine Ex.seq (rg 2 [1] (mkS 4 [(1, .ptr 0 0)]) ⟨[[.sl (s_1.map (AV.int .i64)) none]], []⟩ ?_)
 refine Ex.seq (rg 2 [2] (mkS 4 [(2, .fn 98 [] [.ptr 0 0])]) ⟨[[.sl (s_1.map (AV.int .i64)) none]], []⟩ ?_)
 refine Ex.forget (forgetK [2]) ?_
 refine Ex.castA (a2 := mkS 4 [(2, .fn 98 [] [.ptr 0 0])]) (S2 := ⟨[[.sl (s_1.map (AV.int .i64)) none]], []⟩) (by kernel_rfl) (by kernel_rfl) ?_
 obtain rfl := sJ h
 refine Ex.forget (chillP 2 0 [.sl (s_1.map (AV.int .i64)) none] _ rfl rfl) ?_
 refine Ex.castA (a2 := mkS 4 [(2, .fn 98 [] [.rop [.sl (s_1.map (AV.int .i64)) none]])]) (S2 := ⟨[[]], []⟩) (by kernel_rfl) (by kernel_rfl) ?_
 refine Ex.ret ?_
 exact rt (.fn 98 [] [.rop [.sl (s_1.map (AV.int .i64)) none]])
def p_total_1 (N : Nat) (n_1 : Int) : Option (Int) := some n_1
def v_total_1 (r : Int) : AV := i6 r
attribute [local simp] v_total_1
theorem b_total_1 (r : Int) (n n2 m : Nat) : back n n2 m (v_total_1 r) = some (v_total_1 r) := by simp
theorem d_total_1 (N : Nat) (n_1 : Int) (r : Int) (h : p_total_1 N n_1 = some r) : Does Try.prog 89 [i6 n_1] [] fun v c => v = v_total_1 r ∧ c = [] := by
 unfold p_total_1 at h
 refine Does.ofL comp89 _ _ rfl rfl ?_
 refine Ex.seq (rg 1 [0] (mkS 4 [(0, i6 n_1)]) ⟨[], []⟩ ?_)
 refine Ex.seq (rg 2 [2] (mkS 4 [(2, i6 n_1)]) ⟨[], []⟩ ?_)
 refine Ex.ret ?_
 obtain rfl := sJ h
 exact rt (i6 n_1)
def p_sum_int_slices_Values_int_int_1r_total_1 (N : Nat) (a_1 : (List Int)) : Option (Int) := (letJ (fun (b_9 : Int) => some b_9) (fun k_10 => (letJ (fun (b_13 : Int) => (k_10 b_13)) (fun k_14 => (loop2 (fun rec_19 (y_17 : Int) (b_18 : Int) => (bif (decide (y_17 < ((a_1.length : Nat) : Int))) then ((getI a_1 y_17).bind fun x_23 => (letJ (fun (b_32 : Int) => (rec_19 (IntKind.i64.wrap (y_17 + 1)) b_32)) (fun k_33 => ((p_total_1 N x_23).bind fun r_36 => (k_33 (IntKind.i64.wrap (b_18 + r_36))))))) else (k_14 b_18))) N 0 0)))))
def v_sum_int_slices_Values_int_int_1r_total_1 (r : Int) : AV := i6 r
attribute [local simp] v_sum_int_slices_Values_int_int_1r_total_1
theorem b_sum_int_slices_Values_int_int_1r_total_1 (r : Int) (n n2 m : Nat) : back n n2 m (v_sum_int_slices_Values_int_int_1r_total_1 r) = some (v_sum_int_slices_Values_int_int_1r_total_1 r) := by simp
theorem d_sum_int_slices_Values_int_int_1r_total_1 (N : Nat) (a_1 : (List Int)) (r : Int) (h : p_sum_int_slices_Values_int_int_1r_total_1 N a_1 = some r) : Does Try.prog 87 [.fn 98 [] [.rop [.sl (a_1.map (AV.int .i64)) none]], .fn 89 [] []] [] fun v c => v = v_sum_int_slices_Values_int_int_1r_total_1 r ∧ c = [] := by
 unfold p_sum_int_slices_Values_int_int_1r_total_1 at h
 refine Does.ofL comp87 _ _ rfl rfl ?_
 refine Ex.seq (rg 2 [0, 3, 4] (mkS 15 [(0, .fn 98 [] [.rop [.sl (a_1.map (AV.int .i64)) none]]), (3, .ptr 0 0), (4, i6 0)]) ⟨[[.fn 89 [] []]], []⟩ ?_)
 refine Ex.seq (rg 2 [0, 3, 4, 5] (mkS 15 [(0, .fn 98 [] [.rop [.sl (a_1.map (AV.int .i64)) none]]), (3, .ptr 0 0), (4, i6 0), (5, .ptr 1 0)]) ⟨[[.fn 89 [] []], [i6 0]], []⟩ ?_)
 refine Ex.seq (Ex.seq ?_)
 refine rg 1 [3, 4, 5, 7] (mkS 15 [(3, .ptr 0 0), (4, i6 0), (5, .ptr 1 0), (7, .fn 98 [] [.rop [.sl (a_1.map (AV.int .i64)) none]])]) ⟨[[.fn 89 [] []], [i6 0]], []⟩ ?_
 refine Ex.blockK ?_
 obtain ⟨K_11, hK_12, h⟩ := letE h
 refine Ex.rangeJ (fun k S => (k = 0 ∧ ∃ (b_9 : Int), K_11 b_9 = some r ∧ S = ⟨[[.fn 89 [] []], [i6 b_9]], [(0, 0)]⟩)) 98 [.rop [.sl (a_1.map (AV.int .i64)) none]] _ rfl comp98 rfl (by simp [setAll]) (by exact trivial) (mkS 16 [(1, .rop [.sl (a_1.map (AV.int .i64)) none]), (2, .tup []), (3, .tup []), (4, .tup []), (5, .tup []), (6, .tup []), (7, .tup []), (8, .tup []), (9, .tup []), (10, .tup []), (11, .tup []), (12, .tup []), (13, .tup []), (14, .tup []), (15, .tup [])]) (⟨[[.fn 89 [] []], [i6 0]], [(0, 0)]⟩) (fun _ => by kernel_rfl) (by kernel_rfl) ?_ ?_
 ·intro cx_3 Lp_2 hcn_4 hcm_5 hLt_6 hL_7 hup_8
  refine Ex.castA (a2 := mkS 16 [(0, .yld Lp_2.l 0), (1, .rop [.sl (a_1.map (AV.int .i64)) none]), (2, .tup []), (3, .tup []), (4, .tup []), (5, .tup []), (6, .tup []), (7, .tup []), (8, .tup []), (9, .tup []), (10, .tup []), (11, .tup []), (12, .tup []), (13, .tup []), (14, .tup []), (15, .tup [])]) (S2 := ⟨[[.fn 89 [] []], [i6 0]], [(0, 0)]⟩) (by kernel_rfl) rfl ?_
  refine Ex.seq ?_
  refine regH 3 [(1, .eq (i6 ((a_1.length : Nat) : Int)))] [0, 5, 6, 7] [AV.int .i64 (((a_1.map (AV.int .i64)).length : Nat) : Int) = AV.int .i64 ((a_1.length : Nat) : Int)] (mkS 16 [(0, .yld Lp_2.l 0), (5, .sl (a_1.map (AV.int .i64)) none), (6, i6 ((a_1.length : Nat) : Int)), (7, i6 0)]) (⟨[[.fn 89 [] []], [i6 0]], [(0, 0)]⟩) (by kernel_rfl) ⟨lenM _ _, trivial⟩ rfl ?_
  obtain ⟨K_15, hK_16, h⟩ := letE h
  refine Ex.blockJ (fun a S => ∃ (b_13 : Int), K_15 b_13 = some r ∧ a = mkS 16 [] ∧ S = ⟨[[.fn 89 [] []], [i6 b_13]], [(0, 0)]⟩) ?_ ?_
  ·obtain ⟨B_20, hB_21, h⟩ := loop2I h
   refine Ex.loopF (fun k a S => ∃ (y_17 : Int), ∃ (b_18 : Int), loop2 B_20 k y_17 b_18 = some r ∧ a = mkS 16 [(0, .yld Lp_2.l 0), (5, .sl (a_1.map (AV.int .i64)) none), (6, i6 ((a_1.length : Nat) : Int)), (7, i6 y_17)] ∧ S = ⟨[[.fn 89 [] []], [i6 b_18]], [(0, 0)]⟩) N ⟨_, _, Forgets.refl _ _ _, 0, 0, h, rfl, rfl⟩ ?_
   rintro k a S ⟨y_17, b_18, h, rfl, rfl⟩
   cases k with
   | zero => exact (loop2Z h).elim
   | succ k =>
    replace h := loop2S h hB_21
    refine Ex.seq (rg 1 [0, 5, 6, 7, 8] (mkS 16 [(0, .yld Lp_2.l 0), (5, .sl (a_1.map (AV.int .i64)) none), (6, i6 ((a_1.length : Nat) : Int)), (7, i6 y_17), (8, .bool (decide (y_17 < ((a_1.length : Nat) : Int))))]) ⟨[[.fn 89 [] []], [i6 b_18]], [(0, 0)]⟩ ?_)
    refine Ex.seq ?_
    rcases condI h with ⟨hc_22, h⟩ | ⟨hc_22, h⟩
    ·refine Ex.condT _ rfl hc_22 ?_
     refine Ex.skip ?_
     refine Ex.seq ?_
     refine Ex.blockK ?_
     refine Ex.seq ?_
     obtain ⟨x_23, hx_23, h⟩ := bE h
     refine regH 3 [(0, .rop [i6 x_23])] [0, 4, 5, 6, 7] [LGet (a_1.map (AV.int .i64)) y_17 1 [i6 x_23]] (mkS 16 [(0, .yld Lp_2.l 0), (4, i6 x_23), (5, .sl (a_1.map (AV.int .i64)) none), (6, i6 ((a_1.length : Nat) : Int)), (7, i6 y_17)]) (⟨[[.fn 89 [] []], [i6 b_18]], [(0, 0)]⟩) (by kernel_rfl) ⟨LGet.of hx_23 rfl, trivial⟩ rfl ?_
     refine Ex.seq ?_
     refine Ex.regI ?_
     refine runI 2 [] [0, 5, 6, 7, 11, 12] [] (mkS 16 [(0, .yld Lp_2.l 0), (5, .sl (a_1.map (AV.int .i64)) none), (6, i6 ((a_1.length : Nat) : Int)), (7, i6 y_17), (11, .yld Lp_2.l 0), (12, i6 x_23)]) (⟨[[.fn 89 [] []], [i6 b_18]], [(0, 0)]⟩) (by kernel_rfl) trivial ?_
     obtain ⟨K_34, hK_35, h⟩ := letE h
     refine ExI.yieldT 0 hLt_6 hL_7 [i6 x_23] rfl rfl rfl (by kernel_rfl) rfl rfl (leC hcn_4 (by simp [setAll])) ?_
     intro ca_24 cb_25 ha_26 hb_27 hma_28 hmb_29 hup_30 hbz_31
     refine Ex.castA (a2 := mkS 15 [(3, .ptr 0 0), (4, i6 0), (5, .ptr 1 0), (7, .fn 98 [] [.rop [.sl (a_1.map (AV.int .i64)) none]]), (8, i6 x_23)]) (S2 := ⟨[[.fn 89 [] []], [i6 b_18]], [(0, 0)]⟩) (by kernel_rfl) (by kernel_rfl) ?_
     refine Ex.two (fun z S => (z = AEx.norm ∧ ∃ (b_32 : Int), K_34 b_32 = some r ∧ S = ⟨[[.fn 89 [] []], [i6 b_32]], [(0, 0)]⟩)) ?_ ?_
     ·refine rg 1 [3, 5, 6] (mkS 15 [(3, .ptr 0 0), (5, .ptr 1 0), (6, i6 x_23)]) ⟨[[.fn 89 [] []], [i6 b_18]], [(0, 0)]⟩ ?_
      refine ⟨rfl, rfl, ?_⟩
      refine Ex.blockK ?_
      obtain ⟨r_36, hr_36, h⟩ := bE h
      have hT_37 : DoesA Try.prog [⟨89, [i6 x_23], [], (v_total_1 r_36), []⟩] ∧ ConsA [⟨89, [i6 x_23], [], (v_total_1 r_36), []⟩] := ⟨⟨(d_total_1 N x_23 r_36 hr_36), rfl, trivial⟩, ⟨trivial, trivial⟩⟩
      refine Ex.drawE (a1 := mkS 15 [(3, .ptr 0 0), (5, .ptr 1 0), (6, i6 x_23), (9, i6 b_18), (10, .fn 89 [] []), (11, i6 x_23), (12, i6 r_36)]) (tabO_ok hT_37.1) [] [] [] ?_ ?_
      ·refine drS [0, 1] 3 [] [] (mkS 15 [(3, .ptr 0 0), (5, .ptr 1 0), (6, i6 x_23), (9, i6 b_18), (10, .fn 89 [] []), (11, i6 x_23)]) (by simp) (by kernel_rfl) trivial (by kernel_rfl) ?_
       refine drC hT_37.2 0 _ [i6 x_23] (v_total_1 r_36) rfl rfl rfl rfl rfl (fun _ => rfl) rfl (by simp; try rfl) (fun _ => b_total_1 _ _ _ _) ?_
       exact DrO.nil rfl
      ·dsimp only [List.getLastD_cons, List.getLastD_nil]
       refine rn 2 [] (mkS 15 []) ⟨[[.fn 89 [] []], [i6 (IntKind.i64.wrap (b_18 + r_36))]], [(0, 0)]⟩ ?_
       refine ExO.nil ?_
       (try simp only [reduceCtorEq, AEx.ex.injEq, Nat.reduceEqDiff, if_true, if_false])
       exact ⟨_, _, Forgets.refl _ _ _, ⟨by first | rfl | trivial, (IntKind.i64.wrap (b_18 + r_36)), h, rfl⟩⟩
     ·rintro z a2 S (⟨rfl, b_32, h, rfl⟩)
      subst hK_35
      refine runI 1 [] [0, 5, 6, 7, 14] [] (mkS 16 [(0, .yld Lp_2.l 0), (5, .sl (a_1.map (AV.int .i64)) none), (6, i6 ((a_1.length : Nat) : Int)), (7, i6 y_17), (14, .bool false)]) (⟨[[.fn 89 [] []], [i6 b_32]], [(0, 0)]⟩) (by kernel_rfl) trivial ?_
      refine ExI.nil ?_
      refine Ex.cond (b := false) rfl ?_
      refine Ex.skip ?_
      refine rg 2 [0, 5, 6, 7] (mkS 16 [(0, .yld Lp_2.l 0), (5, .sl (a_1.map (AV.int .i64)) none), (6, i6 ((a_1.length : Nat) : Int)), (7, i6 (IntKind.i64.wrap (y_17 + 1)))]) ⟨[[.fn 89 [] []], [i6 b_32]], [(0, 0)]⟩ ?_
      dsimp only
      exact ⟨_, _, Forgets.refl _ _ _, k, Nat.lt_succ_self k, (IntKind.i64.wrap (y_17 + 1)), b_32, h, rfl, rfl⟩
    ·refine Ex.condF _ rfl hc_22 ?_
     refine Ex.exit ?_
     (try simp only [reduceCtorEq, AEx.ex.injEq, Nat.reduceEqDiff, if_true, if_false])
     exact ⟨_, _, forgetK [], b_18, h, rfl, rfl⟩
  ·rintro a S ⟨b_13, h, rfl, rfl⟩
   subst hK_16
   exact ⟨_, _, Forgets.refl _ _ _, .inl rfl, 0, rfl, ⟨by first | rfl | trivial, b_13, h, rfl⟩⟩
 ·rintro k S (⟨rfl, b_9, h, rfl⟩)
  subst hK_12
  refine Ex.seq (rg 2 [4] (mkS 15 [(4, i6 b_9)]) ⟨[[.fn 89 [] []], [i6 b_9]], [(0, 0)]⟩ ?_)
  refine Ex.ret ?_
  obtain rfl := sJ h
  exact rt (i6 b_9)
def p_total (N : Nat) (numbers_1 : (List Int)) : Option (Int) := ((p_slices_Values_int_int N numbers_1).bind fun r_2 => ((p_sum_int_slices_Values_int_int_1r_total_1 N r_2).bind fun r_3 => some r_3))
def v_total (r : Int) : AV := i6 r
attribute [local simp] v_total
theorem a_total (numbers_1 : (List Int)) : [.sl (numbers_1.map (AV.int .i64)) none].mapM (ren []) = some [.sl (numbers_1.map (AV.int .i64)) none] := by simp
theorem b_total (r : Int) (n n2 m : Nat) : back n n2 m (v_total r) = some (v_total r) := by simp
theorem d_total (N : Nat) (numbers_1 : (List Int)) (r : Int) (h : p_total N numbers_1 = some r) : Does Try.prog 67 [.sl (numbers_1.map (AV.int .i64)) none] [] fun v c => v = v_total r ∧ c = [] := by
 unfold p_total at h
 refine Does.ofL comp67 _ _ rfl rfl ?_
 refine Ex.seq (rg 1 [0] (mkS 6 [(0, .sl (numbers_1.map (AV.int .i64)) none)]) ⟨[], []⟩ ?_)
 refine Ex.seq ?_
 obtain ⟨r_2, hr_2, h⟩ := bE h
 refine Ex.reg (rn 1 [3] (mkS 6 [(3, .sl (numbers_1.map (AV.int .i64)) none)]) ⟨[], []⟩ ?_)
 refine ExO.callL [] [.sl (numbers_1.map (AV.int .i64)) none] rfl rfl (a_slices_Values_int_int numbers_1) rfl rfl (d_slices_Values_int_int N numbers_1 r_2 hr_2) (b_slices_Values_int_int _ _ _ _) rfl ?_
 obtain ⟨r_3, hr_3, h⟩ := bE h
 refine ExO.callL [] [.fn 98 [] [.rop [.sl (r_2.map (AV.int .i64)) none]], .fn 89 [] []] rfl rfl (by simp; try rfl) rfl rfl (d_sum_int_slices_Values_int_int_1r_total_1 N r_2 r_3 hr_3) (b_sum_int_slices_Values_int_int_1r_total_1 _ _ _ _) rfl ?_
 refine rn 1 [2] (mkS 6 [(2, i6 r_3)]) ⟨[], []⟩ ?_
 refine ExO.nil ?_
 refine Ex.ret ?_
 obtain rfl := sJ h
 exact rt (i6 r_3)
def p_checkRaffle (N : Nat) (tickets_1 : (List Int)) (secrets_2 : (List Int)) : Option (Int) := (bif (decide (((tickets_1.length : Nat) : Int) > 12)) then some 5 else (letJ (fun (_ : Unit) => (bif (((secrets_2.length : Nat) : Int) != ((tickets_1.length : Nat) : Int)) then some 1 else (letJ (fun (_ : Unit) => ((p_total N tickets_1).bind fun r_27 => (bif (r_27 == 0) then some 4 else some 0))) (fun k_16 => (loop1 (fun rec_20 (y_19 : Int) => (bif (decide (y_19 < ((secrets_2.length : Nat) : Int))) then ((getI secrets_2 y_19).bind fun x_24 => ((p_within N x_24 0 1000000000).bind fun r_25 => (bif (!r_25) then some 2 else (rec_20 (IntKind.i64.wrap (y_19 + 1)))))) else (k_16 ()))) N 0))))) (fun k_4 => (loop1 (fun rec_8 (y_7 : Int) => (bif (decide (y_7 < ((tickets_1.length : Nat) : Int))) then ((getI tickets_1 y_7).bind fun x_12 => ((p_within N x_12 0 1000).bind fun r_13 => (bif (!r_13) then some 2 else (rec_8 (IntKind.i64.wrap (y_7 + 1)))))) else (k_4 ()))) N 0))))
def v_checkRaffle (r : Int) : AV := i6 r
attribute [local simp] v_checkRaffle
theorem a_checkRaffle (tickets_1 : (List Int)) (secrets_2 : (List Int)) : [.sl (tickets_1.map (AV.int .i64)) none, .sl (secrets_2.map (AV.int .i64)) none].mapM (ren []) = some [.sl (tickets_1.map (AV.int .i64)) none, .sl (secrets_2.map (AV.int .i64)) none] := by simp
theorem b_checkRaffle (r : Int) (n n2 m : Nat) : back n n2 m (v_checkRaffle r) = some (v_checkRaffle r) := by simp
theorem d_checkRaffle (N : Nat) (tickets_1 : (List Int)) (secrets_2 : (List Int)) (r : Int) (h : p_checkRaffle N tickets_1 secrets_2 = some r) : Does Try.prog 66 [.sl (tickets_1.map (AV.int .i64)) none, .sl (secrets_2.map (AV.int .i64)) none] [] fun v c => v = v_checkRaffle r ∧ c = [] := by
 unfold p_checkRaffle at h
 refine Does.ofL comp66 _ _ rfl rfl ?_
 refine Ex.seq (rg 1 [0, 1] (mkS 40 [(0, .sl (tickets_1.map (AV.int .i64)) none), (1, .sl (secrets_2.map (AV.int .i64)) none)]) ⟨[], []⟩ ?_)
 refine Ex.seq (Ex.seq ?_)
 refine regH 3 [(1, .eq (i6 ((tickets_1.length : Nat) : Int)))] [0, 1, 11] [AV.int .i64 (((tickets_1.map (AV.int .i64)).length : Nat) : Int) = AV.int .i64 ((tickets_1.length : Nat) : Int)] (mkS 40 [(0, .sl (tickets_1.map (AV.int .i64)) none), (1, .sl (secrets_2.map (AV.int .i64)) none), (11, .bool (decide (((tickets_1.length : Nat) : Int) > 12)))]) (⟨[], []⟩) (by kernel_rfl) ⟨lenM _ _, trivial⟩ rfl ?_
 rcases condI h with ⟨hc_3, h⟩ | ⟨hc_3, h⟩
 ·refine Ex.condT _ rfl hc_3 ?_
  refine Ex.seq (rg 1 [4] (mkS 40 [(4, i6 5)]) ⟨[], []⟩ ?_)
  refine Ex.ret ?_
  obtain rfl := sJ h
  exact rt (i6 5)
 ·refine Ex.condF _ rfl hc_3 ?_
  refine Ex.skip ?_
  refine Ex.seq (Ex.seq ?_)
  refine regH 3 [(1, .eq (i6 ((tickets_1.length : Nat) : Int)))] [0, 1, 12, 13, 14] [AV.int .i64 (((tickets_1.map (AV.int .i64)).length : Nat) : Int) = AV.int .i64 ((tickets_1.length : Nat) : Int)] (mkS 40 [(0, .sl (tickets_1.map (AV.int .i64)) none), (1, .sl (secrets_2.map (AV.int .i64)) none), (12, .sl (tickets_1.map (AV.int .i64)) none), (13, i6 ((tickets_1.length : Nat) : Int)), (14, i6 0)]) (⟨[], []⟩) (by kernel_rfl) ⟨lenM _ _, trivial⟩ rfl ?_
  obtain ⟨K_5, hK_6, h⟩ := letE h
  refine Ex.blockJ (fun a S => K_5 () = some r ∧ a = mkS 40 [(0, .sl (tickets_1.map (AV.int .i64)) none), (1, .sl (secrets_2.map (AV.int .i64)) none)] ∧ S = ⟨[], []⟩) ?_ ?_
  ·obtain ⟨B_9, hB_10, h⟩ := loop1I h
   refine Ex.loopF (fun k a S => ∃ (y_7 : Int), loop1 B_9 k y_7 = some r ∧ a = mkS 40 [(0, .sl (tickets_1.map (AV.int .i64)) none), (1, .sl (secrets_2.map (AV.int .i64)) none), (12, .sl (tickets_1.map (AV.int .i64)) none), (13, i6 ((tickets_1.length : Nat) : Int)), (14, i6 y_7)] ∧ S = ⟨[], []⟩) N ⟨_, _, Forgets.refl _ _ _, 0, h, rfl, rfl⟩ ?_
   rintro k a S ⟨y_7, h, rfl, rfl⟩
   cases k with
   | zero => exact (loop1Z h).elim
   | succ k =>
    replace h := loop1S h hB_10
    refine Ex.seq (rg 1 [0, 1, 12, 13, 14, 15] (mkS 40 [(0, .sl (tickets_1.map (AV.int .i64)) none), (1, .sl (secrets_2.map (AV.int .i64)) none), (12, .sl (tickets_1.map (AV.int .i64)) none), (13, i6 ((tickets_1.length : Nat) : Int)), (14, i6 y_7), (15, .bool (decide (y_7 < ((tickets_1.length : Nat) : Int))))]) ⟨[], []⟩ ?_)
    refine Ex.seq ?_
    rcases condI h with ⟨hc_11, h⟩ | ⟨hc_11, h⟩
    ·refine Ex.condT _ rfl hc_11 ?_
     refine Ex.skip ?_
     refine Ex.seq ?_
     refine Ex.blockK ?_
     refine Ex.seq ?_
     obtain ⟨x_12, hx_12, h⟩ := bE h
     refine regH 3 [(0, .rop [i6 x_12])] [0, 1, 6, 12, 13, 14] [LGet (tickets_1.map (AV.int .i64)) y_7 1 [i6 x_12]] (mkS 40 [(0, .sl (tickets_1.map (AV.int .i64)) none), (1, .sl (secrets_2.map (AV.int .i64)) none), (6, i6 x_12), (12, .sl (tickets_1.map (AV.int .i64)) none), (13, i6 ((tickets_1.length : Nat) : Int)), (14, i6 y_7)]) (⟨[], []⟩) (by kernel_rfl) ⟨LGet.of hx_12 rfl, trivial⟩ rfl ?_
     refine Ex.seq ?_
     obtain ⟨r_13, hr_13, h⟩ := bE h
     refine Ex.reg (rn 1 [0, 1, 12, 13, 14, 18] (mkS 40 [(0, .sl (tickets_1.map (AV.int .i64)) none), (1, .sl (secrets_2.map (AV.int .i64)) none), (12, .sl (tickets_1.map (AV.int .i64)) none), (13, i6 ((tickets_1.length : Nat) : Int)), (14, i6 y_7), (18, i6 x_12)]) ⟨[], []⟩ ?_)
     refine ExO.callL [] [i6 x_12, i6 0, i6 1000] rfl rfl (a_within x_12 0 1000) rfl rfl (d_within N x_12 0 1000 r_13 hr_13) (b_within _ _ _ _) rfl ?_
     refine rn 1 [0, 1, 12, 13, 14, 20] (mkS 40 [(0, .sl (tickets_1.map (AV.int .i64)) none), (1, .sl (secrets_2.map (AV.int .i64)) none), (12, .sl (tickets_1.map (AV.int .i64)) none), (13, i6 ((tickets_1.length : Nat) : Int)), (14, i6 y_7), (20, .bool (!r_13))]) ⟨[], []⟩ ?_
     refine ExO.nil ?_
     rcases condI h with ⟨hc_14, h⟩ | ⟨hc_14, h⟩
     ·refine Ex.condT _ rfl hc_14 ?_
      refine Ex.seq (rg 1 [4] (mkS 40 [(4, i6 2)]) ⟨[], []⟩ ?_)
      refine Ex.ret ?_
      obtain rfl := sJ h
      exact rt (i6 2)
     ·refine Ex.condF _ rfl hc_14 ?_
      refine Ex.skip ?_
      refine rg 2 [0, 1, 12, 13, 14] (mkS 40 [(0, .sl (tickets_1.map (AV.int .i64)) none), (1, .sl (secrets_2.map (AV.int .i64)) none), (12, .sl (tickets_1.map (AV.int .i64)) none), (13, i6 ((tickets_1.length : Nat) : Int)), (14, i6 (IntKind.i64.wrap (y_7 + 1)))]) ⟨[], []⟩ ?_
      dsimp only
      exact ⟨_, _, Forgets.refl _ _ _, k, Nat.lt_succ_self k, (IntKind.i64.wrap (y_7 + 1)), h, rfl, rfl⟩
    ·refine Ex.condF _ rfl hc_11 ?_
     refine Ex.exit ?_
     (try simp only [reduceCtorEq, AEx.ex.injEq, Nat.reduceEqDiff, if_true, if_false])
     exact ⟨_, _, forgetK [0, 1], h, rfl, rfl⟩
  ·rintro a S ⟨h, rfl, rfl⟩
   subst hK_6
   refine Ex.seq (Ex.seq ?_)
   refine regH 5 [(1, .eq (i6 ((secrets_2.length : Nat) : Int))), (3, .eq (i6 ((tickets_1.length : Nat) : Int)))] [0, 1, 26] [AV.int .i64 (((secrets_2.map (AV.int .i64)).length : Nat) : Int) = AV.int .i64 ((secrets_2.length : Nat) : Int), AV.int .i64 (((tickets_1.map (AV.int .i64)).length : Nat) : Int) = AV.int .i64 ((tickets_1.length : Nat) : Int)] (mkS 40 [(0, .sl (tickets_1.map (AV.int .i64)) none), (1, .sl (secrets_2.map (AV.int .i64)) none), (26, .bool (((secrets_2.length : Nat) : Int) != ((tickets_1.length : Nat) : Int)))]) (⟨[], []⟩) (by kernel_rfl) ⟨lenM _ _, lenM _ _, trivial⟩ rfl ?_
   rcases condI h with ⟨hc_15, h⟩ | ⟨hc_15, h⟩
   ·refine Ex.condT _ rfl hc_15 ?_
    refine Ex.seq (rg 1 [4] (mkS 40 [(4, i6 1)]) ⟨[], []⟩ ?_)
    refine Ex.ret ?_
    obtain rfl := sJ h
    exact rt (i6 1)
   ·refine Ex.condF _ rfl hc_15 ?_
    refine Ex.skip ?_
    refine Ex.seq (Ex.seq ?_)
    refine regH 3 [(1, .eq (i6 ((secrets_2.length : Nat) : Int)))] [0, 27, 28, 29] [AV.int .i64 (((secrets_2.map (AV.int .i64)).length : Nat) : Int) = AV.int .i64 ((secrets_2.length : Nat) : Int)] (mkS 40 [(0, .sl (tickets_1.map (AV.int .i64)) none), (27, .sl (secrets_2.map (AV.int .i64)) none), (28, i6 ((secrets_2.length : Nat) : Int)), (29, i6 0)]) (⟨[], []⟩) (by kernel_rfl) ⟨lenM _ _, trivial⟩ rfl ?_
    obtain ⟨K_17, hK_18, h⟩ := letE h
    refine Ex.blockJ (fun a S => K_17 () = some r ∧ a = mkS 40 [(0, .sl (tickets_1.map (AV.int .i64)) none)] ∧ S = ⟨[], []⟩) ?_ ?_
    ·obtain ⟨B_21, hB_22, h⟩ := loop1I h
     refine Ex.loopF (fun k a S => ∃ (y_19 : Int), loop1 B_21 k y_19 = some r ∧ a = mkS 40 [(0, .sl (tickets_1.map (AV.int .i64)) none), (27, .sl (secrets_2.map (AV.int .i64)) none), (28, i6 ((secrets_2.length : Nat) : Int)), (29, i6 y_19)] ∧ S = ⟨[], []⟩) N ⟨_, _, Forgets.refl _ _ _, 0, h, rfl, rfl⟩ ?_
     rintro k a S ⟨y_19, h, rfl, rfl⟩
     cases k with
     | zero => exact (loop1Z h).elim
     | succ k =>
      replace h := loop1S h hB_22
      refine Ex.seq (rg 1 [0, 27, 28, 29, 30] (mkS 40 [(0, .sl (tickets_1.map (AV.int .i64)) none), (27, .sl (secrets_2.map (AV.int .i64)) none), (28, i6 ((secrets_2.length : Nat) : Int)), (29, i6 y_19), (30, .bool (decide (y_19 < ((secrets_2.length : Nat) : Int))))]) ⟨[], []⟩ ?_)
      refine Ex.seq ?_
      rcases condI h with ⟨hc_23, h⟩ | ⟨hc_23, h⟩
      ·refine Ex.condT _ rfl hc_23 ?_
       refine Ex.skip ?_
       refine Ex.seq ?_
       refine Ex.blockK ?_
       refine Ex.seq ?_
       obtain ⟨x_24, hx_24, h⟩ := bE h
       refine regH 3 [(0, .rop [i6 x_24])] [0, 8, 27, 28, 29] [LGet (secrets_2.map (AV.int .i64)) y_19 1 [i6 x_24]] (mkS 40 [(0, .sl (tickets_1.map (AV.int .i64)) none), (8, i6 x_24), (27, .sl (secrets_2.map (AV.int .i64)) none), (28, i6 ((secrets_2.length : Nat) : Int)), (29, i6 y_19)]) (⟨[], []⟩) (by kernel_rfl) ⟨LGet.of hx_24 rfl, trivial⟩ rfl ?_
       refine Ex.seq ?_
       obtain ⟨r_25, hr_25, h⟩ := bE h
       refine Ex.reg (rn 1 [0, 27, 28, 29, 33] (mkS 40 [(0, .sl (tickets_1.map (AV.int .i64)) none), (27, .sl (secrets_2.map (AV.int .i64)) none), (28, i6 ((secrets_2.length : Nat) : Int)), (29, i6 y_19), (33, i6 x_24)]) ⟨[], []⟩ ?_)
       refine ExO.callL [] [i6 x_24, i6 0, i6 1000000000] rfl rfl (a_within x_24 0 1000000000) rfl rfl (d_within N x_24 0 1000000000 r_25 hr_25) (b_within _ _ _ _) rfl ?_
       refine rn 1 [0, 27, 28, 29, 35] (mkS 40 [(0, .sl (tickets_1.map (AV.int .i64)) none), (27, .sl (secrets_2.map (AV.int .i64)) none), (28, i6 ((secrets_2.length : Nat) : Int)), (29, i6 y_19), (35, .bool (!r_25))]) ⟨[], []⟩ ?_
       refine ExO.nil ?_
       rcases condI h with ⟨hc_26, h⟩ | ⟨hc_26, h⟩
       ·refine Ex.condT _ rfl hc_26 ?_
        refine Ex.seq (rg 1 [4] (mkS 40 [(4, i6 2)]) ⟨[], []⟩ ?_)
        refine Ex.ret ?_
        obtain rfl := sJ h
        exact rt (i6 2)
       ·refine Ex.condF _ rfl hc_26 ?_
        refine Ex.skip ?_
        refine rg 2 [0, 27, 28, 29] (mkS 40 [(0, .sl (tickets_1.map (AV.int .i64)) none), (27, .sl (secrets_2.map (AV.int .i64)) none), (28, i6 ((secrets_2.length : Nat) : Int)), (29, i6 (IntKind.i64.wrap (y_19 + 1)))]) ⟨[], []⟩ ?_
        dsimp only
        exact ⟨_, _, Forgets.refl _ _ _, k, Nat.lt_succ_self k, (IntKind.i64.wrap (y_19 + 1)), h, rfl, rfl⟩
      ·refine Ex.condF _ rfl hc_23 ?_
       refine Ex.exit ?_
       (try simp only [reduceCtorEq, AEx.ex.injEq, Nat.reduceEqDiff, if_true, if_false])
       exact ⟨_, _, forgetK [0], h, rfl, rfl⟩
    ·rintro a S ⟨h, rfl, rfl⟩
     subst hK_18
     refine Ex.seq (Ex.seq ?_)
     obtain ⟨r_27, hr_27, h⟩ := bE h
     refine Ex.reg (rn 1 [37] (mkS 40 [(37, .sl (tickets_1.map (AV.int .i64)) none)]) ⟨[], []⟩ ?_)
     refine ExO.callL [] [.sl (tickets_1.map (AV.int .i64)) none] rfl rfl (a_total tickets_1) rfl rfl (d_total N tickets_1 r_27 hr_27) (b_total _ _ _ _) rfl ?_
     refine rn 1 [39] (mkS 40 [(39, .bool (r_27 == 0))]) ⟨[], []⟩ ?_
     refine ExO.nil ?_
     rcases condI h with ⟨hc_28, h⟩ | ⟨hc_28, h⟩
     ·refine Ex.condT _ rfl hc_28 ?_
      refine Ex.seq (rg 1 [4] (mkS 40 [(4, i6 4)]) ⟨[], []⟩ ?_)
      refine Ex.ret ?_
      obtain rfl := sJ h
      exact rt (i6 4)
     ·refine Ex.condF _ rfl hc_28 ?_
      refine Ex.skip ?_
      refine Ex.seq (rg 1 [4] (mkS 40 [(4, i6 0)]) ⟨[], []⟩ ?_)
      refine Ex.ret ?_
      obtain rfl := sJ h
      exact rt (i6 0)
def p_holderOf (N : Nat) (tickets_1 : (List Int)) (ticket_2 : Int) : Option (Int) := (letJ (fun (holder_3 : Int) => some holder_3) (fun k_4 => (loop2 (fun rec_9 (ticket_7 : Int) (holder_8 : Int) => ((getI tickets_1 holder_8).bind fun x_12 => (bif (decide (ticket_7 ≥ x_12)) then ((getI tickets_1 holder_8).bind fun x_14 => (rec_9 (IntKind.i64.wrap (ticket_7 - x_14)) (IntKind.i64.wrap (holder_8 + 1)))) else (k_4 holder_8)))) N ticket_2 0)))
def v_holderOf (r : Int) : AV := i6 r
attribute [local simp] v_holderOf
theorem a_holderOf (tickets_1 : (List Int)) (ticket_2 : Int) : [.sl (tickets_1.map (AV.int .i64)) none, i6 ticket_2].mapM (ren []) = some [.sl (tickets_1.map (AV.int .i64)) none, i6 ticket_2] := by simp
theorem b_holderOf (r : Int) (n n2 m : Nat) : back n n2 m (v_holderOf r) = some (v_holderOf r) := by simp
theorem d_holderOf (N : Nat) (tickets_1 : (List Int)) (ticket_2 : Int) (r : Int) (h : p_holderOf N tickets_1 ticket_2 = some r) : Does Try.prog 68 [.sl (tickets_1.map (AV.int .i64)) none, i6 ticket_2] [] fun v c => v = v_holderOf r ∧ c = [] := by
 unfold p_holderOf at h
 refine Does.ofL comp68 _ _ rfl rfl ?_
 refine Ex.seq (rg 1 [0, 1] (mkS 21 [(0, .sl (tickets_1.map (AV.int .i64)) none), (1, i6 ticket_2)]) ⟨[], []⟩ ?_)
 refine Ex.seq (rg 1 [0, 1, 5] (mkS 21 [(0, .sl (tickets_1.map (AV.int .i64)) none), (1, i6 ticket_2), (5, i6 0)]) ⟨[], []⟩ ?_)
 refine Ex.seq ?_
 obtain ⟨K_5, hK_6, h⟩ := letE h
 refine Ex.blockJ (fun a S => ∃ (holder_3 : Int), K_5 holder_3 = some r ∧ a = mkS 21 [(5, i6 holder_3)] ∧ S = ⟨[], []⟩) ?_ ?_
 ·obtain ⟨B_10, hB_11, h⟩ := loop2I h
  refine Ex.loopF (fun k a S => ∃ (ticket_7 : Int), ∃ (holder_8 : Int), loop2 B_10 k ticket_7 holder_8 = some r ∧ a = mkS 21 [(0, .sl (tickets_1.map (AV.int .i64)) none), (1, i6 ticket_7), (5, i6 holder_8)] ∧ S = ⟨[], []⟩) N ⟨_, _, Forgets.refl _ _ _, ticket_2, 0, h, rfl, rfl⟩ ?_
  rintro k a S ⟨ticket_7, holder_8, h, rfl, rfl⟩
  cases k with
  | zero => exact (loop2Z h).elim
  | succ k =>
   replace h := loop2S h hB_11
   refine Ex.seq (Ex.seq ?_)
   obtain ⟨x_12, hx_12, h⟩ := bE h
   refine regH 6 [(3, .rop [i6 x_12])] [0, 1, 5, 11] [LGet (tickets_1.map (AV.int .i64)) holder_8 1 [i6 x_12]] (mkS 21 [(0, .sl (tickets_1.map (AV.int .i64)) none), (1, i6 ticket_7), (5, i6 holder_8), (11, .bool (decide (ticket_7 ≥ x_12)))]) (⟨[], []⟩) (by kernel_rfl) ⟨LGet.of hx_12 rfl, trivial⟩ rfl ?_
   rcases condI h with ⟨hc_13, h⟩ | ⟨hc_13, h⟩
   ·refine Ex.condT _ rfl hc_13 ?_
    refine Ex.skip ?_
    refine Ex.blockK ?_
    refine Ex.seq ?_
    obtain ⟨x_14, hx_14, h⟩ := bE h
    refine regH 7 [(3, .rop [i6 x_14])] [0, 1, 5] [LGet (tickets_1.map (AV.int .i64)) holder_8 1 [i6 x_14]] (mkS 21 [(0, .sl (tickets_1.map (AV.int .i64)) none), (1, i6 (IntKind.i64.wrap (ticket_7 - x_14))), (5, i6 holder_8)]) (⟨[], []⟩) (by kernel_rfl) ⟨LGet.of hx_14 rfl, trivial⟩ rfl ?_
    refine rg 3 [0, 1, 5] (mkS 21 [(0, .sl (tickets_1.map (AV.int .i64)) none), (1, i6 (IntKind.i64.wrap (ticket_7 - x_14))), (5, i6 (IntKind.i64.wrap (holder_8 + 1)))]) ⟨[], []⟩ ?_
    dsimp only
    exact ⟨_, _, Forgets.refl _ _ _, k, Nat.lt_succ_self k, (IntKind.i64.wrap (ticket_7 - x_14)), (IntKind.i64.wrap (holder_8 + 1)), h, rfl, rfl⟩
   ·refine Ex.condF _ rfl hc_13 ?_
    refine Ex.exit ?_
    (try simp only [reduceCtorEq, AEx.ex.injEq, Nat.reduceEqDiff, if_true, if_false])
    exact ⟨_, _, forgetK [5], holder_8, h, rfl, rfl⟩
 ·rintro a S ⟨holder_3, h, rfl, rfl⟩
  subst hK_6
  refine Ex.seq (rg 2 [4] (mkS 21 [(4, i6 holder_3)]) ⟨[], []⟩ ?_)
  refine Ex.ret ?_
  obtain rfl := sJ h
  exact rt (i6 holder_3)
def p_Draw (N : Nat) (tickets_1 : (List Int)) (secrets_2 : (List Int)) : Option (Int × Int × Int) := ((p_checkRaffle N tickets_1 secrets_2).bind fun r_3 => (bif (r_3 != 0) then some (0, 0, r_3) else ((p_total N secrets_2).bind fun r_5 => ((p_total N tickets_1).bind fun r_6 => ((nzI r_6).bind fun u_7 => ((p_holderOf N tickets_1 (Int.tmod r_5 r_6)).bind fun r_8 => some ((Int.tmod r_5 r_6), r_8, 0)))))))
def v_Draw (r : Int × Int × Int) : AV := .tup [i6 r.1, i6 r.2.1, i6 r.2.2]
attribute [local simp] v_Draw
theorem a_Draw (tickets_1 : (List Int)) (secrets_2 : (List Int)) : [.sl (tickets_1.map (AV.int .i64)) none, .sl (secrets_2.map (AV.int .i64)) none].mapM (ren []) = some [.sl (tickets_1.map (AV.int .i64)) none, .sl (secrets_2.map (AV.int .i64)) none] := by simp
theorem b_Draw (r : Int × Int × Int) (n n2 m : Nat) : back n n2 m (v_Draw r) = some (v_Draw r) := by simp
theorem d_Draw (N : Nat) (tickets_1 : (List Int)) (secrets_2 : (List Int)) (r : Int × Int × Int) (h : p_Draw N tickets_1 secrets_2 = some r) : Does Try.prog 34 [.sl (tickets_1.map (AV.int .i64)) none, .sl (secrets_2.map (AV.int .i64)) none] [] fun v c => v = v_Draw r ∧ c = [] := by
 unfold p_Draw at h
 refine Does.ofL comp34 _ _ rfl rfl ?_
 refine Ex.seq (rg 3 [0, 1] (mkS 23 [(0, .sl (tickets_1.map (AV.int .i64)) none), (1, .sl (secrets_2.map (AV.int .i64)) none)]) ⟨[], []⟩ ?_)
 refine Ex.seq (Ex.seq ?_)
 obtain ⟨r_3, hr_3, h⟩ := bE h
 refine Ex.reg (rn 2 [0, 1, 8, 9] (mkS 23 [(0, .sl (tickets_1.map (AV.int .i64)) none), (1, .sl (secrets_2.map (AV.int .i64)) none), (8, .sl (tickets_1.map (AV.int .i64)) none), (9, .sl (secrets_2.map (AV.int .i64)) none)]) ⟨[], []⟩ ?_)
 refine ExO.callL [] [.sl (tickets_1.map (AV.int .i64)) none, .sl (secrets_2.map (AV.int .i64)) none] rfl rfl (a_checkRaffle tickets_1 secrets_2) rfl rfl (d_checkRaffle N tickets_1 secrets_2 r_3 hr_3) (b_checkRaffle _ _ _ _) rfl ?_
 refine rn 1 [0, 1, 7] (mkS 23 [(0, .sl (tickets_1.map (AV.int .i64)) none), (1, .sl (secrets_2.map (AV.int .i64)) none), (7, i6 r_3)]) ⟨[], []⟩ ?_
 refine ExO.nil ?_
 refine Ex.seq (rg 2 [0, 1, 7, 12] (mkS 23 [(0, .sl (tickets_1.map (AV.int .i64)) none), (1, .sl (secrets_2.map (AV.int .i64)) none), (7, i6 r_3), (12, .bool (r_3 != 0))]) ⟨[], []⟩ ?_)
 rcases condI h with ⟨hc_4, h⟩ | ⟨hc_4, h⟩
 ·refine Ex.condT _ rfl hc_4 ?_
  refine Ex.seq (rg 4 [4, 5, 6] (mkS 23 [(4, i6 0), (5, i6 0), (6, i6 r_3)]) ⟨[], []⟩ ?_)
  refine Ex.ret ?_
  obtain rfl := sJ h
  exact rt (.tup [i6 0, i6 0, i6 r_3])
 ·refine Ex.condF _ rfl hc_4 ?_
  refine Ex.skip ?_
  refine Ex.seq ?_
  obtain ⟨r_5, hr_5, h⟩ := bE h
  refine Ex.reg (rn 1 [0, 14] (mkS 23 [(0, .sl (tickets_1.map (AV.int .i64)) none), (14, .sl (secrets_2.map (AV.int .i64)) none)]) ⟨[], []⟩ ?_)
  refine ExO.callL [] [.sl (secrets_2.map (AV.int .i64)) none] rfl rfl (a_total secrets_2) rfl rfl (d_total N secrets_2 r_5 hr_5) (b_total _ _ _ _) rfl ?_
  obtain ⟨r_6, hr_6, h⟩ := bE h
  refine rn 1 [0, 15, 16] (mkS 23 [(0, .sl (tickets_1.map (AV.int .i64)) none), (15, i6 r_5), (16, .sl (tickets_1.map (AV.int .i64)) none)]) ⟨[], []⟩ ?_
  refine ExO.callL [] [.sl (tickets_1.map (AV.int .i64)) none] rfl rfl (a_total tickets_1) rfl rfl (d_total N tickets_1 r_6 hr_6) (b_total _ _ _ _) rfl ?_
  obtain ⟨u_7, hu_7, h⟩ := bE h
  refine runH 2 [(0, .bin (i6 (Int.tmod r_5 r_6)))] [0, 4] [binA .rem (i6 r_5) (i6 r_6) = some (i6 (Int.tmod r_5 r_6))] (mkS 23 [(0, .sl (tickets_1.map (AV.int .i64)) none), (4, i6 (Int.tmod r_5 r_6))]) (⟨[], []⟩) (by kernel_rfl) ⟨binR hu_7, trivial⟩ ?_
  refine ExO.nil ?_
  refine Ex.seq ?_
  obtain ⟨r_8, hr_8, h⟩ := bE h
  refine Ex.reg (rn 3 [19, 20, 21] (mkS 23 [(19, i6 (Int.tmod r_5 r_6)), (20, .sl (tickets_1.map (AV.int .i64)) none), (21, i6 (Int.tmod r_5 r_6))]) ⟨[], []⟩ ?_)
  refine ExO.callL [] [.sl (tickets_1.map (AV.int .i64)) none, i6 (Int.tmod r_5 r_6)] rfl rfl (a_holderOf tickets_1 (Int.tmod r_5 r_6)) rfl rfl (d_holderOf N tickets_1 (Int.tmod r_5 r_6) r_8 hr_8) (b_holderOf _ _ _ _) rfl ?_
  refine rn 3 [4, 5, 6] (mkS 23 [(4, i6 (Int.tmod r_5 r_6)), (5, i6 r_8), (6, i6 0)]) ⟨[], []⟩ ?_
  refine ExO.nil ?_
  refine Ex.ret ?_
  obtain rfl := sJ h
  exact rt (.tup [i6 (Int.tmod r_5 r_6), i6 r_8, i6 0])
def p_math_bits_TrailingZeros8 (N : Nat) (x_1 : Int) : Option (Int) := ((idxB (ByteArray.mk #[8, 0, 1, 0, 2, 0, 1, 0, 3, 0, 1, 0, 2, 0, 1, 0, 4, 0, 1, 0, 2, 0, 1, 0, 3, 0, 1, 0, 2, 0, 1, 0, 5, 0, 1, 0, 2, 0, 1, 0, 3, 0, 1, 0, 2, 0, 1, 0, 4, 0, 1, 0, 2, 0, 1, 0, 3, 0, 1, 0, 2, 0, 1, 0, 6, 0, 1, 0, 2, 0, 1, 0, 3, 0, 1, 0, 2, 0, 1, 0, 4, 0, 1, 0, 2, 0, 1, 0, 3, 0, 1, 0, 2, 0, 1, 0, 5, 0, 1, 0, 2, 0, 1, 0, 3, 0, 1, 0, 2, 0, 1, 0, 4, 0, 1, 0, 2, 0, 1, 0, 3, 0, 1, 0, 2, 0, 1, 0, 7, 0, 1, 0, 2, 0, 1, 0, 3, 0, 1, 0, 2, 0, 1, 0, 4, 0, 1, 0, 2, 0, 1, 0, 3, 0, 1, 0, 2, 0, 1, 0, 5, 0, 1, 0, 2, 0, 1, 0, 3, 0, 1, 0, 2, 0, 1, 0, 4, 0, 1, 0, 2, 0, 1, 0, 3, 0, 1, 0, 2, 0, 1, 0, 6, 0, 1, 0, 2, 0, 1, 0, 3, 0, 1, 0, 2, 0, 1, 0, 4, 0, 1, 0, 2, 0, 1, 0, 3, 0, 1, 0, 2, 0, 1, 0, 5, 0, 1, 0, 2, 0, 1, 0, 3, 0, 1, 0, 2, 0, 1, 0, 4, 0, 1, 0, 2, 0, 1, 0, 3, 0, 1, 0, 2, 0, 1, 0]) x_1).bind fun c_2 => some (IntKind.i64.wrap c_2))
def v_math_bits_TrailingZeros8 (r : Int) : AV := i6 r
attribute [local simp] v_math_bits_TrailingZeros8
theorem a_math_bits_TrailingZeros8 (x_1 : Int) : [.int .u8 x_1].mapM (ren []) = some [.int .u8 x_1] := by simp
theorem b_math_bits_TrailingZeros8 (r : Int) (n n2 m : Nat) : back n n2 m (v_math_bits_TrailingZeros8 r) = some (v_math_bits_TrailingZeros8 r) := by simp
theorem d_math_bits_TrailingZeros8 (N : Nat) (x_1 : Int) (r : Int) (h : p_math_bits_TrailingZeros8 N x_1 = some r) : Does Try.prog 75 [.int .u8 x_1] [] fun v c => v = v_math_bits_TrailingZeros8 r ∧ c = [] := by
 unfold p_math_bits_TrailingZeros8 at h
 refine Does.ofL comp75 _ _ rfl rfl ?_
 refine Ex.seq (rg 1 [0] (mkS 6 [(0, .int .u8 x_1)]) ⟨[], []⟩ ?_)
 refine Ex.seq ?_
 obtain ⟨c_2, hc_2, h⟩ := bE h
 refine regH 4 [(1, .ix c_2)] [2] [LIdx (ByteArray.mk #[8, 0, 1, 0, 2, 0, 1, 0, 3, 0, 1, 0, 2, 0, 1, 0, 4, 0, 1, 0, 2, 0, 1, 0, 3, 0, 1, 0, 2, 0, 1, 0, 5, 0, 1, 0, 2, 0, 1, 0, 3, 0, 1, 0, 2, 0, 1, 0, 4, 0, 1, 0, 2, 0, 1, 0, 3, 0, 1, 0, 2, 0, 1, 0, 6, 0, 1, 0, 2, 0, 1, 0, 3, 0, 1, 0, 2, 0, 1, 0, 4, 0, 1, 0, 2, 0, 1, 0, 3, 0, 1, 0, 2, 0, 1, 0, 5, 0, 1, 0, 2, 0, 1, 0, 3, 0, 1, 0, 2, 0, 1, 0, 4, 0, 1, 0, 2, 0, 1, 0, 3, 0, 1, 0, 2, 0, 1, 0, 7, 0, 1, 0, 2, 0, 1, 0, 3, 0, 1, 0, 2, 0, 1, 0, 4, 0, 1, 0, 2, 0, 1, 0, 3, 0, 1, 0, 2, 0, 1, 0, 5, 0, 1, 0, 2, 0, 1, 0, 3, 0, 1, 0, 2, 0, 1, 0, 4, 0, 1, 0, 2, 0, 1, 0, 3, 0, 1, 0, 2, 0, 1, 0, 6, 0, 1, 0, 2, 0, 1, 0, 3, 0, 1, 0, 2, 0, 1, 0, 4, 0, 1, 0, 2, 0, 1, 0, 3, 0, 1, 0, 2, 0, 1, 0, 5, 0, 1, 0, 2, 0, 1, 0, 3, 0, 1, 0, 2, 0, 1, 0, 4, 0, 1, 0, 2, 0, 1, 0, 3, 0, 1, 0, 2, 0, 1, 0]) x_1 c_2] (mkS 6 [(2, i6 (IntKind.i64.wrap c_2))]) (⟨[], []⟩) (by kernel_rfl) ⟨idxB.of hc_2, trivial⟩ rfl ?_
 refine Ex.ret ?_
 obtain rfl := sJ h
 exact rt (i6 (IntKind.i64.wrap c_2))
def p_set_numbers (N : Nat) (s_1 : Int) : Option (Int) := some s_1
def v_set_numbers (r : Int) : AV := .fn 74 [] [.rop [.int .u8 r]]
attribute [local simp] v_set_numbers
theorem a_set_numbers (s_1 : Int) : [.int .u8 s_1].mapM (ren []) = some [.int .u8 s_1] := by simp
theorem b_set_numbers (r : Int) (n n2 m : Nat) : back n n2 m (v_set_numbers r) = some (v_set_numbers r) := by simp
theorem d_set_numbers (N : Nat) (s_1 : Int) (r : Int) (h : p_set_numbers N s_1 = some r) : Does Try.prog 48 [.int .u8 s_1] [] fun v c => v = v_set_numbers r ∧ c = [] := by
 unfold p_set_numbers at h
 refine Does.ofL comp48 _ _ rfl rfl ?_
 refine Ex.seq (rg 2 [1] (mkS 4 [(1, .ptr 0 0)]) ⟨[[.int .u8 s_1]], []⟩ ?_)
 refine Ex.seq (rg 2 [2] (mkS 4 [(2, .fn 74 [] [.ptr 0 0])]) ⟨[[.int .u8 s_1]], []⟩ ?_)
 refine Ex.forget (forgetK [2]) ?_
 refine Ex.castA (a2 := mkS 4 [(2, .fn 74 [] [.ptr 0 0])]) (S2 := ⟨[[.int .u8 s_1]], []⟩) (by kernel_rfl) (by kernel_rfl) ?_
 obtain rfl := sJ h
 refine Ex.forget (chillP 2 0 [.int .u8 s_1] _ rfl rfl) ?_
 refine Ex.castA (a2 := mkS 4 [(2, .fn 74 [] [.rop [.int .u8 s_1]])]) (S2 := ⟨[[]], []⟩) (by kernel_rfl) (by kernel_rfl) ?_
 refine Ex.ret ?_
 exact rt (.fn 74 [] [.rop [.int .u8 s_1]])
structure T_claim where
 amount_ : Int
 payers_ : Int
 deriving Inhabited
def C_claim (x : T_claim) : List AV := [i6 x.amount_, .int .u8 x.payers_]
attribute [local simp] C_claim
def A_claim (x : T_claim) : AV := .agg (C_claim x)
attribute [local simp] A_claim
theorem KC_claim (x : T_claim) : cleanL (C_claim x) = true := by simp
theorem KA_claim (x : T_claim) : (A_claim x).clean = true := KC_claim x
theorem KL_claim (l : List T_claim) : cleanL (l.map A_claim) = true := cleanM KA_claim l
attribute [local simp] KL_claim
theorem KB_claim (x : T_claim) (n : Nat) (σ : List Nat) : (C_claim x).mapM (re n σ) = some (C_claim x) := by simp
def p_claims_amount (N : Nat) (c_1 : (List T_claim)) (bill_2 : Int) : Option (Int) := ((getI c_1 bill_2).bind fun x_3 => some x_3.amount_)
def v_claims_amount (r : Int) : AV := i6 r
attribute [local simp] v_claims_amount
theorem b_claims_amount (r : Int) (n n2 m : Nat) : back n n2 m (v_claims_amount r) = some (v_claims_amount r) := by simp
theorem d_claims_amount (N : Nat) (c_1 : (List T_claim)) (bill_2 : Int) (r : Int) (h : p_claims_amount N c_1 bill_2 = some r) : Does Try.prog 93 [.sl (c_1.map A_claim) none, i6 bill_2] [] fun v c => v = v_claims_amount r ∧ c = [] := by
 unfold p_claims_amount at h
 refine Does.ofL comp93 _ _ rfl rfl ?_
 refine Ex.seq (rg 1 [0, 1] (mkS 10 [(0, .sl (c_1.map A_claim) none), (1, i6 bill_2)]) ⟨[], []⟩ ?_)
 refine Ex.seq ?_
 obtain ⟨x_3, hx_3, h⟩ := bE h
 refine regH 6 [(2, .rop (C_claim x_3))] [4] [LGet (c_1.map A_claim) bill_2 2 (C_claim x_3)] (mkS 10 [(4, i6 x_3.amount_)]) (⟨[], []⟩) (by kernel_rfl) ⟨LGet.of hx_3 rfl, trivial⟩ rfl ?_
 refine Ex.ret ?_
 obtain rfl := sJ h
 exact rt (i6 x_3.amount_)
structure T_V8_i64 where
 a0 : Int
 a1 : Int
 a2 : Int
 a3 : Int
 a4 : Int
 a5 : Int
 a6 : Int
 a7 : Int
 deriving Inhabited
def C_V8_i64 (x : T_V8_i64) : List AV := [i6 x.a0, i6 x.a1, i6 x.a2, i6 x.a3, i6 x.a4, i6 x.a5, i6 x.a6, i6 x.a7]
attribute [local simp] C_V8_i64
def A_V8_i64 (x : T_V8_i64) : AV := .agg (C_V8_i64 x)
attribute [local simp] A_V8_i64
theorem KC_V8_i64 (x : T_V8_i64) : cleanL (C_V8_i64 x) = true := by simp
theorem KA_V8_i64 (x : T_V8_i64) : (A_V8_i64 x).clean = true := KC_V8_i64 x
theorem KL_V8_i64 (l : List T_V8_i64) : cleanL (l.map A_V8_i64) = true := cleanM KA_V8_i64 l
attribute [local simp] KL_V8_i64
theorem KB_V8_i64 (x : T_V8_i64) (n : Nat) (σ : List Nat) : (C_V8_i64 x).mapM (re n σ) = some (C_V8_i64 x) := by simp
def T_V8_i64.l (x : T_V8_i64) : List Int := [x.a0, x.a1, x.a2, x.a3, x.a4, x.a5, x.a6, x.a7]
def T_V8_i64.ofl (l : List Int) : T_V8_i64 := ⟨l[0]?.getD default, l[1]?.getD default, l[2]?.getD default, l[3]?.getD default, l[4]?.getD default, l[5]?.getD default, l[6]?.getD default, l[7]?.getD default⟩
theorem T_V8_i64.l_ofl (l : List Int) (h : l.length = 8) : (T_V8_i64.ofl l).l = l := by
 obtain ⟨a0, l0, rfl, h0⟩ := lenS h
 obtain ⟨a1, l1, rfl, h1⟩ := lenS h0
 obtain ⟨a2, l2, rfl, h2⟩ := lenS h1
 obtain ⟨a3, l3, rfl, h3⟩ := lenS h2
 obtain ⟨a4, l4, rfl, h4⟩ := lenS h3
 obtain ⟨a5, l5, rfl, h5⟩ := lenS h4
 obtain ⟨a6, l6, rfl, h6⟩ := lenS h5
 obtain ⟨a7, l7, rfl, h7⟩ := lenS h6
 obtain rfl := List.eq_nil_of_length_eq_zero h7; rfl
def p_purse_of (N : Nat) (p_1 : T_V8_i64) (fund_2 : Int) : Option (Int) := ((idxI fund_2 8).bind fun u_3 => ((p_1.l[Int.toNat fund_2]?).bind fun x_4 => some x_4))
def v_purse_of (r : Int) : AV := i6 r
attribute [local simp] v_purse_of
theorem b_purse_of (r : Int) (n n2 m : Nat) : back n n2 m (v_purse_of r) = some (v_purse_of r) := by simp
theorem d_purse_of (N : Nat) (p_1 : T_V8_i64) (fund_2 : Int) (r : Int) (h : p_purse_of N p_1 fund_2 = some r) : Does Try.prog 94 [(A_V8_i64 p_1), i6 fund_2] [] fun v c => v = v_purse_of r ∧ c = [] := by
 unfold p_purse_of at h
 refine Does.ofL comp94 _ _ rfl rfl ?_
 refine Ex.seq (rg 2 [1, 2] (mkS 8 [(1, i6 fund_2), (2, .ptr 0 0)]) ⟨[(C_V8_i64 p_1)], []⟩ ?_)
 refine Ex.seq ?_
 obtain ⟨u_3, hu_3, h⟩ := bE h
 obtain ⟨x_4, hx_4, h⟩ := bE h
 refine regH 4 [(1, .adr), (2, .ld (i6 x_4))] [4] [0 ≤ fund_2 ∧ fund_2 < ((8 : Nat) : Int), takeCells (C_V8_i64 p_1) (0 + Int.toNat fund_2 * 1) none = some (i6 x_4)] (mkS 8 [(4, i6 x_4)]) (⟨[(C_V8_i64 p_1)], []⟩) (by kernel_rfl) ⟨idxI.of hu_3, ldArr (f := (AV.int .i64)) p_1.l (C_V8_i64 p_1) 0 0 8 fund_2 x_4 (i6 x_4) (fun _ => rfl) (by kernel_rfl) rfl hu_3 hx_4 rfl, trivial⟩ rfl ?_
 refine Ex.ret ?_
 obtain rfl := sJ h
 exact rt (i6 x_4)
def p_sum_int_set_numbers_1r_claims_amount (N : Nat) (a_1 : Int) (a_2 : (List T_claim)) : Option (Int) := (letJ (fun (b_10 : Int) => some b_10) (fun k_11 => (letJ (fun (b_14 : Int) => (k_11 b_14)) (fun k_15 => (loop2 (fun rec_20 (rest_18 : Int) (b_19 : Int) => (bif (rest_18 != 0) then ((p_math_bits_TrailingZeros8 N rest_18).bind fun r_24 => (letJ (fun (b_33 : Int) => ((some (IntKind.u8.wrap (((BitVec.ofInt (IntKind.bits .u8) rest_18 &&& BitVec.ofInt (IntKind.bits .u8) (IntKind.u8.wrap (rest_18 - 1))).toNat : Nat) : Int))).bind fun n_39 => (rec_20 n_39 b_33))) (fun k_34 => ((p_claims_amount N a_2 r_24).bind fun r_37 => (k_34 (IntKind.i64.wrap (b_19 + r_37))))))) else (k_15 b_19))) N a_1 0)))))
def v_sum_int_set_numbers_1r_claims_amount (r : Int) : AV := i6 r
attribute [local simp] v_sum_int_set_numbers_1r_claims_amount
theorem b_sum_int_set_numbers_1r_claims_amount (r : Int) (n n2 m : Nat) : back n n2 m (v_sum_int_set_numbers_1r_claims_amount r) = some (v_sum_int_set_numbers_1r_claims_amount r) := by simp
theorem d_sum_int_set_numbers_1r_claims_amount (N : Nat) (a_1 : Int) (a_2 : (List T_claim)) (r : Int) (h : p_sum_int_set_numbers_1r_claims_amount N a_1 a_2 = some r) : Does Try.prog 87 [.fn 74 [] [.rop [.int .u8 a_1]], .fn 93 [.sl (a_2.map A_claim) none] []] [] fun v c => v = v_sum_int_set_numbers_1r_claims_amount r ∧ c = [] := by
 unfold p_sum_int_set_numbers_1r_claims_amount at h
 refine Does.ofL comp87 _ _ rfl rfl ?_
 refine Ex.seq (rg 2 [0, 3, 4] (mkS 15 [(0, .fn 74 [] [.rop [.int .u8 a_1]]), (3, .ptr 0 0), (4, i6 0)]) ⟨[[.fn 93 [.sl (a_2.map A_claim) none] []]], []⟩ ?_)
 refine Ex.seq (rg 2 [0, 3, 4, 5] (mkS 15 [(0, .fn 74 [] [.rop [.int .u8 a_1]]), (3, .ptr 0 0), (4, i6 0), (5, .ptr 1 0)]) ⟨[[.fn 93 [.sl (a_2.map A_claim) none] []], [i6 0]], []⟩ ?_)
 refine Ex.seq (Ex.seq ?_)
 refine rg 1 [3, 4, 5, 7] (mkS 15 [(3, .ptr 0 0), (4, i6 0), (5, .ptr 1 0), (7, .fn 74 [] [.rop [.int .u8 a_1]])]) ⟨[[.fn 93 [.sl (a_2.map A_claim) none] []], [i6 0]], []⟩ ?_
 refine Ex.blockK ?_
 obtain ⟨K_12, hK_13, h⟩ := letE h
 refine Ex.rangeJ (fun k S => (k = 0 ∧ ∃ (b_10 : Int), K_12 b_10 = some r ∧ S = ⟨[[.fn 93 [.sl (a_2.map A_claim) none] []], [i6 b_10]], [(0, 0)]⟩)) 74 [.rop [.int .u8 a_1]] _ rfl comp74 rfl (by simp [setAll]) (by exact trivial) (mkS 16 [(1, .rop [.int .u8 a_1]), (2, .tup []), (3, .tup []), (4, .tup []), (5, .tup []), (6, .tup []), (7, .tup []), (8, .tup []), (9, .tup []), (10, .tup []), (11, .tup []), (12, .tup []), (13, .tup []), (14, .tup []), (15, .tup [])]) (⟨[[.fn 93 [.sl (a_2.map A_claim) none] []], [i6 0]], [(0, 0)]⟩) (fun _ => by kernel_rfl) (by kernel_rfl) ?_ ?_
 ·intro cx_4 Lp_3 hcn_5 hcm_6 hLt_7 hL_8 hup_9
  refine Ex.castA (a2 := mkS 16 [(0, .yld Lp_3.l 0), (1, .rop [.int .u8 a_1]), (2, .tup []), (3, .tup []), (4, .tup []), (5, .tup []), (6, .tup []), (7, .tup []), (8, .tup []), (9, .tup []), (10, .tup []), (11, .tup []), (12, .tup []), (13, .tup []), (14, .tup []), (15, .tup [])]) (S2 := ⟨[[.fn 93 [.sl (a_2.map A_claim) none] []], [i6 0]], [(0, 0)]⟩) (by kernel_rfl) rfl ?_
  refine Ex.seq (rg 2 [0, 3] (mkS 16 [(0, .yld Lp_3.l 0), (3, .int .u8 a_1)]) ⟨[[.fn 93 [.sl (a_2.map A_claim) none] []], [i6 0]], [(0, 0)]⟩ ?_)
  obtain ⟨K_16, hK_17, h⟩ := letE h
  refine Ex.blockJ (fun a S => ∃ (b_14 : Int), K_16 b_14 = some r ∧ a = mkS 16 [] ∧ S = ⟨[[.fn 93 [.sl (a_2.map A_claim) none] []], [i6 b_14]], [(0, 0)]⟩) ?_ ?_
  ·obtain ⟨B_21, hB_22, h⟩ := loop2I h
   refine Ex.loopF (fun k a S => ∃ (rest_18 : Int), ∃ (b_19 : Int), loop2 B_21 k rest_18 b_19 = some r ∧ a = mkS 16 [(0, .yld Lp_3.l 0), (3, .int .u8 rest_18)] ∧ S = ⟨[[.fn 93 [.sl (a_2.map A_claim) none] []], [i6 b_19]], [(0, 0)]⟩) N ⟨_, _, Forgets.refl _ _ _, a_1, 0, h, rfl, rfl⟩ ?_
   rintro k a S ⟨rest_18, b_19, h, rfl, rfl⟩
   cases k with
   | zero => exact (loop2Z h).elim
   | succ k =>
    replace h := loop2S h hB_22
    refine Ex.seq (Ex.seq ?_)
    refine rg 2 [0, 3, 6] (mkS 16 [(0, .yld Lp_3.l 0), (3, .int .u8 rest_18), (6, .bool (rest_18 != 0))]) ⟨[[.fn 93 [.sl (a_2.map A_claim) none] []], [i6 b_19]], [(0, 0)]⟩ ?_
    rcases condI h with ⟨hc_23, h⟩ | ⟨hc_23, h⟩
    ·refine Ex.condT _ rfl hc_23 ?_
     refine Ex.skip ?_
     refine Ex.seq ?_
     refine Ex.blockK ?_
     refine Ex.seq ?_
     obtain ⟨r_24, hr_24, h⟩ := bE h
     refine Ex.regI ?_
     refine runI 2 [] [0, 3, 11, 12] [] (mkS 16 [(0, .yld Lp_3.l 0), (3, .int .u8 rest_18), (11, .yld Lp_3.l 0), (12, .int .u8 rest_18)]) (⟨[[.fn 93 [.sl (a_2.map A_claim) none] []], [i6 b_19]], [(0, 0)]⟩) (by kernel_rfl) trivial ?_
     refine ExI.one ?_
     refine ExO.callL [] [.int .u8 rest_18] rfl rfl (a_math_bits_TrailingZeros8 rest_18) rfl rfl (d_math_bits_TrailingZeros8 N rest_18 r_24 hr_24) (b_math_bits_TrailingZeros8 _ _ _ _) rfl ?_
     refine ExO.nil ?_
     obtain ⟨K_35, hK_36, h⟩ := letE h
     refine ExI.yieldT 0 hLt_7 hL_8 [i6 r_24] rfl rfl rfl (by kernel_rfl) rfl rfl (leC hcn_5 (by simp [setAll])) ?_
     intro ca_25 cb_26 ha_27 hb_28 hma_29 hmb_30 hup_31 hbz_32
     refine Ex.castA (a2 := mkS 15 [(3, .ptr 0 0), (4, i6 0), (5, .ptr 1 0), (7, .fn 74 [] [.rop [.int .u8 a_1]]), (8, i6 r_24)]) (S2 := ⟨[[.fn 93 [.sl (a_2.map A_claim) none] []], [i6 b_19]], [(0, 0)]⟩) (by kernel_rfl) (by kernel_rfl) ?_
     refine Ex.two (fun z S => (z = AEx.norm ∧ ∃ (b_33 : Int), K_35 b_33 = some r ∧ S = ⟨[[.fn 93 [.sl (a_2.map A_claim) none] []], [i6 b_33]], [(0, 0)]⟩)) ?_ ?_
     ·refine rg 1 [3, 5, 6] (mkS 15 [(3, .ptr 0 0), (5, .ptr 1 0), (6, i6 r_24)]) ⟨[[.fn 93 [.sl (a_2.map A_claim) none] []], [i6 b_19]], [(0, 0)]⟩ ?_
      refine ⟨rfl, rfl, ?_⟩
      refine Ex.blockK ?_
      obtain ⟨r_37, hr_37, h⟩ := bE h
      have hT_38 : DoesA Try.prog [⟨93, [.sl (a_2.map A_claim) none, i6 r_24], [], (v_claims_amount r_37), []⟩] ∧ ConsA [⟨93, [.sl (a_2.map A_claim) none, i6 r_24], [], (v_claims_amount r_37), []⟩] := ⟨⟨(d_claims_amount N a_2 r_24 r_37 hr_37), rfl, trivial⟩, ⟨trivial, trivial⟩⟩
      refine Ex.drawE (a1 := mkS 15 [(3, .ptr 0 0), (5, .ptr 1 0), (6, i6 r_24), (9, i6 b_19), (10, .fn 93 [.sl (a_2.map A_claim) none] []), (11, i6 r_24), (12, i6 r_37)]) (tabO_ok hT_38.1) [] [] [] ?_ ?_
      ·refine drS [0, 1] 3 [] [] (mkS 15 [(3, .ptr 0 0), (5, .ptr 1 0), (6, i6 r_24), (9, i6 b_19), (10, .fn 93 [.sl (a_2.map A_claim) none] []), (11, i6 r_24)]) (by simp) (by kernel_rfl) trivial (by kernel_rfl) ?_
       refine drC hT_38.2 0 _ [.sl (a_2.map A_claim) none, i6 r_24] (v_claims_amount r_37) rfl rfl rfl rfl rfl (fun _ => rfl) rfl (by simp; try rfl) (fun _ => b_claims_amount _ _ _ _) ?_
       exact DrO.nil rfl
      ·dsimp only [List.getLastD_cons, List.getLastD_nil]
       refine rn 2 [] (mkS 15 []) ⟨[[.fn 93 [.sl (a_2.map A_claim) none] []], [i6 (IntKind.i64.wrap (b_19 + r_37))]], [(0, 0)]⟩ ?_
       refine ExO.nil ?_
       (try simp only [reduceCtorEq, AEx.ex.injEq, Nat.reduceEqDiff, if_true, if_false])
       exact ⟨_, _, Forgets.refl _ _ _, ⟨by first | rfl | trivial, (IntKind.i64.wrap (b_19 + r_37)), h, rfl⟩⟩
     ·rintro z a2 S (⟨rfl, b_33, h, rfl⟩)
      subst hK_36
      refine runI 1 [] [0, 3, 15] [] (mkS 16 [(0, .yld Lp_3.l 0), (3, .int .u8 rest_18), (15, .bool false)]) (⟨[[.fn 93 [.sl (a_2.map A_claim) none] []], [i6 b_33]], [(0, 0)]⟩) (by kernel_rfl) trivial ?_
      refine ExI.nil ?_
      refine Ex.cond (b := false) rfl ?_
      refine Ex.skip ?_
      obtain ⟨n_39, hn_39, h⟩ := bE h
      refine regH 5 [(3, .eq (.int .u8 n_39))] [0, 3] [AV.int .u8 (IntKind.u8.wrap (((BitVec.ofInt (IntKind.bits .u8) rest_18 &&& BitVec.ofInt (IntKind.bits .u8) (IntKind.u8.wrap (rest_18 - 1))).toNat : Nat) : Int)) = AV.int .u8 n_39] (mkS 16 [(0, .yld Lp_3.l 0), (3, .int .u8 n_39)]) (⟨[[.fn 93 [.sl (a_2.map A_claim) none] []], [i6 b_33]], [(0, 0)]⟩) (by kernel_rfl) ⟨congrArg (AV.int .u8) (Option.some.inj hn_39), trivial⟩ rfl ?_
      dsimp only
      exact ⟨_, _, Forgets.refl _ _ _, k, Nat.lt_succ_self k, n_39, b_33, h, rfl, rfl⟩
    ·refine Ex.condF _ rfl hc_23 ?_
     refine Ex.exit ?_
     (try simp only [reduceCtorEq, AEx.ex.injEq, Nat.reduceEqDiff, if_true, if_false])
     exact ⟨_, _, forgetK [], b_19, h, rfl, rfl⟩
  ·rintro a S ⟨b_14, h, rfl, rfl⟩
   subst hK_17
   exact ⟨_, _, Forgets.refl _ _ _, .inl rfl, 0, rfl, ⟨by first | rfl | trivial, b_14, h, rfl⟩⟩
 ·rintro k S (⟨rfl, b_10, h, rfl⟩)
  subst hK_13
  refine Ex.seq (rg 2 [4] (mkS 15 [(4, i6 b_10)]) ⟨[[.fn 93 [.sl (a_2.map A_claim) none] []], [i6 b_10]], [(0, 0)]⟩ ?_)
  refine Ex.ret ?_
  obtain rfl := sJ h
  exact rt (i6 b_10)
def p_sum_int_set_numbers_1r_purse_of (N : Nat) (a_1 : Int) (a_2 : T_V8_i64) : Option (Int) := (letJ (fun (b_10 : Int) => some b_10) (fun k_11 => (letJ (fun (b_14 : Int) => (k_11 b_14)) (fun k_15 => (loop2 (fun rec_20 (rest_18 : Int) (b_19 : Int) => (bif (rest_18 != 0) then ((p_math_bits_TrailingZeros8 N rest_18).bind fun r_24 => (letJ (fun (b_33 : Int) => ((some (IntKind.u8.wrap (((BitVec.ofInt (IntKind.bits .u8) rest_18 &&& BitVec.ofInt (IntKind.bits .u8) (IntKind.u8.wrap (rest_18 - 1))).toNat : Nat) : Int))).bind fun n_39 => (rec_20 n_39 b_33))) (fun k_34 => ((p_purse_of N a_2 r_24).bind fun r_37 => (k_34 (IntKind.i64.wrap (b_19 + r_37))))))) else (k_15 b_19))) N a_1 0)))))
def v_sum_int_set_numbers_1r_purse_of (r : Int) : AV := i6 r
attribute [local simp] v_sum_int_set_numbers_1r_purse_of
theorem b_sum_int_set_numbers_1r_purse_of (r : Int) (n n2 m : Nat) : back n n2 m (v_sum_int_set_numbers_1r_purse_of r) = some (v_sum_int_set_numbers_1r_purse_of r) := by simp
theorem d_sum_int_set_numbers_1r_purse_of (N : Nat) (a_1 : Int) (a_2 : T_V8_i64) (r : Int) (h : p_sum_int_set_numbers_1r_purse_of N a_1 a_2 = some r) : Does Try.prog 87 [.fn 74 [] [.rop [.int .u8 a_1]], .fn 94 [(A_V8_i64 a_2)] []] [] fun v c => v = v_sum_int_set_numbers_1r_purse_of r ∧ c = [] := by
 unfold p_sum_int_set_numbers_1r_purse_of at h
 refine Does.ofL comp87 _ _ rfl rfl ?_
 refine Ex.seq (rg 2 [0, 3, 4] (mkS 15 [(0, .fn 74 [] [.rop [.int .u8 a_1]]), (3, .ptr 0 0), (4, i6 0)]) ⟨[[.fn 94 [(A_V8_i64 a_2)] []]], []⟩ ?_)
 refine Ex.seq (rg 2 [0, 3, 4, 5] (mkS 15 [(0, .fn 74 [] [.rop [.int .u8 a_1]]), (3, .ptr 0 0), (4, i6 0), (5, .ptr 1 0)]) ⟨[[.fn 94 [(A_V8_i64 a_2)] []], [i6 0]], []⟩ ?_)
 refine Ex.seq (Ex.seq ?_)
 refine rg 1 [3, 4, 5, 7] (mkS 15 [(3, .ptr 0 0), (4, i6 0), (5, .ptr 1 0), (7, .fn 74 [] [.rop [.int .u8 a_1]])]) ⟨[[.fn 94 [(A_V8_i64 a_2)] []], [i6 0]], []⟩ ?_
 refine Ex.blockK ?_
 obtain ⟨K_12, hK_13, h⟩ := letE h
 refine Ex.rangeJ (fun k S => (k = 0 ∧ ∃ (b_10 : Int), K_12 b_10 = some r ∧ S = ⟨[[.fn 94 [(A_V8_i64 a_2)] []], [i6 b_10]], [(0, 0)]⟩)) 74 [.rop [.int .u8 a_1]] _ rfl comp74 rfl (by simp [setAll]) (by exact trivial) (mkS 16 [(1, .rop [.int .u8 a_1]), (2, .tup []), (3, .tup []), (4, .tup []), (5, .tup []), (6, .tup []), (7, .tup []), (8, .tup []), (9, .tup []), (10, .tup []), (11, .tup []), (12, .tup []), (13, .tup []), (14, .tup []), (15, .tup [])]) (⟨[[.fn 94 [(A_V8_i64 a_2)] []], [i6 0]], [(0, 0)]⟩) (fun _ => by kernel_rfl) (by kernel_rfl) ?_ ?_
 ·intro cx_4 Lp_3 hcn_5 hcm_6 hLt_7 hL_8 hup_9
  refine Ex.castA (a2 := mkS 16 [(0, .yld Lp_3.l 0), (1, .rop [.int .u8 a_1]), (2, .tup []), (3, .tup []), (4, .tup []), (5, .tup []), (6, .tup []), (7, .tup []), (8, .tup []), (9, .tup []), (10, .tup []), (11, .tup []), (12, .tup []), (13, .tup []), (14, .tup []), (15, .tup [])]) (S2 := ⟨[[.fn 94 [(A_V8_i64 a_2)] []], [i6 0]], [(0, 0)]⟩) (by kernel_rfl) rfl ?_
  refine Ex.seq (rg 2 [0, 3] (mkS 16 [(0, .yld Lp_3.l 0), (3, .int .u8 a_1)]) ⟨[[.fn 94 [(A_V8_i64 a_2)] []], [i6 0]], [(0, 0)]⟩ ?_)
  obtain ⟨K_16, hK_17, h⟩ := letE h
  refine Ex.blockJ (fun a S => ∃ (b_14 : Int), K_16 b_14 = some r ∧ a = mkS 16 [] ∧ S = ⟨[[.fn 94 [(A_V8_i64 a_2)] []], [i6 b_14]], [(0, 0)]⟩) ?_ ?_
  ·obtain ⟨B_21, hB_22, h⟩ := loop2I h
   refine Ex.loopF (fun k a S => ∃ (rest_18 : Int), ∃ (b_19 : Int), loop2 B_21 k rest_18 b_19 = some r ∧ a = mkS 16 [(0, .yld Lp_3.l 0), (3, .int .u8 rest_18)] ∧ S = ⟨[[.fn 94 [(A_V8_i64 a_2)] []], [i6 b_19]], [(0, 0)]⟩) N ⟨_, _, Forgets.refl _ _ _, a_1, 0, h, rfl, rfl⟩ ?_
   rintro k a S ⟨rest_18, b_19, h, rfl, rfl⟩
   cases k with
   | zero => exact (loop2Z h).elim
   | succ k =>
    replace h := loop2S h hB_22
    refine Ex.seq (Ex.seq ?_)
    refine rg 2 [0, 3, 6] (mkS 16 [(0, .yld Lp_3.l 0), (3, .int .u8 rest_18), (6, .bool (rest_18 != 0))]) ⟨[[.fn 94 [(A_V8_i64 a_2)] []], [i6 b_19]], [(0, 0)]⟩ ?_
    rcases condI h with ⟨hc_23, h⟩ | ⟨hc_23, h⟩
    ·refine Ex.condT _ rfl hc_23 ?_
     refine Ex.skip ?_
     refine Ex.seq ?_
     refine Ex.blockK ?_
     refine Ex.seq ?_
     obtain ⟨r_24, hr_24, h⟩ := bE h
     refine Ex.regI ?_
     refine runI 2 [] [0, 3, 11, 12] [] (mkS 16 [(0, .yld Lp_3.l 0), (3, .int .u8 rest_18), (11, .yld Lp_3.l 0), (12, .int .u8 rest_18)]) (⟨[[.fn 94 [(A_V8_i64 a_2)] []], [i6 b_19]], [(0, 0)]⟩) (by kernel_rfl) trivial ?_
     refine ExI.one ?_
     refine ExO.callL [] [.int .u8 rest_18] rfl rfl (a_math_bits_TrailingZeros8 rest_18) rfl rfl (d_math_bits_TrailingZeros8 N rest_18 r_24 hr_24) (b_math_bits_TrailingZeros8 _ _ _ _) rfl ?_
     refine ExO.nil ?_
     obtain ⟨K_35, hK_36, h⟩ := letE h
     refine ExI.yieldT 0 hLt_7 hL_8 [i6 r_24] rfl rfl rfl (by kernel_rfl) rfl rfl (leC hcn_5 (by simp [setAll])) ?_
     intro ca_25 cb_26 ha_27 hb_28 hma_29 hmb_30 hup_31 hbz_32
     refine Ex.castA (a2 := mkS 15 [(3, .ptr 0 0), (4, i6 0), (5, .ptr 1 0), (7, .fn 74 [] [.rop [.int .u8 a_1]]), (8, i6 r_24)]) (S2 := ⟨[[.fn 94 [(A_V8_i64 a_2)] []], [i6 b_19]], [(0, 0)]⟩) (by kernel_rfl) (by kernel_rfl) ?_
     refine Ex.two (fun z S => (z = AEx.norm ∧ ∃ (b_33 : Int), K_35 b_33 = some r ∧ S = ⟨[[.fn 94 [(A_V8_i64 a_2)] []], [i6 b_33]], [(0, 0)]⟩)) ?_ ?_
     ·refine rg 1 [3, 5, 6] (mkS 15 [(3, .ptr 0 0), (5, .ptr 1 0), (6, i6 r_24)]) ⟨[[.fn 94 [(A_V8_i64 a_2)] []], [i6 b_19]], [(0, 0)]⟩ ?_
      refine ⟨rfl, rfl, ?_⟩
      refine Ex.blockK ?_
      obtain ⟨r_37, hr_37, h⟩ := bE h
      have hT_38 : DoesA Try.prog [⟨94, [(A_V8_i64 a_2), i6 r_24], [], (v_purse_of r_37), []⟩] ∧ ConsA [⟨94, [(A_V8_i64 a_2), i6 r_24], [], (v_purse_of r_37), []⟩] := ⟨⟨(d_purse_of N a_2 r_24 r_37 hr_37), rfl, trivial⟩, ⟨trivial, trivial⟩⟩
      refine Ex.drawE (a1 := mkS 15 [(3, .ptr 0 0), (5, .ptr 1 0), (6, i6 r_24), (9, i6 b_19), (10, .fn 94 [(A_V8_i64 a_2)] []), (11, i6 r_24), (12, i6 r_37)]) (tabO_ok hT_38.1) [] [] [] ?_ ?_
      ·refine drS [0, 1] 3 [] [] (mkS 15 [(3, .ptr 0 0), (5, .ptr 1 0), (6, i6 r_24), (9, i6 b_19), (10, .fn 94 [(A_V8_i64 a_2)] []), (11, i6 r_24)]) (by simp) (by kernel_rfl) trivial (by kernel_rfl) ?_
       refine drC hT_38.2 0 _ [(A_V8_i64 a_2), i6 r_24] (v_purse_of r_37) rfl rfl rfl rfl rfl (fun _ => rfl) rfl (by simp; try rfl) (fun _ => b_purse_of _ _ _ _) ?_
       exact DrO.nil rfl
      ·dsimp only [List.getLastD_cons, List.getLastD_nil]
       refine rn 2 [] (mkS 15 []) ⟨[[.fn 94 [(A_V8_i64 a_2)] []], [i6 (IntKind.i64.wrap (b_19 + r_37))]], [(0, 0)]⟩ ?_
       refine ExO.nil ?_
       (try simp only [reduceCtorEq, AEx.ex.injEq, Nat.reduceEqDiff, if_true, if_false])
       exact ⟨_, _, Forgets.refl _ _ _, ⟨by first | rfl | trivial, (IntKind.i64.wrap (b_19 + r_37)), h, rfl⟩⟩
     ·rintro z a2 S (⟨rfl, b_33, h, rfl⟩)
      subst hK_36
      refine runI 1 [] [0, 3, 15] [] (mkS 16 [(0, .yld Lp_3.l 0), (3, .int .u8 rest_18), (15, .bool false)]) (⟨[[.fn 94 [(A_V8_i64 a_2)] []], [i6 b_33]], [(0, 0)]⟩) (by kernel_rfl) trivial ?_
      refine ExI.nil ?_
      refine Ex.cond (b := false) rfl ?_
      refine Ex.skip ?_
      obtain ⟨n_39, hn_39, h⟩ := bE h
      refine regH 5 [(3, .eq (.int .u8 n_39))] [0, 3] [AV.int .u8 (IntKind.u8.wrap (((BitVec.ofInt (IntKind.bits .u8) rest_18 &&& BitVec.ofInt (IntKind.bits .u8) (IntKind.u8.wrap (rest_18 - 1))).toNat : Nat) : Int)) = AV.int .u8 n_39] (mkS 16 [(0, .yld Lp_3.l 0), (3, .int .u8 n_39)]) (⟨[[.fn 94 [(A_V8_i64 a_2)] []], [i6 b_33]], [(0, 0)]⟩) (by kernel_rfl) ⟨congrArg (AV.int .u8) (Option.some.inj hn_39), trivial⟩ rfl ?_
      dsimp only
      exact ⟨_, _, Forgets.refl _ _ _, k, Nat.lt_succ_self k, n_39, b_33, h, rfl, rfl⟩
    ·refine Ex.condF _ rfl hc_23 ?_
     refine Ex.exit ?_
     (try simp only [reduceCtorEq, AEx.ex.injEq, Nat.reduceEqDiff, if_true, if_false])
     exact ⟨_, _, forgetK [], b_19, h, rfl, rfl⟩
  ·rintro a S ⟨b_14, h, rfl, rfl⟩
   subst hK_17
   exact ⟨_, _, Forgets.refl _ _ _, .inl rfl, 0, rfl, ⟨by first | rfl | trivial, b_14, h, rfl⟩⟩
 ·rintro k S (⟨rfl, b_10, h, rfl⟩)
  subst hK_13
  refine Ex.seq (rg 2 [4] (mkS 15 [(4, i6 b_10)]) ⟨[[.fn 94 [(A_V8_i64 a_2)] []], [i6 b_10]], [(0, 0)]⟩ ?_)
  refine Ex.ret ?_
  obtain rfl := sJ h
  exact rt (i6 b_10)
theorem k_set_numbers (N : Nat) (s_1 : Int) (s_1z : Int) (r s : Int) (hr : p_set_numbers N s_1 = some r) (hs : p_set_numbers N s_1z = some s) : ConsR ⟨48, [.int .u8 s_1], [], v_set_numbers r, []⟩ ⟨48, [.int .u8 s_1z], [], v_set_numbers s, []⟩ := by
 intro _ h1 h2
 have h1 : ([.int .u8 s_1] : List AV) = [.int .u8 s_1z] := h1
 have h2 : ([] : List (List AV)) = [] := h2
 obtain rfl : s_1 = s_1z := (intInj _) _ _ (List.cons.inj h1).1
 rw [hr] at hs; cases hs; exact ⟨rfl, rfl⟩
def p_claims_lack (N : Nat) (c_1 : (List T_claim)) (s_2 : Int) (left_3 : T_V8_i64) : Option (Int) := ((p_set_numbers N s_2).bind fun r_4 => (letJ (fun (b_12 : Int) => ((p_set_numbers N s_2).bind fun r_42 => ((p_sum_int_set_numbers_1r_claims_amount N r_42 c_1).bind fun r_43 => ((p_set_numbers N b_12).bind fun r_44 => ((p_sum_int_set_numbers_1r_purse_of N r_44 left_3).bind fun r_46 => some (IntKind.i64.wrap (r_43 - r_46))))))) (fun k_13 => (letJ (fun (b_16 : Int) => (k_13 b_16)) (fun k_17 => (loop2 (fun rec_22 (rest_20 : Int) (b_21 : Int) => (bif (rest_20 != 0) then ((p_math_bits_TrailingZeros8 N rest_20).bind fun r_26 => (letJ (fun (b_35 : Int) => ((some (IntKind.u8.wrap (((BitVec.ofInt (IntKind.bits .u8) rest_20 &&& BitVec.ofInt (IntKind.bits .u8) (IntKind.u8.wrap (rest_20 - 1))).toNat : Nat) : Int))).bind fun n_41 => (rec_22 n_41 b_35))) (fun k_36 => ((getI c_1 r_26).bind fun x_39 => ((some (IntKind.u8.wrap (((BitVec.ofInt (IntKind.bits .u8) b_21 ||| BitVec.ofInt (IntKind.bits .u8) x_39.payers_).toNat : Nat) : Int))).bind fun n_40 => (k_36 n_40)))))) else (k_17 b_21))) N r_4 0))))))
def v_claims_lack (r : Int) : AV := i6 r
attribute [local simp] v_claims_lack
theorem a_claims_lack (c_1 : (List T_claim)) (s_2 : Int) (left_3 : T_V8_i64) : [.sl (c_1.map A_claim) none, .int .u8 s_2, (A_V8_i64 left_3)].mapM (ren []) = some [.sl (c_1.map A_claim) none, .int .u8 s_2, (A_V8_i64 left_3)] := by simp
theorem b_claims_lack (r : Int) (n n2 m : Nat) : back n n2 m (v_claims_lack r) = some (v_claims_lack r) := by simp
theorem d_claims_lack (N : Nat) (c_1 : (List T_claim)) (s_2 : Int) (left_3 : T_V8_i64) (r : Int) (h : p_claims_lack N c_1 s_2 left_3 = some r) : Does Try.prog 72 [.sl (c_1.map A_claim) none, .int .u8 s_2, (A_V8_i64 left_3)] [] fun v c => v = v_claims_lack r ∧ c = [] := by
 unfold p_claims_lack at h
 refine Does.ofL comp72 _ _ rfl rfl ?_
 refine Ex.seq (rg 3 [1, 3, 5, 6] (mkS 30 [(1, .int .u8 s_2), (3, .ptr 0 0), (5, .ptr 1 0), (6, i6 0)]) ⟨[[.sl (c_1.map A_claim) none], (C_V8_i64 left_3)], []⟩ ?_)
 refine Ex.seq (rg 2 [1, 3, 5, 6, 7] (mkS 30 [(1, .int .u8 s_2), (3, .ptr 0 0), (5, .ptr 1 0), (6, i6 0), (7, .ptr 2 0)]) ⟨[[.sl (c_1.map A_claim) none], (C_V8_i64 left_3), [.int .u8 0]], []⟩ ?_)
 refine Ex.seq (Ex.seq ?_)
 obtain ⟨r_4, hr_4, h⟩ := bE h
 refine Ex.reg (rn 1 [1, 3, 5, 6, 7, 9] (mkS 30 [(1, .int .u8 s_2), (3, .ptr 0 0), (5, .ptr 1 0), (6, i6 0), (7, .ptr 2 0), (9, .int .u8 s_2)]) ⟨[[.sl (c_1.map A_claim) none], (C_V8_i64 left_3), [.int .u8 0]], []⟩ ?_)
 refine ExO.callL [] [.int .u8 s_2] rfl rfl (a_set_numbers s_2) rfl rfl (d_set_numbers N s_2 r_4 hr_4) (b_set_numbers _ _ _ _) rfl ?_
 refine rn 0 [1, 3, 5, 6, 7, 10] (mkS 30 [(1, .int .u8 s_2), (3, .ptr 0 0), (5, .ptr 1 0), (6, i6 0), (7, .ptr 2 0), (10, .fn 74 [] [.rop [.int .u8 r_4]])]) ⟨[[.sl (c_1.map A_claim) none], (C_V8_i64 left_3), [.int .u8 0]], []⟩ ?_
 refine ExO.nil ?_
 refine Ex.blockK ?_
 obtain ⟨K_14, hK_15, h⟩ := letE h
 refine Ex.rangeJ (fun k S => (k = 0 ∧ ∃ (b_12 : Int), K_14 b_12 = some r ∧ S = ⟨[[.sl (c_1.map A_claim) none], (C_V8_i64 left_3), [.int .u8 b_12]], [(0, 0)]⟩)) 74 [.rop [.int .u8 r_4]] _ rfl comp74 rfl (by simp [setAll]) (by exact trivial) (mkS 16 [(1, .rop [.int .u8 r_4]), (2, .tup []), (3, .tup []), (4, .tup []), (5, .tup []), (6, .tup []), (7, .tup []), (8, .tup []), (9, .tup []), (10, .tup []), (11, .tup []), (12, .tup []), (13, .tup []), (14, .tup []), (15, .tup [])]) (⟨[[.sl (c_1.map A_claim) none], (C_V8_i64 left_3), [.int .u8 0]], [(0, 0)]⟩) (fun _ => by kernel_rfl) (by kernel_rfl) ?_ ?_
 ·intro cx_6 Lp_5 hcn_7 hcm_8 hLt_9 hL_10 hup_11
  refine Ex.castA (a2 := mkS 16 [(0, .yld Lp_5.l 0), (1, .rop [.int .u8 r_4]), (2, .tup []), (3, .tup []), (4, .tup []), (5, .tup []), (6, .tup []), (7, .tup []), (8, .tup []), (9, .tup []), (10, .tup []), (11, .tup []), (12, .tup []), (13, .tup []), (14, .tup []), (15, .tup [])]) (S2 := ⟨[[.sl (c_1.map A_claim) none], (C_V8_i64 left_3), [.int .u8 0]], [(0, 0)]⟩) (by kernel_rfl) rfl ?_
  refine Ex.seq (rg 2 [0, 3] (mkS 16 [(0, .yld Lp_5.l 0), (3, .int .u8 r_4)]) ⟨[[.sl (c_1.map A_claim) none], (C_V8_i64 left_3), [.int .u8 0]], [(0, 0)]⟩ ?_)
  obtain ⟨K_18, hK_19, h⟩ := letE h
  refine Ex.blockJ (fun a S => ∃ (b_16 : Int), K_18 b_16 = some r ∧ a = mkS 16 [] ∧ S = ⟨[[.sl (c_1.map A_claim) none], (C_V8_i64 left_3), [.int .u8 b_16]], [(0, 0)]⟩) ?_ ?_
  ·obtain ⟨B_23, hB_24, h⟩ := loop2I h
   refine Ex.loopF (fun k a S => ∃ (rest_20 : Int), ∃ (b_21 : Int), loop2 B_23 k rest_20 b_21 = some r ∧ a = mkS 16 [(0, .yld Lp_5.l 0), (3, .int .u8 rest_20)] ∧ S = ⟨[[.sl (c_1.map A_claim) none], (C_V8_i64 left_3), [.int .u8 b_21]], [(0, 0)]⟩) N ⟨_, _, Forgets.refl _ _ _, r_4, 0, h, rfl, rfl⟩ ?_
   rintro k a S ⟨rest_20, b_21, h, rfl, rfl⟩
   cases k with
   | zero => exact (loop2Z h).elim
   | succ k =>
    replace h := loop2S h hB_24
    refine Ex.seq (Ex.seq ?_)
    refine rg 2 [0, 3, 6] (mkS 16 [(0, .yld Lp_5.l 0), (3, .int .u8 rest_20), (6, .bool (rest_20 != 0))]) ⟨[[.sl (c_1.map A_claim) none], (C_V8_i64 left_3), [.int .u8 b_21]], [(0, 0)]⟩ ?_
    rcases condI h with ⟨hc_25, h⟩ | ⟨hc_25, h⟩
    ·refine Ex.condT _ rfl hc_25 ?_
     refine Ex.skip ?_
     refine Ex.seq ?_
     refine Ex.blockK ?_
     refine Ex.seq ?_
     obtain ⟨r_26, hr_26, h⟩ := bE h
     refine Ex.regI ?_
     refine runI 2 [] [0, 3, 11, 12] [] (mkS 16 [(0, .yld Lp_5.l 0), (3, .int .u8 rest_20), (11, .yld Lp_5.l 0), (12, .int .u8 rest_20)]) (⟨[[.sl (c_1.map A_claim) none], (C_V8_i64 left_3), [.int .u8 b_21]], [(0, 0)]⟩) (by kernel_rfl) trivial ?_
     refine ExI.one ?_
     refine ExO.callL [] [.int .u8 rest_20] rfl rfl (a_math_bits_TrailingZeros8 rest_20) rfl rfl (d_math_bits_TrailingZeros8 N rest_20 r_26 hr_26) (b_math_bits_TrailingZeros8 _ _ _ _) rfl ?_
     refine ExO.nil ?_
     obtain ⟨K_37, hK_38, h⟩ := letE h
     refine ExI.yieldT 0 hLt_9 hL_10 [i6 r_26] rfl rfl rfl (by kernel_rfl) rfl rfl (leC hcn_7 (by simp [setAll])) ?_
     intro ca_27 cb_28 ha_29 hb_30 hma_31 hmb_32 hup_33 hbz_34
     refine Ex.castA (a2 := mkS 30 [(1, .int .u8 s_2), (3, .ptr 0 0), (5, .ptr 1 0), (6, i6 0), (7, .ptr 2 0), (10, .fn 74 [] [.rop [.int .u8 r_4]]), (11, i6 r_26)]) (S2 := ⟨[[.sl (c_1.map A_claim) none], (C_V8_i64 left_3), [.int .u8 b_21]], [(0, 0)]⟩) (by kernel_rfl) (by kernel_rfl) ?_
     refine Ex.two (fun z S => (z = AEx.norm ∧ ∃ (b_35 : Int), K_37 b_35 = some r ∧ S = ⟨[[.sl (c_1.map A_claim) none], (C_V8_i64 left_3), [.int .u8 b_35]], [(0, 0)]⟩)) ?_ ?_
     ·refine rg 1 [3, 7, 8] (mkS 30 [(3, .ptr 0 0), (7, .ptr 2 0), (8, i6 r_26)]) ⟨[[.sl (c_1.map A_claim) none], (C_V8_i64 left_3), [.int .u8 b_21]], [(0, 0)]⟩ ?_
      refine ⟨rfl, rfl, ?_⟩
      refine Ex.blockK ?_
      obtain ⟨x_39, hx_39, h⟩ := bE h
      refine Ex.drawE (a1 := mkS 30 [(3, .ptr 0 0), (7, .ptr 2 0), (8, i6 r_26), (12, .int .u8 b_21), (13, .sl (c_1.map A_claim) none), (14, i6 r_26), (15, .rop (C_claim x_39)), (16, .rop [.int .u8 x_39.payers_]), (17, .int .u8 x_39.payers_)]) (noClr_ok _) [] [] [] ?_ ?_
      ·refine drS [0, 1, 2] 6 [(3, .rop (C_claim x_39))] [LGet (c_1.map A_claim) r_26 2 (C_claim x_39)] (mkS 30 [(3, .ptr 0 0), (7, .ptr 2 0), (8, i6 r_26), (12, .int .u8 b_21), (13, .sl (c_1.map A_claim) none), (14, i6 r_26), (15, .rop (C_claim x_39)), (16, .rop [.int .u8 x_39.payers_]), (17, .int .u8 x_39.payers_)]) (by simp) (by kernel_rfl) ⟨LGet.of hx_39 rfl, trivial⟩ (by kernel_rfl) ?_
       exact DrO.nil rfl
      ·dsimp only [List.getLastD_cons, List.getLastD_nil]
       obtain ⟨n_40, hn_40, h⟩ := bE h
       refine runH 2 [(0, .eq (.int .u8 n_40))] [] [AV.int .u8 (IntKind.u8.wrap (((BitVec.ofInt (IntKind.bits .u8) b_21 ||| BitVec.ofInt (IntKind.bits .u8) x_39.payers_).toNat : Nat) : Int)) = AV.int .u8 n_40] (mkS 30 []) (⟨[[.sl (c_1.map A_claim) none], (C_V8_i64 left_3), [.int .u8 n_40]], [(0, 0)]⟩) (by kernel_rfl) ⟨congrArg (AV.int .u8) (Option.some.inj hn_40), trivial⟩ ?_
       refine ExO.nil ?_
       (try simp only [reduceCtorEq, AEx.ex.injEq, Nat.reduceEqDiff, if_true, if_false])
       exact ⟨_, _, Forgets.refl _ _ _, ⟨by first | rfl | trivial, n_40, h, rfl⟩⟩
     ·rintro z a2 S (⟨rfl, b_35, h, rfl⟩)
      subst hK_38
      refine runI 1 [] [0, 3, 15] [] (mkS 16 [(0, .yld Lp_5.l 0), (3, .int .u8 rest_20), (15, .bool false)]) (⟨[[.sl (c_1.map A_claim) none], (C_V8_i64 left_3), [.int .u8 b_35]], [(0, 0)]⟩) (by kernel_rfl) trivial ?_
      refine ExI.nil ?_
      refine Ex.cond (b := false) rfl ?_
      refine Ex.skip ?_
      obtain ⟨n_41, hn_41, h⟩ := bE h
      refine regH 5 [(3, .eq (.int .u8 n_41))] [0, 3] [AV.int .u8 (IntKind.u8.wrap (((BitVec.ofInt (IntKind.bits .u8) rest_20 &&& BitVec.ofInt (IntKind.bits .u8) (IntKind.u8.wrap (rest_20 - 1))).toNat : Nat) : Int)) = AV.int .u8 n_41] (mkS 16 [(0, .yld Lp_5.l 0), (3, .int .u8 n_41)]) (⟨[[.sl (c_1.map A_claim) none], (C_V8_i64 left_3), [.int .u8 b_35]], [(0, 0)]⟩) (by kernel_rfl) ⟨congrArg (AV.int .u8) (Option.some.inj hn_41), trivial⟩ rfl ?_
      dsimp only
      exact ⟨_, _, Forgets.refl _ _ _, k, Nat.lt_succ_self k, n_41, b_35, h, rfl, rfl⟩
    ·refine Ex.condF _ rfl hc_25 ?_
     refine Ex.exit ?_
     (try simp only [reduceCtorEq, AEx.ex.injEq, Nat.reduceEqDiff, if_true, if_false])
     exact ⟨_, _, forgetK [], b_21, h, rfl, rfl⟩
  ·rintro a S ⟨b_16, h, rfl, rfl⟩
   subst hK_19
   exact ⟨_, _, Forgets.refl _ _ _, .inl rfl, 0, rfl, ⟨by first | rfl | trivial, b_16, h, rfl⟩⟩
 ·rintro k S (⟨rfl, b_12, h, rfl⟩)
  subst hK_15
  refine Ex.seq ?_
  obtain ⟨r_42, hr_42, h⟩ := bE h
  obtain ⟨r_43, hr_43, h⟩ := bE h
  obtain ⟨r_44, hr_44, h⟩ := bE h
  have hT_45 : DoesA Try.prog [⟨48, [.int .u8 s_2], [], (v_set_numbers r_42), []⟩, ⟨87, [.fn 74 [] [.rop [.int .u8 r_42]], .fn 93 [.sl (c_1.map A_claim) none] []], [], (v_sum_int_set_numbers_1r_claims_amount r_43), []⟩, ⟨48, [.int .u8 b_12], [], (v_set_numbers r_44), []⟩] ∧ ConsA [⟨48, [.int .u8 s_2], [], (v_set_numbers r_42), []⟩, ⟨87, [.fn 74 [] [.rop [.int .u8 r_42]], .fn 93 [.sl (c_1.map A_claim) none] []], [], (v_sum_int_set_numbers_1r_claims_amount r_43), []⟩, ⟨48, [.int .u8 b_12], [], (v_set_numbers r_44), []⟩] := ⟨⟨(d_set_numbers N s_2 r_42 hr_42), rfl, (d_sum_int_set_numbers_1r_claims_amount N r_42 c_1 r_43 hr_43), rfl, (d_set_numbers N b_12 r_44 hr_44), rfl, trivial⟩, ⟨⟨ConsR.ne rfl, k_set_numbers N s_2 b_12 r_42 r_44 hr_42 hr_44, trivial⟩, ⟨ConsR.ne rfl, trivial⟩, trivial, trivial⟩⟩
  refine Ex.drawE (a1 := mkS 30 [(1, .int .u8 s_2), (3, .ptr 0 0), (5, .ptr 1 0), (6, i6 0), (7, .ptr 2 0), (10, .fn 74 [] [.rop [.int .u8 r_4]]), (19, .int .u8 s_2), (20, .fn 74 [] [.rop [.int .u8 r_42]]), (21, .sl (c_1.map A_claim) none), (22, .fn 93 [.sl (c_1.map A_claim) none] []), (23, i6 r_43), (24, .int .u8 b_12), (25, .fn 74 [] [.rop [.int .u8 r_44]]), (26, (A_V8_i64 left_3)), (27, .fn 94 [(A_V8_i64 left_3)] [])]) (tabO_ok hT_45.1) [] [] [] ?_ ?_
  ·refine drS [0, 1, 2] 1 [] [] (mkS 30 [(1, .int .u8 s_2), (3, .ptr 0 0), (5, .ptr 1 0), (6, i6 0), (7, .ptr 2 0), (10, .fn 74 [] [.rop [.int .u8 r_4]]), (19, .int .u8 s_2)]) (by simp) (by kernel_rfl) trivial (by kernel_rfl) ?_
   refine drC hT_45.2 0 _ [.int .u8 s_2] (v_set_numbers r_42) rfl rfl rfl rfl rfl (fun _ => rfl) rfl (by simp; try rfl) (fun _ => b_set_numbers _ _ _ _) ?_
   refine drS [0, 1, 2] 2 [] [] (mkS 30 [(1, .int .u8 s_2), (3, .ptr 0 0), (5, .ptr 1 0), (6, i6 0), (7, .ptr 2 0), (10, .fn 74 [] [.rop [.int .u8 r_4]]), (19, .int .u8 s_2), (20, .fn 74 [] [.rop [.int .u8 r_42]]), (21, .sl (c_1.map A_claim) none), (22, .fn 93 [.sl (c_1.map A_claim) none] [])]) (by simp) (by kernel_rfl) trivial (by kernel_rfl) ?_
   refine drC hT_45.2 1 _ [.fn 74 [] [.rop [.int .u8 r_42]], .fn 93 [.sl (c_1.map A_claim) none] []] (v_sum_int_set_numbers_1r_claims_amount r_43) rfl rfl rfl rfl rfl (fun _ => rfl) rfl (by simp; try rfl) (fun _ => b_sum_int_set_numbers_1r_claims_amount _ _ _ _) ?_
   refine drS [0, 1, 2] 1 [] [] (mkS 30 [(1, .int .u8 s_2), (3, .ptr 0 0), (5, .ptr 1 0), (6, i6 0), (7, .ptr 2 0), (10, .fn 74 [] [.rop [.int .u8 r_4]]), (19, .int .u8 s_2), (20, .fn 74 [] [.rop [.int .u8 r_42]]), (21, .sl (c_1.map A_claim) none), (22, .fn 93 [.sl (c_1.map A_claim) none] []), (23, i6 r_43), (24, .int .u8 b_12)]) (by simp) (by kernel_rfl) trivial (by kernel_rfl) ?_
   refine drC hT_45.2 2 _ [.int .u8 b_12] (v_set_numbers r_44) rfl rfl rfl rfl rfl (fun _ => rfl) rfl (by simp; try rfl) (fun _ => b_set_numbers _ _ _ _) ?_
   refine drS [0, 1, 2] 2 [] [] (mkS 30 [(1, .int .u8 s_2), (3, .ptr 0 0), (5, .ptr 1 0), (6, i6 0), (7, .ptr 2 0), (10, .fn 74 [] [.rop [.int .u8 r_4]]), (19, .int .u8 s_2), (20, .fn 74 [] [.rop [.int .u8 r_42]]), (21, .sl (c_1.map A_claim) none), (22, .fn 93 [.sl (c_1.map A_claim) none] []), (23, i6 r_43), (24, .int .u8 b_12), (25, .fn 74 [] [.rop [.int .u8 r_44]]), (26, (A_V8_i64 left_3)), (27, .fn 94 [(A_V8_i64 left_3)] [])]) (by simp) (by kernel_rfl) trivial (by kernel_rfl) ?_
   exact DrO.nil rfl
  ·dsimp only [List.getLastD_cons, List.getLastD_nil]
   obtain ⟨r_46, hr_46, h⟩ := bE h
   refine ExO.callL [] [.fn 74 [] [.rop [.int .u8 r_44]], .fn 94 [(A_V8_i64 left_3)] []] rfl rfl (by simp; try rfl) rfl rfl (d_sum_int_set_numbers_1r_purse_of N r_44 left_3 r_46 hr_46) (b_sum_int_set_numbers_1r_purse_of _ _ _ _) rfl ?_
   refine rn 2 [6] (mkS 30 [(6, i6 (IntKind.i64.wrap (r_43 - r_46)))]) ⟨[[.sl (c_1.map A_claim) none], (C_V8_i64 left_3), [.int .u8 b_12]], [(0, 0)]⟩ ?_
   refine ExO.nil ?_
   refine Ex.ret ?_
   obtain rfl := sJ h
   exact rt (i6 (IntKind.i64.wrap (r_43 - r_46)))
end Go.Proofs.Ytfhapfljomgmnaa
end
