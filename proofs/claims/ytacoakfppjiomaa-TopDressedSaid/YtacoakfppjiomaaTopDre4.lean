/- Part 5 of what the law needs: own work, put together. -/
import Derived.ProofKit
import Derived.Test.YtacoakfppjiomaaRows
import Derived.Test.YtacoakfppjiomaaTopDre3
set_option linter.unusedVariables false
set_option linter.unusedSimpArgs false
set_option maxRecDepth 10000
set_option maxHeartbeats 4000000
section
namespace Go.Proofs.Ytacoakfppjiomaa
open Go.RowKit
attribute [local simp] ren ren1 AV.plain AV.plain1 AV.clean cleanL cleanI cleanBo cleanSt cleanII KL_bk_Drum KL_Span KL_Wing KL_School KL_V2_i64 KL_V8_i64 KL_parade_truth KL_Part KL_Plot A_bk_Drum C_bk_Drum A_Span C_Span A_Wing C_Wing A_School C_School A_V2_i64 C_V2_i64 A_V8_i64 C_V8_i64 A_parade_truth C_parade_truth A_Part C_Part A_Plot C_Plot back back1 fadeS fadeV List.idxOf? List.findIdx? List.findIdx?.go re re1 KB_bk_Drum KB_Span KB_Wing KB_School KB_V2_i64 KB_V8_i64 KB_parade_truth KB_Part KB_Plot thawS thawV solid1 chillS chillV
def p_bateriatop_dressAwake (N : Nat)  : Option (Bool) := ((p_parade_Least N (⟨1000, [(⟨(ByteArray.mk #[102, 114, 111, 110, 116]), 100, (⟨40, 50⟩ : T_Span)⟩ : T_Wing), (⟨(ByteArray.mk #[100, 114, 117, 109, 115]), 200, (⟨50, 60⟩ : T_Span)⟩ : T_Wing)]⟩ : T_School)).bind fun r_1 => ((p_costume_At N (⟨[(⟨40, 42⟩ : T_Span)], [[0]], [10], [(⟨0, 0, 0, 100, 120⟩ : T_Part)]⟩ : T_Plot) 0 119).bind fun r_2 => (bif (r_1.2 == 0) then (bif (r_2.2 == 0) then ((p_bk_EqInts N r_1.1 [0, 3]).bind fun r_5 => (bif r_5 then some (r_2.1 == 0) else some false)) else some false) else some false)))
def v_bateriatop_dressAwake (r : Bool) : AV := .bool r
attribute [local simp] v_bateriatop_dressAwake
theorem a_bateriatop_dressAwake  : [].mapM (ren []) = some [] := by simp
theorem b_bateriatop_dressAwake (r : Bool) (n n2 m : Nat) : back n n2 m (v_bateriatop_dressAwake r) = some (v_bateriatop_dressAwake r) := by simp
theorem d_bateriatop_dressAwake (N : Nat)  (r : Bool) (h : p_bateriatop_dressAwake N  = some r) : Does Try.prog 25 [] [] fun v c => v = v_bateriatop_dressAwake r ∧ c = [] := by
 unfold p_bateriatop_dressAwake at h
 refine Does.ofL comp25 _ _ rfl rfl ?_
 refine Ex.seq (rg 1 [] (mkS 46 []) ⟨[], []⟩ ?_)
 refine Ex.seq (rg 8 [1] (mkS 46 [(1, .ptr 0 0)]) ⟨[[i6 1000, .sl (([(⟨(ByteArray.mk #[102, 114, 111, 110, 116]), 100, (⟨40, 50⟩ : T_Span)⟩ : T_Wing), (⟨(ByteArray.mk #[100, 114, 117, 109, 115]), 200, (⟨50, 60⟩ : T_Span)⟩ : T_Wing)] : List T_Wing).map A_Wing) (some 0)]], [(2, 4)]⟩ ?_)
 refine Ex.seq ?_
 obtain ⟨r_1, hr_1, h⟩ := bE h
 refine Ex.reg (rn 1 [14] (mkS 46 [(14, .agg [i6 1000, .sl (([(⟨(ByteArray.mk #[102, 114, 111, 110, 116]), 100, (⟨40, 50⟩ : T_Span)⟩ : T_Wing), (⟨(ByteArray.mk #[100, 114, 117, 109, 115]), 200, (⟨50, 60⟩ : T_Span)⟩ : T_Wing)] : List T_Wing).map A_Wing) (some 0)])]) ⟨[[i6 1000, .sl (([(⟨(ByteArray.mk #[102, 114, 111, 110, 116]), 100, (⟨40, 50⟩ : T_Span)⟩ : T_Wing), (⟨(ByteArray.mk #[100, 114, 117, 109, 115]), 200, (⟨50, 60⟩ : T_Span)⟩ : T_Wing)] : List T_Wing).map A_Wing) (some 0)]], [(2, 4)]⟩ ?_)
 refine ExO.callL [] [.agg [i6 1000, .sl (([(⟨(ByteArray.mk #[102, 114, 111, 110, 116]), 100, (⟨40, 50⟩ : T_Span)⟩ : T_Wing), (⟨(ByteArray.mk #[100, 114, 117, 109, 115]), 200, (⟨50, 60⟩ : T_Span)⟩ : T_Wing)] : List T_Wing).map A_Wing) (some 0)]] rfl rfl (a_parade_Least (⟨1000, [(⟨(ByteArray.mk #[102, 114, 111, 110, 116]), 100, (⟨40, 50⟩ : T_Span)⟩ : T_Wing), (⟨(ByteArray.mk #[100, 114, 117, 109, 115]), 200, (⟨50, 60⟩ : T_Span)⟩ : T_Wing)]⟩ : T_School)) rfl rfl (d_parade_Least N (⟨1000, [(⟨(ByteArray.mk #[102, 114, 111, 110, 116]), 100, (⟨40, 50⟩ : T_Span)⟩ : T_Wing), (⟨(ByteArray.mk #[100, 114, 117, 109, 115]), 200, (⟨50, 60⟩ : T_Span)⟩ : T_Wing)]⟩ : T_School) r_1 hr_1) (b_parade_Least _ _ _ _) rfl ?_
 refine rn 5 [2, 3] (mkS 46 [(2, .sl (r_1.1.map (AV.int .i64)) none), (3, i6 r_1.2)]) ⟨[[i6 1000, .sl (([(⟨(ByteArray.mk #[102, 114, 111, 110, 116]), 100, (⟨40, 50⟩ : T_Span)⟩ : T_Wing), (⟨(ByteArray.mk #[100, 114, 117, 109, 115]), 200, (⟨50, 60⟩ : T_Span)⟩ : T_Wing)] : List T_Wing).map A_Wing) (some 0)]], [(2, 4)]⟩ ?_
 refine ExO.nil ?_
 refine Ex.seq ?_
 refine Ex.postF ?_
 refine rg 10 [2, 3, 4] (mkS 46 [(2, .sl (r_1.1.map (AV.int .i64)) none), (3, i6 r_1.2), (4, .ptr 1 0)]) ⟨[[i6 1000, .sl (([(⟨(ByteArray.mk #[102, 114, 111, 110, 116]), 100, (⟨40, 50⟩ : T_Span)⟩ : T_Wing), (⟨(ByteArray.mk #[100, 114, 117, 109, 115]), 200, (⟨50, 60⟩ : T_Span)⟩ : T_Wing)] : List T_Wing).map A_Wing) (some 0)], [.sl (([(⟨40, 42⟩ : T_Span)] : List T_Span).map A_Span) (some 1), .sl [.sl (([0] : List Int).map (AV.int .i64)) (some 2)] (some 3), .sl (([10] : List Int).map (AV.int .i64)) (some 4), .sl (([(⟨0, 0, 0, 100, 120⟩ : T_Part)] : List T_Part).map A_Part) (some 5)]], [(2, 4), (1, 2), (1, 1), (1, 1), (1, 1), (1, 5)]⟩ ?_
 refine ⟨mkS 46 [(2, .sl (r_1.1.map (AV.int .i64)) none), (3, i6 r_1.2), (4, .ptr 1 0)], ⟨[[i6 1000, .sl (([(⟨(ByteArray.mk #[102, 114, 111, 110, 116]), 100, (⟨40, 50⟩ : T_Span)⟩ : T_Wing), (⟨(ByteArray.mk #[100, 114, 117, 109, 115]), 200, (⟨50, 60⟩ : T_Span)⟩ : T_Wing)] : List T_Wing).map A_Wing) (some 0)], [.sl (([(⟨40, 42⟩ : T_Span)] : List T_Span).map A_Span) (some 1), .sl (([[0]] : List (List Int)).map (SV (AV.int .i64))) (some 3), .sl (([10] : List Int).map (AV.int .i64)) (some 4), .sl (([(⟨0, 0, 0, 100, 120⟩ : T_Part)] : List T_Part).map A_Part) (some 5)]], [(2, 4), (1, 2), (1, 1), (1, 1), (1, 1), (1, 5)]⟩, Forgets.castR (by kernel_rfl) rfl (fadeB 1 [.sl (([(⟨40, 42⟩ : T_Span)] : List T_Span).map A_Span) (some 1), .sl [.sl (([0] : List Int).map (AV.int .i64)) (some 2)] (some 3), .sl (([10] : List Int).map (AV.int .i64)) (some 4), .sl (([(⟨0, 0, 0, 100, 120⟩ : T_Part)] : List T_Part).map A_Part) (some 5)] [false, true, false, false] rfl), ?_⟩
 refine Ex.seq ?_
 obtain ⟨r_2, hr_2, h⟩ := bE h
 refine Ex.reg (rn 1 [2, 3, 27] (mkS 46 [(2, .sl (r_1.1.map (AV.int .i64)) none), (3, i6 r_1.2), (27, .agg [.sl (([(⟨40, 42⟩ : T_Span)] : List T_Span).map A_Span) (some 1), .sl (([[0]] : List (List Int)).map (SV (AV.int .i64))) (some 3), .sl (([10] : List Int).map (AV.int .i64)) (some 4), .sl (([(⟨0, 0, 0, 100, 120⟩ : T_Part)] : List T_Part).map A_Part) (some 5)])]) ⟨[[i6 1000, .sl (([(⟨(ByteArray.mk #[102, 114, 111, 110, 116]), 100, (⟨40, 50⟩ : T_Span)⟩ : T_Wing), (⟨(ByteArray.mk #[100, 114, 117, 109, 115]), 200, (⟨50, 60⟩ : T_Span)⟩ : T_Wing)] : List T_Wing).map A_Wing) (some 0)], [.sl (([(⟨40, 42⟩ : T_Span)] : List T_Span).map A_Span) (some 1), .sl (([[0]] : List (List Int)).map (SV (AV.int .i64))) (some 3), .sl (([10] : List Int).map (AV.int .i64)) (some 4), .sl (([(⟨0, 0, 0, 100, 120⟩ : T_Part)] : List T_Part).map A_Part) (some 5)]], [(2, 4), (1, 2), (1, 1), (1, 1), (1, 1), (1, 5)]⟩ ?_)
 refine ExO.callL [] [.agg [.sl (([(⟨40, 42⟩ : T_Span)] : List T_Span).map A_Span) (some 1), .sl (([[0]] : List (List Int)).map (SV (AV.int .i64))) (some 3), .sl (([10] : List Int).map (AV.int .i64)) (some 4), .sl (([(⟨0, 0, 0, 100, 120⟩ : T_Part)] : List T_Part).map A_Part) (some 5)], i6 0, i6 119] rfl rfl (a_costume_At (⟨[(⟨40, 42⟩ : T_Span)], [[0]], [10], [(⟨0, 0, 0, 100, 120⟩ : T_Part)]⟩ : T_Plot) 0 119) rfl rfl (d_costume_At N (⟨[(⟨40, 42⟩ : T_Span)], [[0]], [10], [(⟨0, 0, 0, 100, 120⟩ : T_Part)]⟩ : T_Plot) 0 119 r_2 hr_2) (b_costume_At _ _ _ _) rfl ?_
 refine rn 5 [2, 3, 5, 6] (mkS 46 [(2, .sl (r_1.1.map (AV.int .i64)) none), (3, i6 r_1.2), (5, i6 r_2.1), (6, i6 r_2.2)]) ⟨[[i6 1000, .sl (([(⟨(ByteArray.mk #[102, 114, 111, 110, 116]), 100, (⟨40, 50⟩ : T_Span)⟩ : T_Wing), (⟨(ByteArray.mk #[100, 114, 117, 109, 115]), 200, (⟨50, 60⟩ : T_Span)⟩ : T_Wing)] : List T_Wing).map A_Wing) (some 0)], [.sl (([(⟨40, 42⟩ : T_Span)] : List T_Span).map A_Span) (some 1), .sl (([[0]] : List (List Int)).map (SV (AV.int .i64))) (some 3), .sl (([10] : List Int).map (AV.int .i64)) (some 4), .sl (([(⟨0, 0, 0, 100, 120⟩ : T_Part)] : List T_Part).map A_Part) (some 5)]], [(2, 4), (1, 2), (1, 1), (1, 1), (1, 1), (1, 5)]⟩ ?_
 refine ExO.nil ?_
 refine Ex.seq ?_
 rcases condI h with ⟨hc_3, h⟩ | ⟨hc_3, h⟩
 ·rcases condI h with ⟨hc_4, h⟩ | ⟨hc_4, h⟩
  ·obtain ⟨r_5, hr_5, h⟩ := bE h
   refine Ex.reg ?_
   refine runH 9 [(2, .eq (.bool true)), (6, .eq (.bool true))] [5, 37, 38, 39] [AV.bool (r_1.2 == 0) = AV.bool true, AV.bool (r_2.2 == 0) = AV.bool true] (mkS 46 [(5, i6 r_2.1), (37, .bool true), (38, .sl (r_1.1.map (AV.int .i64)) none), (39, .sl (([0, 3] : List Int).map (AV.int .i64)) (some 6))]) (⟨[[i6 1000, .sl (([(⟨(ByteArray.mk #[102, 114, 111, 110, 116]), 100, (⟨40, 50⟩ : T_Span)⟩ : T_Wing), (⟨(ByteArray.mk #[100, 114, 117, 109, 115]), 200, (⟨50, 60⟩ : T_Span)⟩ : T_Wing)] : List T_Wing).map A_Wing) (some 0)], [.sl (([(⟨40, 42⟩ : T_Span)] : List T_Span).map A_Span) (some 1), .sl (([[0]] : List (List Int)).map (SV (AV.int .i64))) (some 3), .sl (([10] : List Int).map (AV.int .i64)) (some 4), .sl (([(⟨0, 0, 0, 100, 120⟩ : T_Part)] : List T_Part).map A_Part) (some 5)]], [(2, 4), (1, 2), (1, 1), (1, 1), (1, 1), (1, 5), (2, 1)]⟩) (by kernel_rfl) ⟨congrArg AV.bool hc_3, congrArg AV.bool hc_4, trivial⟩ ?_
   refine ExO.callL [] [.sl (r_1.1.map (AV.int .i64)) none, .sl (([0, 3] : List Int).map (AV.int .i64)) (some 6)] rfl rfl (a_bk_EqInts r_1.1 [0, 3]) rfl rfl (d_bk_EqInts N r_1.1 [0, 3] r_5 hr_5) (b_bk_EqInts _ _ _ _) rfl ?_
   rcases condI h with ⟨hc_6, h⟩ | ⟨hc_6, h⟩
   ·refine runH 6 [(1, .eq (.bool true))] [0] [AV.bool r_5 = AV.bool true] (mkS 46 [(0, .bool (r_2.1 == 0))]) (⟨[[i6 1000, .sl (([(⟨(ByteArray.mk #[102, 114, 111, 110, 116]), 100, (⟨40, 50⟩ : T_Span)⟩ : T_Wing), (⟨(ByteArray.mk #[100, 114, 117, 109, 115]), 200, (⟨50, 60⟩ : T_Span)⟩ : T_Wing)] : List T_Wing).map A_Wing) (some 0)], [.sl (([(⟨40, 42⟩ : T_Span)] : List T_Span).map A_Span) (some 1), .sl (([[0]] : List (List Int)).map (SV (AV.int .i64))) (some 3), .sl (([10] : List Int).map (AV.int .i64)) (some 4), .sl (([(⟨0, 0, 0, 100, 120⟩ : T_Part)] : List T_Part).map A_Part) (some 5)]], [(2, 4), (1, 2), (1, 1), (1, 1), (1, 1), (1, 5), (2, 1)]⟩) (by kernel_rfl) ⟨congrArg AV.bool hc_6, trivial⟩ ?_
    refine ExO.nil ?_
    refine Ex.ret ?_
    obtain rfl := sJ h
    exact rt (.bool (r_2.1 == 0))
   ·refine runH 6 [(1, .eq (.bool false))] [0] [AV.bool r_5 = AV.bool false] (mkS 46 [(0, .bool false)]) (⟨[[i6 1000, .sl (([(⟨(ByteArray.mk #[102, 114, 111, 110, 116]), 100, (⟨40, 50⟩ : T_Span)⟩ : T_Wing), (⟨(ByteArray.mk #[100, 114, 117, 109, 115]), 200, (⟨50, 60⟩ : T_Span)⟩ : T_Wing)] : List T_Wing).map A_Wing) (some 0)], [.sl (([(⟨40, 42⟩ : T_Span)] : List T_Span).map A_Span) (some 1), .sl (([[0]] : List (List Int)).map (SV (AV.int .i64))) (some 3), .sl (([10] : List Int).map (AV.int .i64)) (some 4), .sl (([(⟨0, 0, 0, 100, 120⟩ : T_Part)] : List T_Part).map A_Part) (some 5)]], [(2, 4), (1, 2), (1, 1), (1, 1), (1, 1), (1, 5), (2, 1)]⟩) (by kernel_rfl) ⟨congrArg AV.bool hc_6, trivial⟩ ?_
    refine ExO.nil ?_
    refine Ex.ret ?_
    obtain rfl := sJ h
    exact rt (.bool false)
  ·refine regH 16 [(2, .eq (.bool true)), (6, .eq (.bool false))] [0] [AV.bool (r_1.2 == 0) = AV.bool true, AV.bool (r_2.2 == 0) = AV.bool false] (mkS 46 [(0, .bool false)]) (⟨[[i6 1000, .sl (([(⟨(ByteArray.mk #[102, 114, 111, 110, 116]), 100, (⟨40, 50⟩ : T_Span)⟩ : T_Wing), (⟨(ByteArray.mk #[100, 114, 117, 109, 115]), 200, (⟨50, 60⟩ : T_Span)⟩ : T_Wing)] : List T_Wing).map A_Wing) (some 0)], [.sl (([(⟨40, 42⟩ : T_Span)] : List T_Span).map A_Span) (some 1), .sl (([[0]] : List (List Int)).map (SV (AV.int .i64))) (some 3), .sl (([10] : List Int).map (AV.int .i64)) (some 4), .sl (([(⟨0, 0, 0, 100, 120⟩ : T_Part)] : List T_Part).map A_Part) (some 5)]], [(2, 4), (1, 2), (1, 1), (1, 1), (1, 1), (1, 5)]⟩) (by kernel_rfl) ⟨congrArg AV.bool hc_3, congrArg AV.bool hc_4, trivial⟩ rfl ?_
   refine Ex.ret ?_
   obtain rfl := sJ h
   exact rt (.bool false)
 ·refine regH 16 [(2, .eq (.bool false))] [0] [AV.bool (r_1.2 == 0) = AV.bool false] (mkS 46 [(0, .bool false)]) (⟨[[i6 1000, .sl (([(⟨(ByteArray.mk #[102, 114, 111, 110, 116]), 100, (⟨40, 50⟩ : T_Span)⟩ : T_Wing), (⟨(ByteArray.mk #[100, 114, 117, 109, 115]), 200, (⟨50, 60⟩ : T_Span)⟩ : T_Wing)] : List T_Wing).map A_Wing) (some 0)], [.sl (([(⟨40, 42⟩ : T_Span)] : List T_Span).map A_Span) (some 1), .sl (([[0]] : List (List Int)).map (SV (AV.int .i64))) (some 3), .sl (([10] : List Int).map (AV.int .i64)) (some 4), .sl (([(⟨0, 0, 0, 100, 120⟩ : T_Part)] : List T_Part).map A_Part) (some 5)]], [(2, 4), (1, 2), (1, 1), (1, 1), (1, 1), (1, 5)]⟩) (by kernel_rfl) ⟨congrArg AV.bool hc_3, trivial⟩ rfl ?_
  refine Ex.ret ?_
  obtain rfl := sJ h
  exact rt (.bool false)
theorem m_bk_StartsOf (N : Nat) (d_1 : T_bk_Drum) (s_2 : T_School) (r : (List Int) × T_bk_Drum) (h : p_bk_StartsOf N d_1 s_2 = some r) : Does Try.prog 22 [.ptr 0 0, (A_School s_2)] [(C_bk_Drum d_1)] fun v c => v = .ms 1 r.1.length 1 ∧ c = [(C_bk_Drum r.2), (flat (r.1.map (AV.int .i64)))] := by
 unfold p_bk_StartsOf at h
 refine Does.ofM comp22 _ _ rfl ?_
 refine Ex.seq (rg 2 [0, 3] (mkS 30 [(0, .ptr 0 0), (3, .ptr 1 0)]) ⟨[(C_bk_Drum d_1), (C_School s_2)], []⟩ ?_)
 refine Ex.seq (rg 1 [0, 3, 5] (mkS 30 [(0, .ptr 0 0), (3, .ptr 1 0), (5, .nils)]) ⟨[(C_bk_Drum d_1), (C_School s_2)], []⟩ ?_)
 refine Ex.seq (Ex.seq ?_)
 refine rg 1 [0, 3, 5, 6] (mkS 30 [(0, .ptr 0 0), (3, .ptr 1 0), (5, .nils), (6, i6 0)]) ⟨[(C_bk_Drum d_1), (C_School s_2)], []⟩ ?_
 obtain ⟨K_6, hK_7, h⟩ := letE h
 refine Ex.blockJ (fun a S => ∃ (out_3 : List Int), ∃ (b_4 : Int), K_6 out_3 b_4 = some r ∧ a = mkS 30 [(5, .sl (out_3.map (AV.int .i64)) (some 0))] ∧ S = ⟨[[.int .u64 b_4]], [(out_3.length, 1)]⟩) ?_ ?_
 ·refine Ex.forget (nilK 5 1 rfl) ?_
  refine Ex.castA (a2 := mkS 30 [(0, .ptr 0 0), (3, .ptr 1 0), (5, .sl (([] : List Int).map (AV.int .i64)) (some 0)), (6, i6 0)]) (S2 := ⟨[(C_bk_Drum d_1), (C_School s_2)], [(0, 1)]⟩) (by kernel_rfl) (by kernel_rfl) ?_
  obtain ⟨B_12, hB_13, h⟩ := loop3I h
  refine Ex.loopF (fun k a S => ∃ (out_8 : List Int), ∃ (i_9 : Int), ∃ (b_10 : Int), loop3 B_12 k out_8 i_9 b_10 = some r ∧ a = mkS 30 [(0, .ptr 0 0), (3, .ptr 1 0), (5, .sl (out_8.map (AV.int .i64)) (some 0)), (6, i6 i_9)] ∧ S = ⟨[[.int .u64 b_10], (C_School s_2)], [(out_8.length, 1)]⟩) N ⟨_, _, Forgets.refl _ _ _, [], 0, d_1.beat_, h, rfl, rfl⟩ ?_
  rintro k a S ⟨out_8, i_9, b_10, h, rfl, rfl⟩
  cases k with
  | zero => exact (loop3Z h).elim
  | succ k =>
   replace h := loop3S h hB_13
   refine Ex.seq (Ex.seq ?_)
   refine regH 5 [(3, .eq (i6 ((s_2.Wings.length : Nat) : Int)))] [0, 3, 5, 6, 11] [AV.int .i64 (((s_2.Wings.map A_Wing).length : Nat) : Int) = AV.int .i64 ((s_2.Wings.length : Nat) : Int)] (mkS 30 [(0, .ptr 0 0), (3, .ptr 1 0), (5, .sl (out_8.map (AV.int .i64)) (some 0)), (6, i6 i_9), (11, .bool (decide (i_9 < ((s_2.Wings.length : Nat) : Int))))]) (⟨[[.int .u64 b_10], (C_School s_2)], [(out_8.length, 1)]⟩) (by kernel_rfl) ⟨lenM _ _, trivial⟩ rfl ?_
   rcases condI h with ⟨hc_14, h⟩ | ⟨hc_14, h⟩
   ·refine Ex.condT _ rfl hc_14 ?_
    refine Ex.skip ?_
    refine Ex.seq ?_
    refine Ex.blockK ?_
    obtain ⟨r_15, hr_15, h⟩ := bE h
    refine Ex.reg (rn 4 [0, 3, 6, 14, 15, 16, 17] (mkS 30 [(0, .ptr 0 0), (3, .ptr 1 0), (6, i6 i_9), (14, .sl (out_8.map (AV.int .i64)) (some 0)), (15, (A_School s_2)), (16, .sl (out_8.map (AV.int .i64)) (some 0)), (17, i6 i_9)]) ⟨[[.int .u64 b_10], (C_School s_2)], [(out_8.length, 1)]⟩ ?_)
    refine ExO.callL [] [(A_School s_2), .sl (out_8.map (AV.int .i64)) (some 0), i6 i_9] rfl rfl (a_br1_LeastOf s_2 out_8 i_9) rfl rfl (d_br1_LeastOf N s_2 out_8 i_9 r_15 hr_15) (b_br1_LeastOf _ _ _ _) rfl ?_
    obtain ⟨r_16, hr_16, h⟩ := bE h
    refine rn 2 [0, 3, 6, 14, 18, 19, 20] (mkS 30 [(0, .ptr 0 0), (3, .ptr 1 0), (6, i6 i_9), (14, .sl (out_8.map (AV.int .i64)) (some 0)), (18, i6 r_15), (19, .ptr 0 0), (20, .ptr 0 0)]) ⟨[[.int .u64 b_10], (C_School s_2)], [(out_8.length, 1)]⟩ ?_
    refine ExO.callL [0] [.ptr 0 0, i6 4] rfl rfl (by simp; try rfl) rfl (by simp) (d_bk_Drum_Roll N (⟨b_10⟩ : T_bk_Drum) 4 r_16 hr_16) (b_bk_Drum_Roll _ _ _ _) (by simp) ?_
    obtain ⟨r_17, hr_17, h⟩ := bE h
    refine rn 1 [0, 3, 6, 14, 18, 19, 21, 22] (mkS 30 [(0, .ptr 0 0), (3, .ptr 1 0), (6, i6 i_9), (14, .sl (out_8.map (AV.int .i64)) (some 0)), (18, i6 r_15), (19, .ptr 0 0), (21, i6 r_16.1), (22, .ptr 0 0)]) ⟨[(C_bk_Drum r_16.2), (C_School s_2)], [(out_8.length, 1)]⟩ ?_
    refine ExO.callL [0] [.ptr 0 0, i6 40] rfl rfl (by simp; try rfl) rfl (by simp) (d_bk_Drum_Roll N r_16.2 40 r_17 hr_17) (b_bk_Drum_Roll _ _ _ _) (by simp) ?_
    obtain ⟨r_18, hr_18, h⟩ := bE h
    refine rn 1 [0, 3, 6, 14, 18, 19, 24] (mkS 30 [(0, .ptr 0 0), (3, .ptr 1 0), (6, i6 i_9), (14, .sl (out_8.map (AV.int .i64)) (some 0)), (18, i6 r_15), (19, .ptr 0 0), (24, .sl (([0, r_16.1, r_17.1] : List Int).map (AV.int .i64)) (some 1))]) ⟨[(C_bk_Drum r_17.2), (C_School s_2)], [(out_8.length, 1), (3, 1)]⟩ ?_
    refine ExO.callL [0] [.ptr 0 0, .sl (([0, r_16.1, r_17.1] : List Int).map (AV.int .i64)) (some 1)] rfl rfl (by simp; try rfl) rfl (by simp) (d_bk_Drum_Any N r_17.2 [0, r_16.1, r_17.1] r_18 hr_18) (b_bk_Drum_Any _ _ _ _) (by simp) ?_
    obtain ⟨l_19, hl_19, h⟩ := bE h
    refine runH 4 [(2, .app (l_19.map (AV.int .i64)) l_19.length)] [0, 3, 5, 6] [LApp out_8.length (out_8.map (AV.int .i64)) (([(IntKind.i64.wrap (r_15 + r_18.1))] : List Int).map (AV.int .i64)) 1 (l_19.map (AV.int .i64)) l_19.length] (mkS 30 [(0, .ptr 0 0), (3, .ptr 1 0), (5, .sl (l_19.map (AV.int .i64)) (some 0)), (6, i6 i_9)]) (⟨[(C_bk_Drum r_18.2), (C_School s_2)], [(l_19.length, 1), (3, 1), (1, 1)]⟩) (by kernel_rfl) ⟨LApp.of hl_19 (fun _ => rfl), trivial⟩ ?_
    refine ExO.nil ?_
    refine rg 3 [0, 3, 5, 6] (mkS 30 [(0, .ptr 0 0), (3, .ptr 1 0), (5, .sl (l_19.map (AV.int .i64)) (some 0)), (6, i6 (IntKind.i64.wrap (i_9 + 1)))]) ⟨[(C_bk_Drum r_18.2), (C_School s_2)], [(l_19.length, 1), (3, 1), (1, 1)]⟩ ?_
    dsimp only
    exact ⟨_, _, forgetA (m := 30) 2 [0] [(0, .ptr 0 0), (3, .ptr 1 0), (5, .sl (l_19.map (AV.int .i64)) (some 0)), (6, i6 (IntKind.i64.wrap (i_9 + 1)))] [(C_bk_Drum r_18.2), (C_School s_2)] [(l_19.length, 1)] (by simp [setAll]) (by simp) ⟨rfl, rfl, (reT (cleanI _ _) rfl), rfl, trivial⟩ (by simp) rfl (by decide), k, Nat.lt_succ_self k, l_19, (IntKind.i64.wrap (i_9 + 1)), r_18.2.beat_, h, rfl, rfl⟩
   ·refine Ex.condF _ rfl hc_14 ?_
    refine Ex.exit ?_
    (try simp only [reduceCtorEq, AEx.ex.injEq, Nat.reduceEqDiff, if_true, if_false])
    exact ⟨_, _, forgetA (m := 30) 1 [0] [(5, .sl (out_8.map (AV.int .i64)) (some 0))] [[.int .u64 b_10]] [(out_8.length, 1)] (by simp [setAll]) (by simp) ⟨(reT (cleanI _ _) rfl), trivial⟩ (by simp) rfl (by decide), out_8, b_10, h, rfl, rfl⟩
 ·rintro a S ⟨out_3, b_4, h, rfl, rfl⟩
  subst hK_7
  refine Ex.seq (rg 2 [4] (mkS 30 [(4, .sl (out_3.map (AV.int .i64)) (some 0))]) ⟨[[.int .u64 b_4]], [(out_3.length, 1)]⟩ ?_)
  obtain rfl := sJ h
  refine Ex.forget (thawK (f := (AV.int .i64)) 0 4 1 out_3 (.sl (out_3.map (AV.int .i64)) (some 0)) (.ms 1 out_3.length 1) (by decide) (fun _ => rfl) (fun _ => rfl) rfl rfl (by simp) (by simp) (by simp)) ?_
  refine Ex.castA (a2 := mkS 30 [(4, .ms 1 out_3.length 1)]) (S2 := ⟨[[.int .u64 b_4], (flat (out_3.map (AV.int .i64)))], []⟩) (by kernel_rfl) (by kernel_rfl) ?_
  refine Ex.ret ?_
  exact ⟨.inr rfl, .ms 1 out_3.length 1, by kernel_rfl, by kernel_rfl, [], by kernel_rfl⟩
def p_bateriatop_TopDressed (N : Nat) (nums_1 : (List Int)) : Option (Bool) := ((p_bk_DrumOf N nums_1).bind fun r_2 => ((p_bk_SchoolOf N r_2 4).bind fun r_3 => ((p_bk_StartsOf N r_3.2 (⟨(if 400 < r_3.1.Route then 400 else r_3.1.Route), r_3.1.Wings⟩ : T_School)).bind fun r_4 => ((p_bk_PacesOf N r_4.2 (⟨(if 400 < r_3.1.Route then 400 else r_3.1.Route), r_3.1.Wings⟩ : T_School)).bind fun r_6 => ((p_bk_Drum_Any N r_6.2 [0, 300, 900]).bind fun r_7 => (letJ (fun (w_8 : List Int) => ((p_bk_Drum_Roll N r_7.2 3).bind fun r_23 => ((p_bk_Drum_Roll N r_23.2 3).bind fun r_24 => (letJ (fun (b_25 : Int) (b_26 : List T_Part) => ((p_costume_Check N (⟨[(⟨40, 40⟩ : T_Span), (⟨41, 42⟩ : T_Span)], [[0]], [r_23.1, r_24.1], b_26⟩ : T_Plot)).bind fun r_49 => (bif (r_49 != 0) then ((p_bateriatop_dressAwake N).bind fun r_51 => some r_51) else (letJ (fun (_ : Unit) => ((p_bateriatop_dressAwake N).bind fun r_92 => some r_92)) (fun k_52 => (loop1 (fun rec_56 (i_55 : Int) => (bif (decide (i_55 < ((b_26.length : Nat) : Int))) then ((getI r_3.1.Wings i_55).bind fun x_60 => ((p_br1_Passed N (⟨(if 400 < r_3.1.Route then 400 else r_3.1.Route), r_3.1.Wings⟩ : T_School) w_8 r_6.1 i_55 (IntKind.i64.wrap ((if 400 < r_3.1.Route then 400 else r_3.1.Route) + x_60.Length))).bind fun r_61 => (letJ (fun (_ : Unit) => (rec_56 (IntKind.i64.wrap (i_55 + 1)))) (fun k_62 => (loop1 (fun rec_66 (k_65 : Int) => (bif (decide (k_65 < ((b_26.length : Nat) : Int))) then (letJ (fun (_ : Unit) => (rec_66 (IntKind.i64.wrap (k_65 + 1)))) (fun k_70 => ((getI b_26 i_55).bind fun x_73 => ((getI b_26 k_65).bind fun x_74 => (letJ (fun (y_75 : Bool) => (bif y_75 then (k_70 ()) else (letJ (fun (need_84 : Int) => ((getI w_8 k_65).bind fun x_90 => (bif (decide ((IntKind.i64.wrap (x_90 - r_61)) < need_84)) then some false else (k_70 ())))) (fun k_85 => (bif (x_73.Kind != x_74.Kind) then ((getI ([r_23.1, r_24.1] : List Int) x_74.Kind).bind fun x_89 => (k_85 (IntKind.i64.wrap (60 * x_89)))) else (k_85 0)))))) (fun k_76 => (bif (i_55 == k_65) then (k_76 true) else (bif (x_73.Person != x_74.Person) then (k_76 true) else ((getI w_8 k_65).bind fun x_81 => ((getI w_8 i_55).bind fun x_82 => (k_76 (decide (x_81 < x_82))))))))))))) else (k_62 ()))) N 0))))) else (k_52 ()))) N 0)))))) (fun k_27 => ((lenI w_8 r_4.1.length).bind fun u_30 => (loop3 (fun rec_34 (i_31 : Int) (b_32 : Int) (b_33 : List T_Part) => (bif (decide (i_31 < ((r_3.1.Wings.length : Nat) : Int))) then ((getI r_3.1.Wings i_31).bind fun x_38 => ((p_parade_Passes N (⟨(if 400 < r_3.1.Route then 400 else r_3.1.Route), r_3.1.Wings⟩ : T_School) w_8 i_31 (IntKind.i64.wrap ((if 400 < r_3.1.Route then 400 else r_3.1.Route) + x_38.Length))).bind fun r_39 => (bif (r_39.2 != 0) then some false else ((p_bk_Drum_Roll N (⟨b_32⟩ : T_bk_Drum) 2).bind fun r_42 => ((p_bk_Drum_Roll N r_42.2 2).bind fun r_43 => ((getI w_8 i_31).bind fun x_44 => (bif (decide ((IntKind.i64.wrap ((IntKind.i64.wrap (Int.tdiv r_39.1.Hi 60)) + 1)) > 1440)) then ((p_bateriatop_dressAwake N).bind fun r_47 => some r_47) else ((pushI b_33 ([(⟨r_42.1, 0, r_43.1, (IntKind.i64.wrap (Int.tdiv x_44 60)), (IntKind.i64.wrap ((IntKind.i64.wrap (Int.tdiv r_39.1.Hi 60)) + 1))⟩ : T_Part)] : List T_Part)).bind fun l_48 => (rec_34 (IntKind.i64.wrap (i_31 + 1)) r_43.2.beat_ l_48))))))))) else (k_27 b_32 b_33))) N 0 r_24.2.beat_ []))))))) (fun k_9 => (loop2 (fun rec_14 (i_12 : Int) (w_13 : List Int) => (bif (decide (i_12 < ((r_4.1.length : Nat) : Int))) then ((idxI i_12 r_4.1.length).bind fun u_18 => ((w_13[Int.toNat i_12]?).bind fun x_19 => ((idxI i_12 r_4.1.length).bind fun u_20 => ((setI w_13 i_12 (fun (y_21 : Int) => (IntKind.i64.wrap (x_19 + (IntKind.i64.wrap (i_12 * r_7.1)))))).bind fun z_22 => (rec_14 (IntKind.i64.wrap (i_12 + 1)) z_22))))) else (k_9 w_13))) N 0 r_4.1))))))))
def v_bateriatop_TopDressed (r : Bool) : AV := .bool r
attribute [local simp] v_bateriatop_TopDressed
theorem d_bateriatop_TopDressed (N : Nat) (nums_1 : (List Int)) (r : Bool) (h : p_bateriatop_TopDressed N nums_1 = some r) : Does Try.prog 5 [.sl (nums_1.map (AV.int .i64)) none] [] fun v c => v = v_bateriatop_TopDressed r ∧ c = [] := by
 unfold p_bateriatop_TopDressed at h
 refine Does.ofL comp5 _ _ rfl rfl ?_
 refine Ex.seq (rg 1 [0] (mkS 198 [(0, .sl (nums_1.map (AV.int .i64)) none)]) ⟨[], []⟩ ?_)
 refine Ex.seq ?_
 obtain ⟨r_2, hr_2, h⟩ := bE h
 refine Ex.reg (rn 1 [20] (mkS 198 [(20, .sl (nums_1.map (AV.int .i64)) none)]) ⟨[], []⟩ ?_)
 refine ExO.callL (v' := .ptr 0 0) [] [.sl (nums_1.map (AV.int .i64)) none] rfl rfl (a_bk_DrumOf nums_1) rfl rfl (d_bk_DrumOf N nums_1 r_2 hr_2) rfl (by simp) ?_
 refine rn 1 [3] (mkS 198 [(3, .ptr 0 0)]) ⟨[(C_bk_Drum r_2)], []⟩ ?_
 refine ExO.nil ?_
 refine Ex.seq ?_
 obtain ⟨r_3, hr_3, h⟩ := bE h
 refine Ex.reg (rn 1 [3, 22] (mkS 198 [(3, .ptr 0 0), (22, .ptr 0 0)]) ⟨[(C_bk_Drum r_2)], []⟩ ?_)
 refine ExO.callL [0] [.ptr 0 0, i6 4] rfl rfl (by simp; try rfl) rfl (by simp) (d_bk_SchoolOf N r_2 4 r_3 hr_3) (b_bk_SchoolOf _ _ _ _) (by simp) ?_
 refine rn 2 [3, 4] (mkS 198 [(3, .ptr 0 0), (4, .ptr 1 0)]) ⟨[(C_bk_Drum r_3.2), (C_School r_3.1)], []⟩ ?_
 refine ExO.nil ?_
 refine Ex.seq (rg 5 [3, 4] (mkS 198 [(3, .ptr 0 0), (4, .ptr 1 0)]) ⟨[(C_bk_Drum r_3.2), [i6 (if 400 < r_3.1.Route then 400 else r_3.1.Route), .sl (r_3.1.Wings.map A_Wing) none]], []⟩ ?_)
 refine Ex.seq ?_
 obtain ⟨r_4, hr_4, h⟩ := bE h
 have hT_5 : DoesA Try.prog [⟨22, [.ptr 0 0, .agg [i6 (if 400 < r_3.1.Route then 400 else r_3.1.Route), .sl (r_3.1.Wings.map A_Wing) none]], [(C_bk_Drum r_3.2)], (.ms 1 r_4.1.length 1), [(C_bk_Drum r_4.2), (flat (r_4.1.map (AV.int .i64)))]⟩] ∧ ConsA [⟨22, [.ptr 0 0, .agg [i6 (if 400 < r_3.1.Route then 400 else r_3.1.Route), .sl (r_3.1.Wings.map A_Wing) none]], [(C_bk_Drum r_3.2)], (.ms 1 r_4.1.length 1), [(C_bk_Drum r_4.2), (flat (r_4.1.map (AV.int .i64)))]⟩] := ⟨⟨(m_bk_StartsOf N r_3.2 (⟨(if 400 < r_3.1.Route then 400 else r_3.1.Route), r_3.1.Wings⟩ : T_School) r_4 hr_4), rfl, trivial⟩, ⟨trivial, trivial⟩⟩
 refine Ex.drawE (a1 := mkS 198 [(3, .ptr 0 0), (4, .ptr 1 0), (28, .ptr 0 0), (29, .agg [i6 (if 400 < r_3.1.Route then 400 else r_3.1.Route), .sl (r_3.1.Wings.map A_Wing) none]), (30, .ms 2 r_4.1.length 1), (31, .ptr 0 0), (32, .agg [i6 (if 400 < r_3.1.Route then 400 else r_3.1.Route), .sl (r_3.1.Wings.map A_Wing) none])]) (tabO_ok hT_5.1) [] [] [⟨[(C_bk_Drum r_4.2), [i6 (if 400 < r_3.1.Route then 400 else r_3.1.Route), .sl (r_3.1.Wings.map A_Wing) none], (flat (r_4.1.map (AV.int .i64)))], []⟩] ?_ ?_
 ·refine drS [1] 2 [] [] (mkS 198 [(3, .ptr 0 0), (4, .ptr 1 0), (28, .ptr 0 0), (29, .agg [i6 (if 400 < r_3.1.Route then 400 else r_3.1.Route), .sl (r_3.1.Wings.map A_Wing) none])]) (by simp) (by kernel_rfl) trivial (by kernel_rfl) ?_
  refine drB hT_5.2 0 _ [0] [.ptr 0 0, .agg [i6 (if 400 < r_3.1.Route then 400 else r_3.1.Route), .sl (r_3.1.Wings.map A_Wing) none]] (.ms 2 r_4.1.length 1) _ _ rfl rfl rfl rfl rfl rfl rfl rfl (by simp; try rfl) rfl (by simp) rfl (allC (by simp) (allC (flat_clean (f := (AV.int .i64)) (fun _ => rfl) _) rfl)) rfl ?_
  refine drS [1] 2 [] [] (mkS 198 [(3, .ptr 0 0), (4, .ptr 1 0), (28, .ptr 0 0), (29, .agg [i6 (if 400 < r_3.1.Route then 400 else r_3.1.Route), .sl (r_3.1.Wings.map A_Wing) none]), (30, .ms 2 r_4.1.length 1), (31, .ptr 0 0), (32, .agg [i6 (if 400 < r_3.1.Route then 400 else r_3.1.Route), .sl (r_3.1.Wings.map A_Wing) none])]) (by simp) (by kernel_rfl) trivial (by kernel_rfl) ?_
  exact DrO.nil rfl
 ·dsimp only [List.getLastD_cons, List.getLastD_nil]
  obtain ⟨r_6, hr_6, h⟩ := bE h
  refine ExO.callL [0] [.ptr 0 0, .agg [i6 (if 400 < r_3.1.Route then 400 else r_3.1.Route), .sl (r_3.1.Wings.map A_Wing) none]] rfl rfl (by simp; try rfl) rfl (by simp) (d_bk_PacesOf N r_4.2 (⟨(if 400 < r_3.1.Route then 400 else r_3.1.Route), r_3.1.Wings⟩ : T_School) r_6 hr_6) (b_bk_PacesOf _ _ _ _) (by simp) ?_
  refine rn 2 [3, 4, 5, 6] (mkS 198 [(3, .ptr 0 0), (4, .ptr 1 0), (5, .ms 2 r_4.1.length 1), (6, .sl (r_6.1.map (AV.int .i64)) none)]) ⟨[(C_bk_Drum r_6.2), [i6 (if 400 < r_3.1.Route then 400 else r_3.1.Route), .sl (r_3.1.Wings.map A_Wing) none], (flat (r_4.1.map (AV.int .i64)))], []⟩ ?_
  refine ExO.nil ?_
  refine Ex.seq ?_
  obtain ⟨r_7, hr_7, h⟩ := bE h
  refine Ex.reg (rn 2 [3, 4, 5, 6, 34, 35] (mkS 198 [(3, .ptr 0 0), (4, .ptr 1 0), (5, .ms 2 r_4.1.length 1), (6, .sl (r_6.1.map (AV.int .i64)) none), (34, .ptr 0 0), (35, .sl (([0, 300, 900] : List Int).map (AV.int .i64)) (some 0))]) ⟨[(C_bk_Drum r_6.2), [i6 (if 400 < r_3.1.Route then 400 else r_3.1.Route), .sl (r_3.1.Wings.map A_Wing) none], (flat (r_4.1.map (AV.int .i64)))], [(3, 1)]⟩ ?_)
  refine ExO.callL [0] [.ptr 0 0, .sl (([0, 300, 900] : List Int).map (AV.int .i64)) (some 0)] rfl rfl (by simp; try rfl) rfl (by simp) (d_bk_Drum_Any N r_6.2 [0, 300, 900] r_7 hr_7) (b_bk_Drum_Any _ _ _ _) (by simp) ?_
  refine rn 1 [3, 4, 5, 6, 7] (mkS 198 [(3, .ptr 0 0), (4, .ptr 1 0), (5, .ms 2 r_4.1.length 1), (6, .sl (r_6.1.map (AV.int .i64)) none), (7, i6 r_7.1)]) ⟨[(C_bk_Drum r_7.2), [i6 (if 400 < r_3.1.Route then 400 else r_3.1.Route), .sl (r_3.1.Wings.map A_Wing) none], (flat (r_4.1.map (AV.int .i64)))], [(3, 1)]⟩ ?_
  refine ExO.nil ?_
  refine Ex.seq (Ex.seq ?_)
  refine rg 1 [3, 4, 5, 6, 7, 8] (mkS 198 [(3, .ptr 0 0), (4, .ptr 1 0), (5, .ms 2 r_4.1.length 1), (6, .sl (r_6.1.map (AV.int .i64)) none), (7, i6 r_7.1), (8, i6 0)]) ⟨[(C_bk_Drum r_7.2), [i6 (if 400 < r_3.1.Route then 400 else r_3.1.Route), .sl (r_3.1.Wings.map A_Wing) none], (flat (r_4.1.map (AV.int .i64)))], [(3, 1)]⟩ ?_
  obtain ⟨K_10, hK_11, h⟩ := letE h
  refine Ex.blockJ (fun a S => ∃ (w_8 : List Int), K_10 w_8 = some r ∧ a = mkS 198 [(3, .ptr 0 0), (4, .ptr 1 0), (5, .ms 2 r_4.1.length 1), (6, .sl (r_6.1.map (AV.int .i64)) none)] ∧ S = ⟨[(C_bk_Drum r_7.2), [i6 (if 400 < r_3.1.Route then 400 else r_3.1.Route), .sl (r_3.1.Wings.map A_Wing) none], (flat (w_8.map (AV.int .i64)))], []⟩) ?_ ?_
  ·obtain ⟨B_15, hB_16, h⟩ := loop2I h
   refine Ex.loopF (fun k a S => ∃ (i_12 : Int), ∃ (w_13 : List Int), loop2 B_15 k i_12 w_13 = some r ∧ a = mkS 198 [(3, .ptr 0 0), (4, .ptr 1 0), (5, .ms 2 r_4.1.length 1), (6, .sl (r_6.1.map (AV.int .i64)) none), (7, i6 r_7.1), (8, i6 i_12)] ∧ S = ⟨[(C_bk_Drum r_7.2), [i6 (if 400 < r_3.1.Route then 400 else r_3.1.Route), .sl (r_3.1.Wings.map A_Wing) none], (flat (w_13.map (AV.int .i64)))], []⟩) N ⟨_, _, forgetA (m := 198) 3 [] [(3, .ptr 0 0), (4, .ptr 1 0), (5, .ms 2 r_4.1.length 1), (6, .sl (r_6.1.map (AV.int .i64)) none), (7, i6 r_7.1), (8, i6 0)] [(C_bk_Drum r_7.2), [i6 (if 400 < r_3.1.Route then 400 else r_3.1.Route), .sl (r_3.1.Wings.map A_Wing) none], (flat (r_4.1.map (AV.int .i64)))] [] (by simp [setAll]) (by simp) ⟨rfl, rfl, rfl, (reN (cleanI _ _)), rfl, rfl, trivial⟩ (mapMC (show List.mapM (re 3 []) (C_bk_Drum r_7.2) = some (C_bk_Drum r_7.2) by simp) (mapMC (show List.mapM (re 3 []) [i6 (if 400 < r_3.1.Route then 400 else r_3.1.Route), .sl (r_3.1.Wings.map A_Wing) none] = some [i6 (if 400 < r_3.1.Route then 400 else r_3.1.Route), .sl (r_3.1.Wings.map A_Wing) none] by simp) (mapMC (flat_re (f := (AV.int .i64)) (fun _ => rfl) _ _ _) rfl))) rfl (by decide), 0, r_4.1, h, rfl, rfl⟩ ?_
   rintro k a S ⟨i_12, w_13, h, rfl, rfl⟩
   cases k with
   | zero => exact (loop2Z h).elim
   | succ k =>
    replace h := loop2S h hB_16
    refine Ex.seq (Ex.seq ?_)
    refine rg 4 [3, 4, 5, 6, 7, 8, 40] (mkS 198 [(3, .ptr 0 0), (4, .ptr 1 0), (5, .ms 2 r_4.1.length 1), (6, .sl (r_6.1.map (AV.int .i64)) none), (7, i6 r_7.1), (8, i6 i_12), (40, .bool (decide (i_12 < ((r_4.1.length : Nat) : Int))))]) ⟨[(C_bk_Drum r_7.2), [i6 (if 400 < r_3.1.Route then 400 else r_3.1.Route), .sl (r_3.1.Wings.map A_Wing) none], (flat (w_13.map (AV.int .i64)))], []⟩ ?_
    rcases condI h with ⟨hc_17, h⟩ | ⟨hc_17, h⟩
    ·refine Ex.condT _ rfl hc_17 ?_
     refine Ex.skip ?_
     refine Ex.seq ?_
     refine Ex.blockK ?_
     obtain ⟨u_18, hu_18, h⟩ := bE h
     obtain ⟨x_19, hx_19, h⟩ := bE h
     obtain ⟨u_20, hu_20, h⟩ := bE h
     obtain ⟨z_22, hz_22, h⟩ := bE h
     refine regH 12 [(4, .adm), (5, .ld (i6 x_19)), (10, .adm), (11, .st (flat (z_22.map (AV.int .i64))))] [3, 4, 5, 6, 7, 8] [0 ≤ i_12 ∧ i_12 < ((r_4.1.length : Nat) : Int), takeCells (flat (w_13.map (AV.int .i64))) (0 + Int.toNat i_12 * 1) none = some (i6 x_19), 0 ≤ i_12 ∧ i_12 < ((r_4.1.length : Nat) : Int), 0 + Int.toNat i_12 * 1 + 1 ≤ ((flat (w_13.map (AV.int .i64)))).length ∧ layAt (flat (w_13.map (AV.int .i64))) (0 + Int.toNat i_12 * 1) [i6 (IntKind.i64.wrap (x_19 + (IntKind.i64.wrap (i_12 * r_7.1))))] = (flat (z_22.map (AV.int .i64)))] (mkS 198 [(3, .ptr 0 0), (4, .ptr 1 0), (5, .ms 2 r_4.1.length 1), (6, .sl (r_6.1.map (AV.int .i64)) none), (7, i6 r_7.1), (8, i6 i_12)]) (⟨[(C_bk_Drum r_7.2), [i6 (if 400 < r_3.1.Route then 400 else r_3.1.Route), .sl (r_3.1.Wings.map A_Wing) none], (flat (z_22.map (AV.int .i64)))], []⟩) (by kernel_rfl) ⟨idxI.of hu_18, ldFl (f := (AV.int .i64)) (s := 1) w_13 _ 0 i_12 x_19 (i6 x_19) (fun _ => rfl) hx_19 rfl (by omega), idxI.of hu_20, stFl (f := (AV.int .i64)) (s := 1) _ 0 1 i_12 (fun (y_21 : Int) => (IntKind.i64.wrap (x_19 + (IntKind.i64.wrap (i_12 * r_7.1))))) _ (fun _ => rfl) hz_22 rfl (by decide) (by omega) (fun _ => rfl), trivial⟩ rfl ?_
     refine rg 3 [3, 4, 5, 6, 7, 8] (mkS 198 [(3, .ptr 0 0), (4, .ptr 1 0), (5, .ms 2 r_4.1.length 1), (6, .sl (r_6.1.map (AV.int .i64)) none), (7, i6 r_7.1), (8, i6 (IntKind.i64.wrap (i_12 + 1)))]) ⟨[(C_bk_Drum r_7.2), [i6 (if 400 < r_3.1.Route then 400 else r_3.1.Route), .sl (r_3.1.Wings.map A_Wing) none], (flat (z_22.map (AV.int .i64)))], []⟩ ?_
     dsimp only
     exact ⟨_, _, Forgets.refl _ _ _, k, Nat.lt_succ_self k, (IntKind.i64.wrap (i_12 + 1)), z_22, h, rfl, rfl⟩
    ·refine Ex.condF _ rfl hc_17 ?_
     refine Ex.exit ?_
     (try simp only [reduceCtorEq, AEx.ex.injEq, Nat.reduceEqDiff, if_true, if_false])
     exact ⟨_, _, forgetK [3, 4, 5, 6], w_13, h, rfl, rfl⟩
  ·rintro a S ⟨w_8, h, rfl, rfl⟩
   subst hK_11
   refine Ex.seq ?_
   refine Ex.postF ?_
   obtain ⟨r_23, hr_23, h⟩ := bE h
   refine Ex.reg (rn 6 [3, 4, 5, 6, 56, 58, 59] (mkS 198 [(3, .ptr 0 0), (4, .ptr 1 0), (5, .ms 2 r_4.1.length 1), (6, .sl (r_6.1.map (AV.int .i64)) none), (56, .sl (([(⟨40, 40⟩ : T_Span), (⟨41, 42⟩ : T_Span)] : List T_Span).map A_Span) (some 0)), (58, .sl [.sl (([0] : List Int).map (AV.int .i64)) (some 1)] (some 2)), (59, .ptr 0 0)]) ⟨[(C_bk_Drum r_7.2), [i6 (if 400 < r_3.1.Route then 400 else r_3.1.Route), .sl (r_3.1.Wings.map A_Wing) none], (flat (w_8.map (AV.int .i64)))], [(2, 2), (1, 1), (1, 1)]⟩ ?_)
   refine ExO.callL [0] [.ptr 0 0, i6 3] rfl rfl (by simp; try rfl) rfl (by simp) (d_bk_Drum_Roll N r_7.2 3 r_23 hr_23) (b_bk_Drum_Roll _ _ _ _) (by simp) ?_
   obtain ⟨r_24, hr_24, h⟩ := bE h
   refine rn 1 [3, 4, 5, 6, 56, 58, 60, 61] (mkS 198 [(3, .ptr 0 0), (4, .ptr 1 0), (5, .ms 2 r_4.1.length 1), (6, .sl (r_6.1.map (AV.int .i64)) none), (56, .sl (([(⟨40, 40⟩ : T_Span), (⟨41, 42⟩ : T_Span)] : List T_Span).map A_Span) (some 0)), (58, .sl [.sl (([0] : List Int).map (AV.int .i64)) (some 1)] (some 2)), (60, i6 r_23.1), (61, .ptr 0 0)]) ⟨[(C_bk_Drum r_23.2), [i6 (if 400 < r_3.1.Route then 400 else r_3.1.Route), .sl (r_3.1.Wings.map A_Wing) none], (flat (w_8.map (AV.int .i64)))], [(2, 2), (1, 1), (1, 1)]⟩ ?_
   refine ExO.callL [0] [.ptr 0 0, i6 3] rfl rfl (by simp; try rfl) rfl (by simp) (d_bk_Drum_Roll N r_23.2 3 r_24 hr_24) (b_bk_Drum_Roll _ _ _ _) (by simp) ?_
   refine rn 4 [3, 4, 5, 6, 9] (mkS 198 [(3, .ptr 0 0), (4, .ptr 1 0), (5, .ms 2 r_4.1.length 1), (6, .sl (r_6.1.map (AV.int .i64)) none), (9, .ptr 3 0)]) ⟨[(C_bk_Drum r_24.2), [i6 (if 400 < r_3.1.Route then 400 else r_3.1.Route), .sl (r_3.1.Wings.map A_Wing) none], (flat (w_8.map (AV.int .i64))), [.sl (([(⟨40, 40⟩ : T_Span), (⟨41, 42⟩ : T_Span)] : List T_Span).map A_Span) (some 0), .sl [.sl (([0] : List Int).map (AV.int .i64)) (some 1)] (some 2), .sl (([r_23.1, r_24.1] : List Int).map (AV.int .i64)) (some 3), .nils]], [(2, 2), (1, 1), (1, 1), (2, 1)]⟩ ?_
   refine ExO.nil ?_
   refine ⟨mkS 198 [(3, .ptr 0 0), (4, .ptr 1 0), (5, .ms 2 r_4.1.length 1), (6, .sl (r_6.1.map (AV.int .i64)) none), (9, .ptr 3 0)], ⟨[(C_bk_Drum r_24.2), [i6 (if 400 < r_3.1.Route then 400 else r_3.1.Route), .sl (r_3.1.Wings.map A_Wing) none], (flat (w_8.map (AV.int .i64))), [.sl (([(⟨40, 40⟩ : T_Span), (⟨41, 42⟩ : T_Span)] : List T_Span).map A_Span) (some 0), .sl (([[0]] : List (List Int)).map (SV (AV.int .i64))) (some 2), .sl (([r_23.1, r_24.1] : List Int).map (AV.int .i64)) (some 3), .nils]], [(2, 2), (1, 1), (1, 1), (2, 1)]⟩, Forgets.castR (by kernel_rfl) rfl (fadeB 3 [.sl (([(⟨40, 40⟩ : T_Span), (⟨41, 42⟩ : T_Span)] : List T_Span).map A_Span) (some 0), .sl [.sl (([0] : List Int).map (AV.int .i64)) (some 1)] (some 2), .sl (([r_23.1, r_24.1] : List Int).map (AV.int .i64)) (some 3), .nils] [false, true, false, false] rfl), ?_⟩
   refine Ex.seq (Ex.seq ?_)
   refine rg 1 [3, 4, 5, 6, 9, 10] (mkS 198 [(3, .ptr 0 0), (4, .ptr 1 0), (5, .ms 2 r_4.1.length 1), (6, .sl (r_6.1.map (AV.int .i64)) none), (9, .ptr 3 0), (10, i6 0)]) ⟨[(C_bk_Drum r_24.2), [i6 (if 400 < r_3.1.Route then 400 else r_3.1.Route), .sl (r_3.1.Wings.map A_Wing) none], (flat (w_8.map (AV.int .i64))), [.sl (([(⟨40, 40⟩ : T_Span), (⟨41, 42⟩ : T_Span)] : List T_Span).map A_Span) (some 0), .sl (([[0]] : List (List Int)).map (SV (AV.int .i64))) (some 2), .sl (([r_23.1, r_24.1] : List Int).map (AV.int .i64)) (some 3), .nils]], [(2, 2), (1, 1), (1, 1), (2, 1)]⟩ ?_
   obtain ⟨K_28, hK_29, h⟩ := letE h
   refine Ex.blockJ (fun a S => ∃ (b_25 : Int), ∃ (b_26 : List T_Part), K_28 b_25 b_26 = some r ∧ a = mkS 198 [(4, .ptr 1 0), (5, .sl (w_8.map (AV.int .i64)) none), (6, .sl (r_6.1.map (AV.int .i64)) none), (9, .ptr 3 0)] ∧ S = ⟨[[.int .u64 b_25], [i6 (if 400 < r_3.1.Route then 400 else r_3.1.Route), .sl (r_3.1.Wings.map A_Wing) none], [], [.sl (([(⟨40, 40⟩ : T_Span), (⟨41, 42⟩ : T_Span)] : List T_Span).map A_Span) (some 0), .sl (([[0]] : List (List Int)).map (SV (AV.int .i64))) (some 1), .sl (([r_23.1, r_24.1] : List Int).map (AV.int .i64)) (some 2), .sl (b_26.map A_Part) (some 3)]], [(2, 2), (1, 1), (2, 1), (b_26.length, 5)]⟩) ?_ ?_
   ·obtain ⟨u_30, hu_30, h⟩ := bE h
    refine Ex.forget (chillK (f := (AV.int .i64)) 2 5 r_4.1.length 1 w_8 (.ms 2 r_4.1.length 1) (.sl (w_8.map (AV.int .i64)) none) hu_30 rfl (fun _ => rfl) rfl (by simp)) ?_
    refine Ex.castA (a2 := mkS 198 [(3, .ptr 0 0), (4, .ptr 1 0), (5, .sl (w_8.map (AV.int .i64)) none), (6, .sl (r_6.1.map (AV.int .i64)) none), (9, .ptr 3 0), (10, i6 0)]) (S2 := ⟨[(C_bk_Drum r_24.2), [i6 (if 400 < r_3.1.Route then 400 else r_3.1.Route), .sl (r_3.1.Wings.map A_Wing) none], [], [.sl (([(⟨40, 40⟩ : T_Span), (⟨41, 42⟩ : T_Span)] : List T_Span).map A_Span) (some 0), .sl (([[0]] : List (List Int)).map (SV (AV.int .i64))) (some 2), .sl (([r_23.1, r_24.1] : List Int).map (AV.int .i64)) (some 3), .nils]], [(2, 2), (1, 1), (1, 1), (2, 1)]⟩) (by kernel_rfl) (by kernel_rfl) ?_
    refine Ex.forget (nilB 3 3 5 [.sl (([(⟨40, 40⟩ : T_Span), (⟨41, 42⟩ : T_Span)] : List T_Span).map A_Span) (some 0), .sl (([[0]] : List (List Int)).map (SV (AV.int .i64))) (some 2), .sl (([r_23.1, r_24.1] : List Int).map (AV.int .i64)) (some 3), .nils] rfl rfl) ?_
    refine Ex.castA (a2 := mkS 198 [(3, .ptr 0 0), (4, .ptr 1 0), (5, .sl (w_8.map (AV.int .i64)) none), (6, .sl (r_6.1.map (AV.int .i64)) none), (9, .ptr 3 0), (10, i6 0)]) (S2 := ⟨[(C_bk_Drum r_24.2), [i6 (if 400 < r_3.1.Route then 400 else r_3.1.Route), .sl (r_3.1.Wings.map A_Wing) none], [], [.sl (([(⟨40, 40⟩ : T_Span), (⟨41, 42⟩ : T_Span)] : List T_Span).map A_Span) (some 0), .sl (([[0]] : List (List Int)).map (SV (AV.int .i64))) (some 2), .sl (([r_23.1, r_24.1] : List Int).map (AV.int .i64)) (some 3), .sl (([] : List T_Part).map A_Part) (some 4)]], [(2, 2), (1, 1), (1, 1), (2, 1), (0, 5)]⟩) (by kernel_rfl) (by kernel_rfl) ?_
    obtain ⟨B_35, hB_36, h⟩ := loop3I h
    refine Ex.loopF (fun k a S => ∃ (i_31 : Int), ∃ (b_32 : Int), ∃ (b_33 : List T_Part), loop3 B_35 k i_31 b_32 b_33 = some r ∧ a = mkS 198 [(3, .ptr 0 0), (4, .ptr 1 0), (5, .sl (w_8.map (AV.int .i64)) none), (6, .sl (r_6.1.map (AV.int .i64)) none), (9, .ptr 3 0), (10, i6 i_31)] ∧ S = ⟨[[.int .u64 b_32], [i6 (if 400 < r_3.1.Route then 400 else r_3.1.Route), .sl (r_3.1.Wings.map A_Wing) none], [], [.sl (([(⟨40, 40⟩ : T_Span), (⟨41, 42⟩ : T_Span)] : List T_Span).map A_Span) (some 0), .sl (([[0]] : List (List Int)).map (SV (AV.int .i64))) (some 1), .sl (([r_23.1, r_24.1] : List Int).map (AV.int .i64)) (some 2), .sl (b_33.map A_Part) (some 3)]], [(2, 2), (1, 1), (2, 1), (b_33.length, 5)]⟩) N ⟨_, _, forgetA (m := 198) 4 [0, 2, 3, 4] [(3, .ptr 0 0), (4, .ptr 1 0), (5, .sl (w_8.map (AV.int .i64)) none), (6, .sl (r_6.1.map (AV.int .i64)) none), (9, .ptr 3 0), (10, i6 0)] [(C_bk_Drum r_24.2), [i6 (if 400 < r_3.1.Route then 400 else r_3.1.Route), .sl (r_3.1.Wings.map A_Wing) none], [], [.sl (([(⟨40, 40⟩ : T_Span), (⟨41, 42⟩ : T_Span)] : List T_Span).map A_Span) (some 0), .sl (([[0]] : List (List Int)).map (SV (AV.int .i64))) (some 1), .sl (([r_23.1, r_24.1] : List Int).map (AV.int .i64)) (some 2), .sl (([] : List T_Part).map A_Part) (some 3)]] [(2, 2), (1, 1), (2, 1), (0, 5)] (by simp [setAll]) (by simp) ⟨rfl, rfl, (reN (cleanI _ _)), (reN (cleanI _ _)), rfl, rfl, trivial⟩ (by simp) rfl (by decide), 0, r_24.2.beat_, [], h, rfl, rfl⟩ ?_
    rintro k a S ⟨i_31, b_32, b_33, h, rfl, rfl⟩
    cases k with
    | zero => exact (loop3Z h).elim
    | succ k =>
     replace h := loop3S h hB_36
     refine Ex.seq (Ex.seq ?_)
     refine regH 5 [(3, .eq (i6 ((r_3.1.Wings.length : Nat) : Int)))] [3, 4, 5, 6, 9, 10, 69] [AV.int .i64 (((r_3.1.Wings.map A_Wing).length : Nat) : Int) = AV.int .i64 ((r_3.1.Wings.length : Nat) : Int)] (mkS 198 [(3, .ptr 0 0), (4, .ptr 1 0), (5, .sl (w_8.map (AV.int .i64)) none), (6, .sl (r_6.1.map (AV.int .i64)) none), (9, .ptr 3 0), (10, i6 i_31), (69, .bool (decide (i_31 < ((r_3.1.Wings.length : Nat) : Int))))]) (⟨[[.int .u64 b_32], [i6 (if 400 < r_3.1.Route then 400 else r_3.1.Route), .sl (r_3.1.Wings.map A_Wing) none], [], [.sl (([(⟨40, 40⟩ : T_Span), (⟨41, 42⟩ : T_Span)] : List T_Span).map A_Span) (some 0), .sl (([[0]] : List (List Int)).map (SV (AV.int .i64))) (some 1), .sl (([r_23.1, r_24.1] : List Int).map (AV.int .i64)) (some 2), .sl (b_33.map A_Part) (some 3)]], [(2, 2), (1, 1), (2, 1), (b_33.length, 5)]⟩) (by kernel_rfl) ⟨lenM _ _, trivial⟩ rfl ?_
     rcases condI h with ⟨hc_37, h⟩ | ⟨hc_37, h⟩
     ·refine Ex.condT _ rfl hc_37 ?_
      refine Ex.skip ?_
      refine Ex.seq ?_
      refine Ex.blockK ?_
      refine Ex.seq ?_
      obtain ⟨x_38, hx_38, h⟩ := bE h
      obtain ⟨r_39, hr_39, h⟩ := bE h
      have hT_40 : DoesA Try.prog [⟨24, [.agg [i6 (if 400 < r_3.1.Route then 400 else r_3.1.Route), .sl (r_3.1.Wings.map A_Wing) none], .sl (w_8.map (AV.int .i64)) none, i6 i_31, i6 (IntKind.i64.wrap ((if 400 < r_3.1.Route then 400 else r_3.1.Route) + x_38.Length))], [], (v_parade_Passes r_39), []⟩] ∧ ConsA [⟨24, [.agg [i6 (if 400 < r_3.1.Route then 400 else r_3.1.Route), .sl (r_3.1.Wings.map A_Wing) none], .sl (w_8.map (AV.int .i64)) none, i6 i_31, i6 (IntKind.i64.wrap ((if 400 < r_3.1.Route then 400 else r_3.1.Route) + x_38.Length))], [], (v_parade_Passes r_39), []⟩] := ⟨⟨(d_parade_Passes N (⟨(if 400 < r_3.1.Route then 400 else r_3.1.Route), r_3.1.Wings⟩ : T_School) w_8 i_31 (IntKind.i64.wrap ((if 400 < r_3.1.Route then 400 else r_3.1.Route) + x_38.Length)) r_39 hr_39), rfl, trivial⟩, ⟨trivial, trivial⟩⟩
      refine Ex.drawE (a1 := mkS 198 [(3, .ptr 0 0), (4, .ptr 1 0), (5, .sl (w_8.map (AV.int .i64)) none), (6, .sl (r_6.1.map (AV.int .i64)) none), (9, .ptr 3 0), (10, i6 i_31), (11, .ptr 4 0), (69, .bool (decide (i_31 < ((r_3.1.Wings.length : Nat) : Int)))), (72, .tup [(A_Span r_39.1), i6 r_39.2]), (73, .agg [i6 (if 400 < r_3.1.Route then 400 else r_3.1.Route), .sl (r_3.1.Wings.map A_Wing) none]), (74, .sl (w_8.map (AV.int .i64)) none), (75, i6 i_31), (76, .ptr 1 0), (77, i6 (if 400 < r_3.1.Route then 400 else r_3.1.Route)), (78, .ptr 1 1), (79, .sl (r_3.1.Wings.map A_Wing) none), (80, i6 i_31), (81, .rop (C_Wing x_38)), (82, .rop [i6 x_38.Length, i6 x_38.Pace.Lo, i6 x_38.Pace.Hi]), (83, i6 x_38.Length), (84, i6 (IntKind.i64.wrap ((if 400 < r_3.1.Route then 400 else r_3.1.Route) + x_38.Length))), (85, .tup [(A_Span r_39.1), i6 r_39.2]), (86, (A_Span r_39.1)), (87, i6 r_39.2)]) (tabO_ok hT_40.1) [[i6 0, i6 0]] [] [⟨[[.int .u64 b_32], [i6 (if 400 < r_3.1.Route then 400 else r_3.1.Route), .sl (r_3.1.Wings.map A_Wing) none], [], [.sl (([(⟨40, 40⟩ : T_Span), (⟨41, 42⟩ : T_Span)] : List T_Span).map A_Span) (some 0), .sl (([[0]] : List (List Int)).map (SV (AV.int .i64))) (some 1), .sl (([r_23.1, r_24.1] : List Int).map (AV.int .i64)) (some 2), .sl (b_33.map A_Part) (some 3)], (C_Span r_39.1)], [(2, 2), (1, 1), (2, 1), (b_33.length, 5)]⟩] ?_ ?_
      ·refine drS [0, 1, 2, 3] 12 [(8, .rop (C_Wing x_38))] [LGet (r_3.1.Wings.map A_Wing) i_31 4 (C_Wing x_38)] (mkS 198 [(3, .ptr 0 0), (4, .ptr 1 0), (5, .sl (w_8.map (AV.int .i64)) none), (6, .sl (r_6.1.map (AV.int .i64)) none), (9, .ptr 3 0), (10, i6 i_31), (69, .bool (decide (i_31 < ((r_3.1.Wings.length : Nat) : Int)))), (73, .agg [i6 (if 400 < r_3.1.Route then 400 else r_3.1.Route), .sl (r_3.1.Wings.map A_Wing) none]), (74, .sl (w_8.map (AV.int .i64)) none), (75, i6 i_31), (76, .ptr 1 0), (77, i6 (if 400 < r_3.1.Route then 400 else r_3.1.Route)), (78, .ptr 1 1), (79, .sl (r_3.1.Wings.map A_Wing) none), (80, i6 i_31), (81, .rop (C_Wing x_38)), (82, .rop [i6 x_38.Length, i6 x_38.Pace.Lo, i6 x_38.Pace.Hi]), (83, i6 x_38.Length), (84, i6 (IntKind.i64.wrap ((if 400 < r_3.1.Route then 400 else r_3.1.Route) + x_38.Length)))]) (by simp) (by kernel_rfl) ⟨LGet.of hx_38 rfl, trivial⟩ (by kernel_rfl) ?_
       refine drC hT_40.2 0 _ [.agg [i6 (if 400 < r_3.1.Route then 400 else r_3.1.Route), .sl (r_3.1.Wings.map A_Wing) none], .sl (w_8.map (AV.int .i64)) none, i6 i_31, i6 (IntKind.i64.wrap ((if 400 < r_3.1.Route then 400 else r_3.1.Route) + x_38.Length))] (v_parade_Passes r_39) rfl rfl rfl rfl rfl (fun _ => rfl) rfl (by simp; try rfl) (fun _ => b_parade_Passes _ _ _ _) ?_
       refine drS [0, 1, 2, 3] 3 [] [] (mkS 198 [(3, .ptr 0 0), (4, .ptr 1 0), (5, .sl (w_8.map (AV.int .i64)) none), (6, .sl (r_6.1.map (AV.int .i64)) none), (9, .ptr 3 0), (10, i6 i_31), (69, .bool (decide (i_31 < ((r_3.1.Wings.length : Nat) : Int)))), (72, .tup [(A_Span r_39.1), i6 r_39.2]), (73, .agg [i6 (if 400 < r_3.1.Route then 400 else r_3.1.Route), .sl (r_3.1.Wings.map A_Wing) none]), (74, .sl (w_8.map (AV.int .i64)) none), (75, i6 i_31), (76, .ptr 1 0), (77, i6 (if 400 < r_3.1.Route then 400 else r_3.1.Route)), (78, .ptr 1 1), (79, .sl (r_3.1.Wings.map A_Wing) none), (80, i6 i_31), (81, .rop (C_Wing x_38)), (82, .rop [i6 x_38.Length, i6 x_38.Pace.Lo, i6 x_38.Pace.Hi]), (83, i6 x_38.Length), (84, i6 (IntKind.i64.wrap ((if 400 < r_3.1.Route then 400 else r_3.1.Route) + x_38.Length))), (85, .tup [(A_Span r_39.1), i6 r_39.2]), (86, (A_Span r_39.1)), (87, i6 r_39.2)]) (by simp) (by kernel_rfl) trivial (by kernel_rfl) ?_
       refine drXL 4 [i6 0, i6 0] 11 rfl rfl (fun _ => by kernel_rfl) (by simp) (by simp) rfl (by kernel_rfl) rfl rfl ?_
       refine drE none none (.tup []) _ _ rfl rfl rfl rfl rfl (by kernel_rfl) trivial ?_
       exact DrO.nil rfl
      ·dsimp only [List.getLastD_cons, List.getLastD_nil]
       refine rn 1 [3, 4, 5, 6, 9, 10, 11, 12] (mkS 198 [(3, .ptr 0 0), (4, .ptr 1 0), (5, .sl (w_8.map (AV.int .i64)) none), (6, .sl (r_6.1.map (AV.int .i64)) none), (9, .ptr 3 0), (10, i6 i_31), (11, .ptr 4 0), (12, i6 r_39.2)]) ⟨[[.int .u64 b_32], [i6 (if 400 < r_3.1.Route then 400 else r_3.1.Route), .sl (r_3.1.Wings.map A_Wing) none], [], [.sl (([(⟨40, 40⟩ : T_Span), (⟨41, 42⟩ : T_Span)] : List T_Span).map A_Span) (some 0), .sl (([[0]] : List (List Int)).map (SV (AV.int .i64))) (some 1), .sl (([r_23.1, r_24.1] : List Int).map (AV.int .i64)) (some 2), .sl (b_33.map A_Part) (some 3)], (C_Span r_39.1)], [(2, 2), (1, 1), (2, 1), (b_33.length, 5)]⟩ ?_
       refine ExO.nil ?_
       refine Ex.seq (Ex.seq ?_)
       refine rg 2 [3, 4, 5, 6, 9, 10, 11, 89] (mkS 198 [(3, .ptr 0 0), (4, .ptr 1 0), (5, .sl (w_8.map (AV.int .i64)) none), (6, .sl (r_6.1.map (AV.int .i64)) none), (9, .ptr 3 0), (10, i6 i_31), (11, .ptr 4 0), (89, .bool (r_39.2 != 0))]) ⟨[[.int .u64 b_32], [i6 (if 400 < r_3.1.Route then 400 else r_3.1.Route), .sl (r_3.1.Wings.map A_Wing) none], [], [.sl (([(⟨40, 40⟩ : T_Span), (⟨41, 42⟩ : T_Span)] : List T_Span).map A_Span) (some 0), .sl (([[0]] : List (List Int)).map (SV (AV.int .i64))) (some 1), .sl (([r_23.1, r_24.1] : List Int).map (AV.int .i64)) (some 2), .sl (b_33.map A_Part) (some 3)], (C_Span r_39.1)], [(2, 2), (1, 1), (2, 1), (b_33.length, 5)]⟩ ?_
       rcases condI h with ⟨hc_41, h⟩ | ⟨hc_41, h⟩
       ·refine Ex.condT _ rfl hc_41 ?_
        refine Ex.seq (rg 1 [2] (mkS 198 [(2, .bool false)]) ⟨[[.int .u64 b_32], [i6 (if 400 < r_3.1.Route then 400 else r_3.1.Route), .sl (r_3.1.Wings.map A_Wing) none], [], [.sl (([(⟨40, 40⟩ : T_Span), (⟨41, 42⟩ : T_Span)] : List T_Span).map A_Span) (some 0), .sl (([[0]] : List (List Int)).map (SV (AV.int .i64))) (some 1), .sl (([r_23.1, r_24.1] : List Int).map (AV.int .i64)) (some 2), .sl (b_33.map A_Part) (some 3)], (C_Span r_39.1)], [(2, 2), (1, 1), (2, 1), (b_33.length, 5)]⟩ ?_)
        refine Ex.ret ?_
        obtain rfl := sJ h
        exact rt (.bool false)
       ·refine Ex.condF _ rfl hc_41 ?_
        refine Ex.skip ?_
        refine Ex.seq ?_
        obtain ⟨r_42, hr_42, h⟩ := bE h
        obtain ⟨r_43, hr_43, h⟩ := bE h
        obtain ⟨x_44, hx_44, h⟩ := bE h
        have hT_45 : DoesA Try.prog [⟨10, [.ptr 0 0, i6 2], [[.int .u64 b_32]], (v_bk_Drum_Roll r_42), [(C_bk_Drum r_42.2)]⟩, ⟨10, [.ptr 0 0, i6 2], [(C_bk_Drum r_42.2)], (v_bk_Drum_Roll r_43), [(C_bk_Drum r_43.2)]⟩] ∧ ConsA [⟨10, [.ptr 0 0, i6 2], [[.int .u64 b_32]], (v_bk_Drum_Roll r_42), [(C_bk_Drum r_42.2)]⟩, ⟨10, [.ptr 0 0, i6 2], [(C_bk_Drum r_42.2)], (v_bk_Drum_Roll r_43), [(C_bk_Drum r_43.2)]⟩] := ⟨⟨(d_bk_Drum_Roll N (⟨b_32⟩ : T_bk_Drum) 2 r_42 hr_42), rfl, (d_bk_Drum_Roll N r_42.2 2 r_43 hr_43), rfl, trivial⟩, ⟨⟨k_bk_Drum_Roll N (⟨b_32⟩ : T_bk_Drum) 2 r_42.2 2 r_42 r_43 hr_42 hr_43, trivial⟩, trivial, trivial⟩⟩
        refine Ex.drawE (a1 := mkS 198 [(3, .ptr 0 0), (4, .ptr 1 0), (5, .sl (w_8.map (AV.int .i64)) none), (6, .sl (r_6.1.map (AV.int .i64)) none), (9, .ptr 3 0), (10, i6 i_31), (11, .ptr 4 0), (13, .ptr 5 0), (89, .bool (r_39.2 != 0)), (90, .ptr 0 0), (91, i6 r_42.1), (92, .ptr 0 0), (93, i6 r_43.1), (94, .sl (w_8.map (AV.int .i64)) none), (95, i6 i_31), (96, .rop [i6 x_44]), (97, i6 x_44), (98, i6 (IntKind.i64.wrap (Int.tdiv x_44 60))), (99, .ptr 4 1), (100, i6 r_39.1.Hi), (101, i6 (IntKind.i64.wrap (Int.tdiv r_39.1.Hi 60))), (102, i6 (IntKind.i64.wrap ((IntKind.i64.wrap (Int.tdiv r_39.1.Hi 60)) + 1))), (103, .agg [i6 r_42.1, i6 0, i6 r_43.1, i6 (IntKind.i64.wrap (Int.tdiv x_44 60)), i6 (IntKind.i64.wrap ((IntKind.i64.wrap (Int.tdiv r_39.1.Hi 60)) + 1))])]) (tabO_ok hT_45.1) [[i6 0, i6 0, i6 0, i6 0, i6 0]] [] [⟨[(C_bk_Drum r_42.2), [i6 (if 400 < r_3.1.Route then 400 else r_3.1.Route), .sl (r_3.1.Wings.map A_Wing) none], [], [.sl (([(⟨40, 40⟩ : T_Span), (⟨41, 42⟩ : T_Span)] : List T_Span).map A_Span) (some 0), .sl (([[0]] : List (List Int)).map (SV (AV.int .i64))) (some 1), .sl (([r_23.1, r_24.1] : List Int).map (AV.int .i64)) (some 2), .sl (b_33.map A_Part) (some 3)], (C_Span r_39.1), [i6 0, i6 0, i6 0, i6 0, i6 0]], [(2, 2), (1, 1), (2, 1), (b_33.length, 5)]⟩, ⟨[(C_bk_Drum r_43.2), [i6 (if 400 < r_3.1.Route then 400 else r_3.1.Route), .sl (r_3.1.Wings.map A_Wing) none], [], [.sl (([(⟨40, 40⟩ : T_Span), (⟨41, 42⟩ : T_Span)] : List T_Span).map A_Span) (some 0), .sl (([[0]] : List (List Int)).map (SV (AV.int .i64))) (some 1), .sl (([r_23.1, r_24.1] : List Int).map (AV.int .i64)) (some 2), .sl (b_33.map A_Part) (some 3)], (C_Span r_39.1), [i6 0, i6 0, i6 0, i6 0, i6 0]], [(2, 2), (1, 1), (2, 1), (b_33.length, 5)]⟩] ?_ ?_
        ·refine drS [1, 2, 3, 4, 5] 1 [] [] (mkS 198 [(3, .ptr 0 0), (4, .ptr 1 0), (5, .sl (w_8.map (AV.int .i64)) none), (6, .sl (r_6.1.map (AV.int .i64)) none), (9, .ptr 3 0), (10, i6 i_31), (11, .ptr 4 0), (89, .bool (r_39.2 != 0)), (90, .ptr 0 0)]) (by simp) (by kernel_rfl) trivial (by kernel_rfl) ?_
         refine drB hT_45.2 0 _ [0] [.ptr 0 0, i6 2] (v_bk_Drum_Roll r_42) _ _ rfl rfl rfl rfl rfl rfl rfl rfl (by simp; try rfl) rfl (by simp) (b_bk_Drum_Roll _ _ _ _) (by simp) rfl ?_
         refine drS [1, 2, 3, 4, 5] 1 [] [] (mkS 198 [(3, .ptr 0 0), (4, .ptr 1 0), (5, .sl (w_8.map (AV.int .i64)) none), (6, .sl (r_6.1.map (AV.int .i64)) none), (9, .ptr 3 0), (10, i6 i_31), (11, .ptr 4 0), (89, .bool (r_39.2 != 0)), (90, .ptr 0 0), (91, i6 r_42.1), (92, .ptr 0 0)]) (by simp) (by kernel_rfl) trivial (by kernel_rfl) ?_
         refine drB hT_45.2 1 _ [0] [.ptr 0 0, i6 2] (v_bk_Drum_Roll r_43) _ _ rfl rfl rfl rfl rfl rfl rfl rfl (by simp; try rfl) rfl (by simp) (b_bk_Drum_Roll _ _ _ _) (by simp) rfl ?_
         refine drS [1, 2, 3, 4, 5] 10 [(2, .rop [i6 x_44])] [LGet (w_8.map (AV.int .i64)) i_31 1 [i6 x_44]] (mkS 198 [(3, .ptr 0 0), (4, .ptr 1 0), (5, .sl (w_8.map (AV.int .i64)) none), (6, .sl (r_6.1.map (AV.int .i64)) none), (9, .ptr 3 0), (10, i6 i_31), (11, .ptr 4 0), (89, .bool (r_39.2 != 0)), (90, .ptr 0 0), (91, i6 r_42.1), (92, .ptr 0 0), (93, i6 r_43.1), (94, .sl (w_8.map (AV.int .i64)) none), (95, i6 i_31), (96, .rop [i6 x_44]), (97, i6 x_44), (98, i6 (IntKind.i64.wrap (Int.tdiv x_44 60))), (99, .ptr 4 1), (100, i6 r_39.1.Hi), (101, i6 (IntKind.i64.wrap (Int.tdiv r_39.1.Hi 60))), (102, i6 (IntKind.i64.wrap ((IntKind.i64.wrap (Int.tdiv r_39.1.Hi 60)) + 1))), (103, .agg [i6 r_42.1, i6 0, i6 r_43.1, i6 (IntKind.i64.wrap (Int.tdiv x_44 60)), i6 (IntKind.i64.wrap ((IntKind.i64.wrap (Int.tdiv r_39.1.Hi 60)) + 1))])]) (by simp) (by kernel_rfl) ⟨LGet.of hx_44 rfl, trivial⟩ (by kernel_rfl) ?_
         refine drX 5 [i6 0, i6 0, i6 0, i6 0, i6 0] rfl rfl (fun _ => by kernel_rfl) (by simp) rfl rfl ?_
         exact DrO.nil rfl
        ·dsimp only [List.getLastD_cons, List.getLastD_nil]
         refine rn 1 [3, 4, 5, 6, 9, 10, 13] (mkS 198 [(3, .ptr 0 0), (4, .ptr 1 0), (5, .sl (w_8.map (AV.int .i64)) none), (6, .sl (r_6.1.map (AV.int .i64)) none), (9, .ptr 3 0), (10, i6 i_31), (13, .ptr 5 0)]) ⟨[(C_bk_Drum r_43.2), [i6 (if 400 < r_3.1.Route then 400 else r_3.1.Route), .sl (r_3.1.Wings.map A_Wing) none], [], [.sl (([(⟨40, 40⟩ : T_Span), (⟨41, 42⟩ : T_Span)] : List T_Span).map A_Span) (some 0), .sl (([[0]] : List (List Int)).map (SV (AV.int .i64))) (some 1), .sl (([r_23.1, r_24.1] : List Int).map (AV.int .i64)) (some 2), .sl (b_33.map A_Part) (some 3)], (C_Span r_39.1), [i6 r_42.1, i6 0, i6 r_43.1, i6 (IntKind.i64.wrap (Int.tdiv x_44 60)), i6 (IntKind.i64.wrap ((IntKind.i64.wrap (Int.tdiv r_39.1.Hi 60)) + 1))]], [(2, 2), (1, 1), (2, 1), (b_33.length, 5)]⟩ ?_
         refine ExO.nil ?_
         refine Ex.seq (Ex.seq ?_)
         refine rg 3 [3, 4, 5, 6, 9, 10, 13, 106] (mkS 198 [(3, .ptr 0 0), (4, .ptr 1 0), (5, .sl (w_8.map (AV.int .i64)) none), (6, .sl (r_6.1.map (AV.int .i64)) none), (9, .ptr 3 0), (10, i6 i_31), (13, .ptr 5 0), (106, .bool (decide ((IntKind.i64.wrap ((IntKind.i64.wrap (Int.tdiv r_39.1.Hi 60)) + 1)) > 1440)))]) ⟨[(C_bk_Drum r_43.2), [i6 (if 400 < r_3.1.Route then 400 else r_3.1.Route), .sl (r_3.1.Wings.map A_Wing) none], [], [.sl (([(⟨40, 40⟩ : T_Span), (⟨41, 42⟩ : T_Span)] : List T_Span).map A_Span) (some 0), .sl (([[0]] : List (List Int)).map (SV (AV.int .i64))) (some 1), .sl (([r_23.1, r_24.1] : List Int).map (AV.int .i64)) (some 2), .sl (b_33.map A_Part) (some 3)], (C_Span r_39.1), [i6 r_42.1, i6 0, i6 r_43.1, i6 (IntKind.i64.wrap (Int.tdiv x_44 60)), i6 (IntKind.i64.wrap ((IntKind.i64.wrap (Int.tdiv r_39.1.Hi 60)) + 1))]], [(2, 2), (1, 1), (2, 1), (b_33.length, 5)]⟩ ?_
         rcases condI h with ⟨hc_46, h⟩ | ⟨hc_46, h⟩
         ·refine Ex.condT _ rfl hc_46 ?_
          refine Ex.seq ?_
          obtain ⟨r_47, hr_47, h⟩ := bE h
          refine Ex.reg ?_
          refine ExO.callL [] [] rfl rfl (a_bateriatop_dressAwake) rfl rfl (d_bateriatop_dressAwake N r_47 hr_47) (b_bateriatop_dressAwake _ _ _ _) rfl ?_
          refine rn 1 [2] (mkS 198 [(2, .bool r_47)]) ⟨[(C_bk_Drum r_43.2), [i6 (if 400 < r_3.1.Route then 400 else r_3.1.Route), .sl (r_3.1.Wings.map A_Wing) none], [], [.sl (([(⟨40, 40⟩ : T_Span), (⟨41, 42⟩ : T_Span)] : List T_Span).map A_Span) (some 0), .sl (([[0]] : List (List Int)).map (SV (AV.int .i64))) (some 1), .sl (([r_23.1, r_24.1] : List Int).map (AV.int .i64)) (some 2), .sl (b_33.map A_Part) (some 3)], (C_Span r_39.1), [i6 r_42.1, i6 0, i6 r_43.1, i6 (IntKind.i64.wrap (Int.tdiv x_44 60)), i6 (IntKind.i64.wrap ((IntKind.i64.wrap (Int.tdiv r_39.1.Hi 60)) + 1))]], [(2, 2), (1, 1), (2, 1), (b_33.length, 5)]⟩ ?_
          refine ExO.nil ?_
          refine Ex.ret ?_
          obtain rfl := sJ h
          exact rt (.bool r_47)
         ·refine Ex.condF _ rfl hc_46 ?_
          refine Ex.skip ?_
          obtain ⟨l_48, hl_48, h⟩ := bE h
          refine regH 7 [(4, .app (l_48.map A_Part) l_48.length)] [3, 4, 5, 6, 9, 10] [LApp b_33.length (b_33.map A_Part) (([(⟨r_42.1, 0, r_43.1, (IntKind.i64.wrap (Int.tdiv x_44 60)), (IntKind.i64.wrap ((IntKind.i64.wrap (Int.tdiv r_39.1.Hi 60)) + 1))⟩ : T_Part)] : List T_Part).map A_Part) 5 (l_48.map A_Part) l_48.length] (mkS 198 [(3, .ptr 0 0), (4, .ptr 1 0), (5, .sl (w_8.map (AV.int .i64)) none), (6, .sl (r_6.1.map (AV.int .i64)) none), (9, .ptr 3 0), (10, i6 i_31)]) (⟨[(C_bk_Drum r_43.2), [i6 (if 400 < r_3.1.Route then 400 else r_3.1.Route), .sl (r_3.1.Wings.map A_Wing) none], [], [.sl (([(⟨40, 40⟩ : T_Span), (⟨41, 42⟩ : T_Span)] : List T_Span).map A_Span) (some 0), .sl (([[0]] : List (List Int)).map (SV (AV.int .i64))) (some 1), .sl (([r_23.1, r_24.1] : List Int).map (AV.int .i64)) (some 2), .sl (l_48.map A_Part) (some 3)], (C_Span r_39.1), [i6 r_42.1, i6 0, i6 r_43.1, i6 (IntKind.i64.wrap (Int.tdiv x_44 60)), i6 (IntKind.i64.wrap ((IntKind.i64.wrap (Int.tdiv r_39.1.Hi 60)) + 1))]], [(2, 2), (1, 1), (2, 1), (l_48.length, 5), (1, 5)]⟩) (by kernel_rfl) ⟨LApp.of hl_48 (fun _ => rfl), trivial⟩ rfl ?_
          refine rg 3 [3, 4, 5, 6, 9, 10] (mkS 198 [(3, .ptr 0 0), (4, .ptr 1 0), (5, .sl (w_8.map (AV.int .i64)) none), (6, .sl (r_6.1.map (AV.int .i64)) none), (9, .ptr 3 0), (10, i6 (IntKind.i64.wrap (i_31 + 1)))]) ⟨[(C_bk_Drum r_43.2), [i6 (if 400 < r_3.1.Route then 400 else r_3.1.Route), .sl (r_3.1.Wings.map A_Wing) none], [], [.sl (([(⟨40, 40⟩ : T_Span), (⟨41, 42⟩ : T_Span)] : List T_Span).map A_Span) (some 0), .sl (([[0]] : List (List Int)).map (SV (AV.int .i64))) (some 1), .sl (([r_23.1, r_24.1] : List Int).map (AV.int .i64)) (some 2), .sl (l_48.map A_Part) (some 3)], (C_Span r_39.1), [i6 r_42.1, i6 0, i6 r_43.1, i6 (IntKind.i64.wrap (Int.tdiv x_44 60)), i6 (IntKind.i64.wrap ((IntKind.i64.wrap (Int.tdiv r_39.1.Hi 60)) + 1))]], [(2, 2), (1, 1), (2, 1), (l_48.length, 5), (1, 5)]⟩ ?_
          dsimp only
          exact ⟨_, _, forgetA (m := 198) 4 [0, 1, 2, 3] [(3, .ptr 0 0), (4, .ptr 1 0), (5, .sl (w_8.map (AV.int .i64)) none), (6, .sl (r_6.1.map (AV.int .i64)) none), (9, .ptr 3 0), (10, i6 (IntKind.i64.wrap (i_31 + 1)))] [(C_bk_Drum r_43.2), [i6 (if 400 < r_3.1.Route then 400 else r_3.1.Route), .sl (r_3.1.Wings.map A_Wing) none], [], [.sl (([(⟨40, 40⟩ : T_Span), (⟨41, 42⟩ : T_Span)] : List T_Span).map A_Span) (some 0), .sl (([[0]] : List (List Int)).map (SV (AV.int .i64))) (some 1), .sl (([r_23.1, r_24.1] : List Int).map (AV.int .i64)) (some 2), .sl (l_48.map A_Part) (some 3)]] [(2, 2), (1, 1), (2, 1), (l_48.length, 5)] (by simp [setAll]) (by simp) ⟨rfl, rfl, (reN (cleanI _ _)), (reN (cleanI _ _)), rfl, rfl, trivial⟩ (by simp) rfl (by decide), k, Nat.lt_succ_self k, (IntKind.i64.wrap (i_31 + 1)), r_43.2.beat_, l_48, h, rfl, rfl⟩
     ·refine Ex.condF _ rfl hc_37 ?_
      refine Ex.exit ?_
      (try simp only [reduceCtorEq, AEx.ex.injEq, Nat.reduceEqDiff, if_true, if_false])
      exact ⟨_, _, forgetK [4, 5, 6, 9], b_32, b_33, h, rfl, rfl⟩
   ·rintro a S ⟨b_25, b_26, h, rfl, rfl⟩
    subst hK_29
    refine Ex.seq (Ex.seq ?_)
    obtain ⟨r_49, hr_49, h⟩ := bE h
    refine Ex.reg (rn 1 [4, 5, 6, 9, 114] (mkS 198 [(4, .ptr 1 0), (5, .sl (w_8.map (AV.int .i64)) none), (6, .sl (r_6.1.map (AV.int .i64)) none), (9, .ptr 3 0), (114, .agg [.sl (([(⟨40, 40⟩ : T_Span), (⟨41, 42⟩ : T_Span)] : List T_Span).map A_Span) (some 0), .sl (([[0]] : List (List Int)).map (SV (AV.int .i64))) (some 1), .sl (([r_23.1, r_24.1] : List Int).map (AV.int .i64)) (some 2), .sl (b_26.map A_Part) (some 3)])]) ⟨[[.int .u64 b_25], [i6 (if 400 < r_3.1.Route then 400 else r_3.1.Route), .sl (r_3.1.Wings.map A_Wing) none], [], [.sl (([(⟨40, 40⟩ : T_Span), (⟨41, 42⟩ : T_Span)] : List T_Span).map A_Span) (some 0), .sl (([[0]] : List (List Int)).map (SV (AV.int .i64))) (some 1), .sl (([r_23.1, r_24.1] : List Int).map (AV.int .i64)) (some 2), .sl (b_26.map A_Part) (some 3)]], [(2, 2), (1, 1), (2, 1), (b_26.length, 5)]⟩ ?_)
    refine ExO.callL [] [.agg [.sl (([(⟨40, 40⟩ : T_Span), (⟨41, 42⟩ : T_Span)] : List T_Span).map A_Span) (some 0), .sl (([[0]] : List (List Int)).map (SV (AV.int .i64))) (some 1), .sl (([r_23.1, r_24.1] : List Int).map (AV.int .i64)) (some 2), .sl (b_26.map A_Part) (some 3)]] rfl rfl (a_costume_Check (⟨[(⟨40, 40⟩ : T_Span), (⟨41, 42⟩ : T_Span)], [[0]], [r_23.1, r_24.1], b_26⟩ : T_Plot)) rfl rfl (d_costume_Check N (⟨[(⟨40, 40⟩ : T_Span), (⟨41, 42⟩ : T_Span)], [[0]], [r_23.1, r_24.1], b_26⟩ : T_Plot) r_49 hr_49) (b_costume_Check _ _ _ _) rfl ?_
    refine rn 1 [4, 5, 6, 9, 116] (mkS 198 [(4, .ptr 1 0), (5, .sl (w_8.map (AV.int .i64)) none), (6, .sl (r_6.1.map (AV.int .i64)) none), (9, .ptr 3 0), (116, .bool (r_49 != 0))]) ⟨[[.int .u64 b_25], [i6 (if 400 < r_3.1.Route then 400 else r_3.1.Route), .sl (r_3.1.Wings.map A_Wing) none], [], [.sl (([(⟨40, 40⟩ : T_Span), (⟨41, 42⟩ : T_Span)] : List T_Span).map A_Span) (some 0), .sl (([[0]] : List (List Int)).map (SV (AV.int .i64))) (some 1), .sl (([r_23.1, r_24.1] : List Int).map (AV.int .i64)) (some 2), .sl (b_26.map A_Part) (some 3)]], [(2, 2), (1, 1), (2, 1), (b_26.length, 5)]⟩ ?_
    refine ExO.nil ?_
    rcases condI h with ⟨hc_50, h⟩ | ⟨hc_50, h⟩
    ·refine Ex.condT _ rfl hc_50 ?_
     refine Ex.seq ?_
     obtain ⟨r_51, hr_51, h⟩ := bE h
     refine Ex.reg ?_
     refine ExO.callL [] [] rfl rfl (a_bateriatop_dressAwake) rfl rfl (d_bateriatop_dressAwake N r_51 hr_51) (b_bateriatop_dressAwake _ _ _ _) rfl ?_
     refine rn 1 [2] (mkS 198 [(2, .bool r_51)]) ⟨[[.int .u64 b_25], [i6 (if 400 < r_3.1.Route then 400 else r_3.1.Route), .sl (r_3.1.Wings.map A_Wing) none], [], [.sl (([(⟨40, 40⟩ : T_Span), (⟨41, 42⟩ : T_Span)] : List T_Span).map A_Span) (some 0), .sl (([[0]] : List (List Int)).map (SV (AV.int .i64))) (some 1), .sl (([r_23.1, r_24.1] : List Int).map (AV.int .i64)) (some 2), .sl (b_26.map A_Part) (some 3)]], [(2, 2), (1, 1), (2, 1), (b_26.length, 5)]⟩ ?_
     refine ExO.nil ?_
     refine Ex.ret ?_
     obtain rfl := sJ h
     exact rt (.bool r_51)
    ·refine Ex.condF _ rfl hc_50 ?_
     refine Ex.skip ?_
     refine Ex.seq (Ex.seq ?_)
     refine rg 1 [4, 5, 6, 9, 14] (mkS 198 [(4, .ptr 1 0), (5, .sl (w_8.map (AV.int .i64)) none), (6, .sl (r_6.1.map (AV.int .i64)) none), (9, .ptr 3 0), (14, i6 0)]) ⟨[[.int .u64 b_25], [i6 (if 400 < r_3.1.Route then 400 else r_3.1.Route), .sl (r_3.1.Wings.map A_Wing) none], [], [.sl (([(⟨40, 40⟩ : T_Span), (⟨41, 42⟩ : T_Span)] : List T_Span).map A_Span) (some 0), .sl (([[0]] : List (List Int)).map (SV (AV.int .i64))) (some 1), .sl (([r_23.1, r_24.1] : List Int).map (AV.int .i64)) (some 2), .sl (b_26.map A_Part) (some 3)]], [(2, 2), (1, 1), (2, 1), (b_26.length, 5)]⟩ ?_
     obtain ⟨K_53, hK_54, h⟩ := letE h
     refine Ex.blockJ (fun a S => K_53 () = some r ∧ a = mkS 198 [] ∧ S = ⟨[], []⟩) ?_ ?_
     ·obtain ⟨B_57, hB_58, h⟩ := loop1I h
      refine Ex.loopF (fun k a S => ∃ (i_55 : Int), loop1 B_57 k i_55 = some r ∧ a = mkS 198 [(4, .ptr 1 0), (5, .sl (w_8.map (AV.int .i64)) none), (6, .sl (r_6.1.map (AV.int .i64)) none), (9, .ptr 3 0), (14, i6 i_55)] ∧ S = ⟨[[.int .u64 b_25], [i6 (if 400 < r_3.1.Route then 400 else r_3.1.Route), .sl (r_3.1.Wings.map A_Wing) none], [], [.sl (([(⟨40, 40⟩ : T_Span), (⟨41, 42⟩ : T_Span)] : List T_Span).map A_Span) (some 0), .sl (([[0]] : List (List Int)).map (SV (AV.int .i64))) (some 1), .sl (([r_23.1, r_24.1] : List Int).map (AV.int .i64)) (some 2), .sl (b_26.map A_Part) (some 3)]], [(2, 2), (1, 1), (2, 1), (b_26.length, 5)]⟩) N ⟨_, _, Forgets.refl _ _ _, 0, h, rfl, rfl⟩ ?_
      rintro k a S ⟨i_55, h, rfl, rfl⟩
      cases k with
      | zero => exact (loop1Z h).elim
      | succ k =>
       replace h := loop1S h hB_58
       refine Ex.seq (Ex.seq ?_)
       refine regH 5 [(3, .eq (i6 ((b_26.length : Nat) : Int)))] [4, 5, 6, 9, 14, 122] [AV.int .i64 (((b_26.map A_Part).length : Nat) : Int) = AV.int .i64 ((b_26.length : Nat) : Int)] (mkS 198 [(4, .ptr 1 0), (5, .sl (w_8.map (AV.int .i64)) none), (6, .sl (r_6.1.map (AV.int .i64)) none), (9, .ptr 3 0), (14, i6 i_55), (122, .bool (decide (i_55 < ((b_26.length : Nat) : Int))))]) (⟨[[.int .u64 b_25], [i6 (if 400 < r_3.1.Route then 400 else r_3.1.Route), .sl (r_3.1.Wings.map A_Wing) none], [], [.sl (([(⟨40, 40⟩ : T_Span), (⟨41, 42⟩ : T_Span)] : List T_Span).map A_Span) (some 0), .sl (([[0]] : List (List Int)).map (SV (AV.int .i64))) (some 1), .sl (([r_23.1, r_24.1] : List Int).map (AV.int .i64)) (some 2), .sl (b_26.map A_Part) (some 3)]], [(2, 2), (1, 1), (2, 1), (b_26.length, 5)]⟩) (by kernel_rfl) ⟨lenM _ _, trivial⟩ rfl ?_
       rcases condI h with ⟨hc_59, h⟩ | ⟨hc_59, h⟩
       ·refine Ex.condT _ rfl hc_59 ?_
        refine Ex.skip ?_
        refine Ex.seq ?_
        refine Ex.blockK ?_
        refine Ex.seq ?_
        obtain ⟨x_60, hx_60, h⟩ := bE h
        refine Ex.drawE (a1 := mkS 198 [(4, .ptr 1 0), (5, .sl (w_8.map (AV.int .i64)) none), (6, .sl (r_6.1.map (AV.int .i64)) none), (9, .ptr 3 0), (14, i6 i_55), (122, .bool (decide (i_55 < ((b_26.length : Nat) : Int)))), (125, .agg [i6 (if 400 < r_3.1.Route then 400 else r_3.1.Route), .sl (r_3.1.Wings.map A_Wing) none]), (126, .sl (w_8.map (AV.int .i64)) none), (127, .sl (r_6.1.map (AV.int .i64)) none), (128, i6 i_55), (129, .ptr 1 0), (130, i6 (if 400 < r_3.1.Route then 400 else r_3.1.Route)), (131, .ptr 1 1), (132, .sl (r_3.1.Wings.map A_Wing) none), (133, i6 i_55), (134, .rop (C_Wing x_60)), (135, .rop [i6 x_60.Length, i6 x_60.Pace.Lo, i6 x_60.Pace.Hi]), (136, i6 x_60.Length), (137, i6 (IntKind.i64.wrap ((if 400 < r_3.1.Route then 400 else r_3.1.Route) + x_60.Length)))]) (noClr_ok _) [] [] [] ?_ ?_
        ·refine drS [0, 1, 2, 3] 13 [(9, .rop (C_Wing x_60))] [LGet (r_3.1.Wings.map A_Wing) i_55 4 (C_Wing x_60)] (mkS 198 [(4, .ptr 1 0), (5, .sl (w_8.map (AV.int .i64)) none), (6, .sl (r_6.1.map (AV.int .i64)) none), (9, .ptr 3 0), (14, i6 i_55), (122, .bool (decide (i_55 < ((b_26.length : Nat) : Int)))), (125, .agg [i6 (if 400 < r_3.1.Route then 400 else r_3.1.Route), .sl (r_3.1.Wings.map A_Wing) none]), (126, .sl (w_8.map (AV.int .i64)) none), (127, .sl (r_6.1.map (AV.int .i64)) none), (128, i6 i_55), (129, .ptr 1 0), (130, i6 (if 400 < r_3.1.Route then 400 else r_3.1.Route)), (131, .ptr 1 1), (132, .sl (r_3.1.Wings.map A_Wing) none), (133, i6 i_55), (134, .rop (C_Wing x_60)), (135, .rop [i6 x_60.Length, i6 x_60.Pace.Lo, i6 x_60.Pace.Hi]), (136, i6 x_60.Length), (137, i6 (IntKind.i64.wrap ((if 400 < r_3.1.Route then 400 else r_3.1.Route) + x_60.Length)))]) (by simp) (by kernel_rfl) ⟨LGet.of hx_60 rfl, trivial⟩ (by kernel_rfl) ?_
         exact DrO.nil rfl
        ·dsimp only [List.getLastD_cons, List.getLastD_nil]
         obtain ⟨r_61, hr_61, h⟩ := bE h
         refine ExO.callL [] [.agg [i6 (if 400 < r_3.1.Route then 400 else r_3.1.Route), .sl (r_3.1.Wings.map A_Wing) none], .sl (w_8.map (AV.int .i64)) none, .sl (r_6.1.map (AV.int .i64)) none, i6 i_55, i6 (IntKind.i64.wrap ((if 400 < r_3.1.Route then 400 else r_3.1.Route) + x_60.Length))] rfl rfl (a_br1_Passed (⟨(if 400 < r_3.1.Route then 400 else r_3.1.Route), r_3.1.Wings⟩ : T_School) w_8 r_6.1 i_55 (IntKind.i64.wrap ((if 400 < r_3.1.Route then 400 else r_3.1.Route) + x_60.Length))) rfl rfl (d_br1_Passed N (⟨(if 400 < r_3.1.Route then 400 else r_3.1.Route), r_3.1.Wings⟩ : T_School) w_8 r_6.1 i_55 (IntKind.i64.wrap ((if 400 < r_3.1.Route then 400 else r_3.1.Route) + x_60.Length)) r_61 hr_61) (b_br1_Passed _ _ _ _) rfl ?_
         refine rn 1 [4, 5, 6, 9, 14, 15] (mkS 198 [(4, .ptr 1 0), (5, .sl (w_8.map (AV.int .i64)) none), (6, .sl (r_6.1.map (AV.int .i64)) none), (9, .ptr 3 0), (14, i6 i_55), (15, i6 r_61)]) ⟨[[.int .u64 b_25], [i6 (if 400 < r_3.1.Route then 400 else r_3.1.Route), .sl (r_3.1.Wings.map A_Wing) none], [], [.sl (([(⟨40, 40⟩ : T_Span), (⟨41, 42⟩ : T_Span)] : List T_Span).map A_Span) (some 0), .sl (([[0]] : List (List Int)).map (SV (AV.int .i64))) (some 1), .sl (([r_23.1, r_24.1] : List Int).map (AV.int .i64)) (some 2), .sl (b_26.map A_Part) (some 3)]], [(2, 2), (1, 1), (2, 1), (b_26.length, 5)]⟩ ?_
         refine ExO.nil ?_
         refine Ex.seq (rg 1 [4, 5, 6, 9, 14, 15, 16] (mkS 198 [(4, .ptr 1 0), (5, .sl (w_8.map (AV.int .i64)) none), (6, .sl (r_6.1.map (AV.int .i64)) none), (9, .ptr 3 0), (14, i6 i_55), (15, i6 r_61), (16, i6 0)]) ⟨[[.int .u64 b_25], [i6 (if 400 < r_3.1.Route then 400 else r_3.1.Route), .sl (r_3.1.Wings.map A_Wing) none], [], [.sl (([(⟨40, 40⟩ : T_Span), (⟨41, 42⟩ : T_Span)] : List T_Span).map A_Span) (some 0), .sl (([[0]] : List (List Int)).map (SV (AV.int .i64))) (some 1), .sl (([r_23.1, r_24.1] : List Int).map (AV.int .i64)) (some 2), .sl (b_26.map A_Part) (some 3)]], [(2, 2), (1, 1), (2, 1), (b_26.length, 5)]⟩ ?_)
         obtain ⟨K_63, hK_64, h⟩ := letE h
         refine Ex.blockJ (fun a S => K_63 () = some r ∧ a = mkS 198 [(4, .ptr 1 0), (5, .sl (w_8.map (AV.int .i64)) none), (6, .sl (r_6.1.map (AV.int .i64)) none), (9, .ptr 3 0), (14, i6 i_55)] ∧ S = ⟨[[.int .u64 b_25], [i6 (if 400 < r_3.1.Route then 400 else r_3.1.Route), .sl (r_3.1.Wings.map A_Wing) none], [], [.sl (([(⟨40, 40⟩ : T_Span), (⟨41, 42⟩ : T_Span)] : List T_Span).map A_Span) (some 0), .sl (([[0]] : List (List Int)).map (SV (AV.int .i64))) (some 1), .sl (([r_23.1, r_24.1] : List Int).map (AV.int .i64)) (some 2), .sl (b_26.map A_Part) (some 3)]], [(2, 2), (1, 1), (2, 1), (b_26.length, 5)]⟩) ?_ ?_
         ·obtain ⟨B_67, hB_68, h⟩ := loop1I h
          refine Ex.loopF (fun k a S => ∃ (k_65 : Int), loop1 B_67 k k_65 = some r ∧ a = mkS 198 [(4, .ptr 1 0), (5, .sl (w_8.map (AV.int .i64)) none), (6, .sl (r_6.1.map (AV.int .i64)) none), (9, .ptr 3 0), (14, i6 i_55), (15, i6 r_61), (16, i6 k_65)] ∧ S = ⟨[[.int .u64 b_25], [i6 (if 400 < r_3.1.Route then 400 else r_3.1.Route), .sl (r_3.1.Wings.map A_Wing) none], [], [.sl (([(⟨40, 40⟩ : T_Span), (⟨41, 42⟩ : T_Span)] : List T_Span).map A_Span) (some 0), .sl (([[0]] : List (List Int)).map (SV (AV.int .i64))) (some 1), .sl (([r_23.1, r_24.1] : List Int).map (AV.int .i64)) (some 2), .sl (b_26.map A_Part) (some 3)]], [(2, 2), (1, 1), (2, 1), (b_26.length, 5)]⟩) N ⟨_, _, Forgets.refl _ _ _, 0, h, rfl, rfl⟩ ?_
          rintro k a S ⟨k_65, h, rfl, rfl⟩
          cases k with
          | zero => exact (loop1Z h).elim
          | succ k =>
           replace h := loop1S h hB_68
           refine Ex.seq (Ex.seq ?_)
           refine regH 5 [(3, .eq (i6 ((b_26.length : Nat) : Int)))] [4, 5, 6, 9, 14, 15, 16, 143] [AV.int .i64 (((b_26.map A_Part).length : Nat) : Int) = AV.int .i64 ((b_26.length : Nat) : Int)] (mkS 198 [(4, .ptr 1 0), (5, .sl (w_8.map (AV.int .i64)) none), (6, .sl (r_6.1.map (AV.int .i64)) none), (9, .ptr 3 0), (14, i6 i_55), (15, i6 r_61), (16, i6 k_65), (143, .bool (decide (k_65 < ((b_26.length : Nat) : Int))))]) (⟨[[.int .u64 b_25], [i6 (if 400 < r_3.1.Route then 400 else r_3.1.Route), .sl (r_3.1.Wings.map A_Wing) none], [], [.sl (([(⟨40, 40⟩ : T_Span), (⟨41, 42⟩ : T_Span)] : List T_Span).map A_Span) (some 0), .sl (([[0]] : List (List Int)).map (SV (AV.int .i64))) (some 1), .sl (([r_23.1, r_24.1] : List Int).map (AV.int .i64)) (some 2), .sl (b_26.map A_Part) (some 3)]], [(2, 2), (1, 1), (2, 1), (b_26.length, 5)]⟩) (by kernel_rfl) ⟨lenM _ _, trivial⟩ rfl ?_
           rcases condI h with ⟨hc_69, h⟩ | ⟨hc_69, h⟩
           ·refine Ex.condT _ rfl hc_69 ?_
            refine Ex.skip ?_
            refine Ex.seq ?_
            obtain ⟨K_71, hK_72, h⟩ := letE h
            refine Ex.blockJ (fun a S => K_71 () = some r ∧ a = mkS 198 [(4, .ptr 1 0), (5, .sl (w_8.map (AV.int .i64)) none), (6, .sl (r_6.1.map (AV.int .i64)) none), (9, .ptr 3 0), (14, i6 i_55), (15, i6 r_61), (16, i6 k_65)] ∧ S = ⟨[[.int .u64 b_25], [i6 (if 400 < r_3.1.Route then 400 else r_3.1.Route), .sl (r_3.1.Wings.map A_Wing) none], [], [.sl (([(⟨40, 40⟩ : T_Span), (⟨41, 42⟩ : T_Span)] : List T_Span).map A_Span) (some 0), .sl (([[0]] : List (List Int)).map (SV (AV.int .i64))) (some 1), .sl (([r_23.1, r_24.1] : List Int).map (AV.int .i64)) (some 2), .sl (b_26.map A_Part) (some 3)]], [(2, 2), (1, 1), (2, 1), (b_26.length, 5)]⟩) ?_ ?_
            ·refine Ex.seq ?_
             obtain ⟨x_73, hx_73, h⟩ := bE h
             obtain ⟨x_74, hx_74, h⟩ := bE h
             refine Ex.drawE (a1 := mkS 198 [(4, .ptr 1 0), (5, .sl (w_8.map (AV.int .i64)) none), (6, .sl (r_6.1.map (AV.int .i64)) none), (9, .ptr 3 0), (14, i6 i_55), (15, i6 r_61), (16, i6 k_65), (17, .ptr 4 0), (18, .ptr 5 0), (143, .bool (decide (k_65 < ((b_26.length : Nat) : Int)))), (146, .ptr 3 3), (147, .sl (b_26.map A_Part) (some 3)), (148, i6 i_55), (149, .rop (C_Part x_73)), (150, (A_Part x_73)), (151, .ptr 3 3), (152, .sl (b_26.map A_Part) (some 3)), (153, i6 k_65), (154, .rop (C_Part x_74)), (155, (A_Part x_74))]) (noClr_ok _) [[i6 0, i6 0, i6 0, i6 0, i6 0], [i6 0, i6 0, i6 0, i6 0, i6 0]] [] [⟨[[.int .u64 b_25], [i6 (if 400 < r_3.1.Route then 400 else r_3.1.Route), .sl (r_3.1.Wings.map A_Wing) none], [], [.sl (([(⟨40, 40⟩ : T_Span), (⟨41, 42⟩ : T_Span)] : List T_Span).map A_Span) (some 0), .sl (([[0]] : List (List Int)).map (SV (AV.int .i64))) (some 1), .sl (([r_23.1, r_24.1] : List Int).map (AV.int .i64)) (some 2), .sl (b_26.map A_Part) (some 3)], (C_Part x_73), [i6 0, i6 0, i6 0, i6 0, i6 0]], [(2, 2), (1, 1), (2, 1), (b_26.length, 5)]⟩] ?_ ?_
             ·refine drS [0, 1, 2, 3, 5] 10 [(3, .rop (C_Part x_73)), (8, .rop (C_Part x_74))] [LGet (b_26.map A_Part) i_55 5 (C_Part x_73), LGet (b_26.map A_Part) k_65 5 (C_Part x_74)] (mkS 198 [(4, .ptr 1 0), (5, .sl (w_8.map (AV.int .i64)) none), (6, .sl (r_6.1.map (AV.int .i64)) none), (9, .ptr 3 0), (14, i6 i_55), (15, i6 r_61), (16, i6 k_65), (143, .bool (decide (k_65 < ((b_26.length : Nat) : Int)))), (146, .ptr 3 3), (147, .sl (b_26.map A_Part) (some 3)), (148, i6 i_55), (149, .rop (C_Part x_73)), (150, (A_Part x_73)), (151, .ptr 3 3), (152, .sl (b_26.map A_Part) (some 3)), (153, i6 k_65), (154, .rop (C_Part x_74)), (155, (A_Part x_74))]) (by simp) (by kernel_rfl) ⟨LGet.of hx_73 rfl, LGet.of hx_74 rfl, trivial⟩ (by kernel_rfl) ?_
              refine drXL 4 [i6 0, i6 0, i6 0, i6 0, i6 0] 17 rfl rfl (fun _ => by kernel_rfl) (by simp) (by simp) rfl (by kernel_rfl) rfl rfl ?_
              refine drX 5 [i6 0, i6 0, i6 0, i6 0, i6 0] rfl rfl (fun _ => by kernel_rfl) (by simp) rfl rfl ?_
              refine drE none none (.tup []) _ _ rfl rfl rfl rfl rfl (by kernel_rfl) trivial ?_
              exact DrO.nil rfl
             ·dsimp only [List.getLastD_cons, List.getLastD_nil]
              refine rn 1 [4, 5, 6, 9, 14, 15, 16, 17, 18] (mkS 198 [(4, .ptr 1 0), (5, .sl (w_8.map (AV.int .i64)) none), (6, .sl (r_6.1.map (AV.int .i64)) none), (9, .ptr 3 0), (14, i6 i_55), (15, i6 r_61), (16, i6 k_65), (17, .ptr 4 0), (18, .ptr 5 0)]) ⟨[[.int .u64 b_25], [i6 (if 400 < r_3.1.Route then 400 else r_3.1.Route), .sl (r_3.1.Wings.map A_Wing) none], [], [.sl (([(⟨40, 40⟩ : T_Span), (⟨41, 42⟩ : T_Span)] : List T_Span).map A_Span) (some 0), .sl (([[0]] : List (List Int)).map (SV (AV.int .i64))) (some 1), .sl (([r_23.1, r_24.1] : List Int).map (AV.int .i64)) (some 2), .sl (b_26.map A_Part) (some 3)], (C_Part x_73), (C_Part x_74)], [(2, 2), (1, 1), (2, 1), (b_26.length, 5)]⟩ ?_
              refine ExO.nil ?_
              refine Ex.seq ?_
              obtain ⟨K_77, hK_78, h⟩ := letE h
              refine Ex.seqJ (fun a S => ∃ (y_75 : Bool), K_77 y_75 = some r ∧ a = mkS 198 [(4, .ptr 1 0), (5, .sl (w_8.map (AV.int .i64)) none), (6, .sl (r_6.1.map (AV.int .i64)) none), (9, .ptr 3 0), (14, i6 i_55), (15, i6 r_61), (16, i6 k_65), (17, .ptr 4 0), (18, .ptr 5 0), (176, .bool y_75)] ∧ S = ⟨[[.int .u64 b_25], [i6 (if 400 < r_3.1.Route then 400 else r_3.1.Route), .sl (r_3.1.Wings.map A_Wing) none], [], [.sl (([(⟨40, 40⟩ : T_Span), (⟨41, 42⟩ : T_Span)] : List T_Span).map A_Span) (some 0), .sl (([[0]] : List (List Int)).map (SV (AV.int .i64))) (some 1), .sl (([r_23.1, r_24.1] : List Int).map (AV.int .i64)) (some 2), .sl (b_26.map A_Part) (some 3)], (C_Part x_73), (C_Part x_74)], [(2, 2), (1, 1), (2, 1), (b_26.length, 5)]⟩) ?_ ?_
              ·rcases condI h with ⟨hc_79, h⟩ | ⟨hc_79, h⟩
               ·refine dregX (noClr_ok _) [(3, .eq (.bool true))] [] [4, 5, 6, 9, 14, 15, 16, 17, 18, 176] [AV.bool (i_55 == k_65) = AV.bool true] [] (mkS 198 [(4, .ptr 1 0), (5, .sl (w_8.map (AV.int .i64)) none), (6, .sl (r_6.1.map (AV.int .i64)) none), (9, .ptr 3 0), (14, i6 i_55), (15, i6 r_61), (16, i6 k_65), (17, .ptr 4 0), (18, .ptr 5 0), (156, i6 i_55), (157, i6 k_65), (158, .bool (i_55 == k_65)), (159, .bool true), (160, .tup []), (161, .tup []), (162, .tup []), (163, .tup []), (164, .tup []), (165, .bool true), (166, .bool true), (167, .tup []), (168, .tup []), (169, .tup []), (170, .tup []), (171, .tup []), (172, .tup []), (173, .tup []), (174, .tup [])]) (mkS 198 [(4, .ptr 1 0), (5, .sl (w_8.map (AV.int .i64)) none), (6, .sl (r_6.1.map (AV.int .i64)) none), (9, .ptr 3 0), (14, i6 i_55), (15, i6 r_61), (16, i6 k_65), (17, .ptr 4 0), (18, .ptr 5 0), (176, .bool true)]) (by kernel_rfl) (by kernel_rfl) ⟨congrArg AV.bool hc_79, trivial⟩ (by kernel_rfl) trivial ?_
                (try simp only [reduceCtorEq, AEx.ex.injEq, Nat.reduceEqDiff, if_true, if_false])
                exact ⟨_, _, Forgets.refl _ _ _, true, h, rfl, rfl⟩
               ·rcases condI h with ⟨hc_80, h⟩ | ⟨hc_80, h⟩
                ·refine dregX (noClr_ok _) [(3, .eq (.bool false)), (10, .eq (.bool true))] [] [4, 5, 6, 9, 14, 15, 16, 17, 18, 176] [AV.bool (i_55 == k_65) = AV.bool false, AV.bool (x_73.Person != x_74.Person) = AV.bool true] [] (mkS 198 [(4, .ptr 1 0), (5, .sl (w_8.map (AV.int .i64)) none), (6, .sl (r_6.1.map (AV.int .i64)) none), (9, .ptr 3 0), (14, i6 i_55), (15, i6 r_61), (16, i6 k_65), (17, .ptr 4 0), (18, .ptr 5 0), (156, i6 i_55), (157, i6 k_65), (158, .bool (i_55 == k_65)), (159, .bool false), (160, .ptr 4 0), (161, i6 x_73.Person), (162, .ptr 5 0), (163, i6 x_74.Person), (164, .bool (x_73.Person != x_74.Person)), (165, .bool (x_73.Person != x_74.Person)), (166, .bool true), (167, .tup []), (168, .tup []), (169, .tup []), (170, .tup []), (171, .tup []), (172, .tup []), (173, .tup []), (174, .tup [])]) (mkS 198 [(4, .ptr 1 0), (5, .sl (w_8.map (AV.int .i64)) none), (6, .sl (r_6.1.map (AV.int .i64)) none), (9, .ptr 3 0), (14, i6 i_55), (15, i6 r_61), (16, i6 k_65), (17, .ptr 4 0), (18, .ptr 5 0), (176, .bool true)]) (by kernel_rfl) (by kernel_rfl) ⟨congrArg AV.bool hc_79, congrArg AV.bool hc_80, trivial⟩ (by kernel_rfl) trivial ?_
                 (try simp only [reduceCtorEq, AEx.ex.injEq, Nat.reduceEqDiff, if_true, if_false])
                 exact ⟨_, _, Forgets.refl _ _ _, true, h, rfl, rfl⟩
                ·obtain ⟨x_81, hx_81, h⟩ := bE h
                 obtain ⟨x_82, hx_82, h⟩ := bE h
                 refine Ex.drawE (a1 := mkS 198 [(4, .ptr 1 0), (5, .sl (w_8.map (AV.int .i64)) none), (6, .sl (r_6.1.map (AV.int .i64)) none), (9, .ptr 3 0), (14, i6 i_55), (15, i6 r_61), (16, i6 k_65), (17, .ptr 4 0), (18, .ptr 5 0), (156, i6 i_55), (157, i6 k_65), (158, .bool (i_55 == k_65)), (159, .bool false), (160, .ptr 4 0), (161, i6 x_73.Person), (162, .ptr 5 0), (163, i6 x_74.Person), (164, .bool (x_73.Person != x_74.Person)), (165, .bool (x_73.Person != x_74.Person)), (166, .bool false), (167, .sl (w_8.map (AV.int .i64)) none), (168, i6 k_65), (169, .rop [i6 x_81]), (170, i6 x_81), (171, .sl (w_8.map (AV.int .i64)) none), (172, i6 i_55), (173, .rop [i6 x_82]), (174, i6 x_82)]) (noClr_ok _) [] [] [] ?_ ?_
                 ·refine drS [0, 1, 2, 3, 4, 5] 19 [(3, .eq (.bool false)), (10, .eq (.bool false)), (13, .rop [i6 x_81]), (17, .rop [i6 x_82])] [AV.bool (i_55 == k_65) = AV.bool false, AV.bool (x_73.Person != x_74.Person) = AV.bool false, LGet (w_8.map (AV.int .i64)) k_65 1 [i6 x_81], LGet (w_8.map (AV.int .i64)) i_55 1 [i6 x_82]] (mkS 198 [(4, .ptr 1 0), (5, .sl (w_8.map (AV.int .i64)) none), (6, .sl (r_6.1.map (AV.int .i64)) none), (9, .ptr 3 0), (14, i6 i_55), (15, i6 r_61), (16, i6 k_65), (17, .ptr 4 0), (18, .ptr 5 0), (156, i6 i_55), (157, i6 k_65), (158, .bool (i_55 == k_65)), (159, .bool false), (160, .ptr 4 0), (161, i6 x_73.Person), (162, .ptr 5 0), (163, i6 x_74.Person), (164, .bool (x_73.Person != x_74.Person)), (165, .bool (x_73.Person != x_74.Person)), (166, .bool false), (167, .sl (w_8.map (AV.int .i64)) none), (168, i6 k_65), (169, .rop [i6 x_81]), (170, i6 x_81), (171, .sl (w_8.map (AV.int .i64)) none), (172, i6 i_55), (173, .rop [i6 x_82]), (174, i6 x_82)]) (by simp) (by kernel_rfl) ⟨congrArg AV.bool hc_79, congrArg AV.bool hc_80, LGet.of hx_81 rfl, LGet.of hx_82 rfl, trivial⟩ (by kernel_rfl) ?_
                  exact DrO.nil rfl
                 ·dsimp only [List.getLastD_cons, List.getLastD_nil]
                  refine rn 2 [4, 5, 6, 9, 14, 15, 16, 17, 18, 176] (mkS 198 [(4, .ptr 1 0), (5, .sl (w_8.map (AV.int .i64)) none), (6, .sl (r_6.1.map (AV.int .i64)) none), (9, .ptr 3 0), (14, i6 i_55), (15, i6 r_61), (16, i6 k_65), (17, .ptr 4 0), (18, .ptr 5 0), (176, .bool (decide (x_81 < x_82)))]) ⟨[[.int .u64 b_25], [i6 (if 400 < r_3.1.Route then 400 else r_3.1.Route), .sl (r_3.1.Wings.map A_Wing) none], [], [.sl (([(⟨40, 40⟩ : T_Span), (⟨41, 42⟩ : T_Span)] : List T_Span).map A_Span) (some 0), .sl (([[0]] : List (List Int)).map (SV (AV.int .i64))) (some 1), .sl (([r_23.1, r_24.1] : List Int).map (AV.int .i64)) (some 2), .sl (b_26.map A_Part) (some 3)], (C_Part x_73), (C_Part x_74)], [(2, 2), (1, 1), (2, 1), (b_26.length, 5)]⟩ ?_
                  refine ExO.nil ?_
                  (try simp only [reduceCtorEq, AEx.ex.injEq, Nat.reduceEqDiff, if_true, if_false])
                  exact ⟨_, _, Forgets.refl _ _ _, (decide (x_81 < x_82)), h, rfl, rfl⟩
              ·rintro a S ⟨y_75, h, rfl, rfl⟩
               subst hK_78
               rcases condI h with ⟨hc_83, h⟩ | ⟨hc_83, h⟩
               ·refine Ex.condT _ rfl hc_83 ?_
                refine Ex.exit ?_
                (try simp only [reduceCtorEq, AEx.ex.injEq, Nat.reduceEqDiff, if_true, if_false])
                exact ⟨_, _, forgetA (m := 198) 4 [0, 1, 2, 3] [(4, .ptr 1 0), (5, .sl (w_8.map (AV.int .i64)) none), (6, .sl (r_6.1.map (AV.int .i64)) none), (9, .ptr 3 0), (14, i6 i_55), (15, i6 r_61), (16, i6 k_65)] [[.int .u64 b_25], [i6 (if 400 < r_3.1.Route then 400 else r_3.1.Route), .sl (r_3.1.Wings.map A_Wing) none], [], [.sl (([(⟨40, 40⟩ : T_Span), (⟨41, 42⟩ : T_Span)] : List T_Span).map A_Span) (some 0), .sl (([[0]] : List (List Int)).map (SV (AV.int .i64))) (some 1), .sl (([r_23.1, r_24.1] : List Int).map (AV.int .i64)) (some 2), .sl (b_26.map A_Part) (some 3)]] [(2, 2), (1, 1), (2, 1), (b_26.length, 5)] (by simp [setAll]) (by simp) ⟨rfl, (reN (cleanI _ _)), (reN (cleanI _ _)), rfl, rfl, rfl, rfl, trivial⟩ (by simp) rfl (by decide), h, rfl, rfl⟩
               ·refine Ex.condF _ rfl hc_83 ?_
                refine Ex.skip ?_
                refine Ex.seq (rg 1 [4, 5, 6, 9, 14, 15, 16, 17, 18, 19] (mkS 198 [(4, .ptr 1 0), (5, .sl (w_8.map (AV.int .i64)) none), (6, .sl (r_6.1.map (AV.int .i64)) none), (9, .ptr 3 0), (14, i6 i_55), (15, i6 r_61), (16, i6 k_65), (17, .ptr 4 0), (18, .ptr 5 0), (19, i6 0)]) ⟨[[.int .u64 b_25], [i6 (if 400 < r_3.1.Route then 400 else r_3.1.Route), .sl (r_3.1.Wings.map A_Wing) none], [], [.sl (([(⟨40, 40⟩ : T_Span), (⟨41, 42⟩ : T_Span)] : List T_Span).map A_Span) (some 0), .sl (([[0]] : List (List Int)).map (SV (AV.int .i64))) (some 1), .sl (([r_23.1, r_24.1] : List Int).map (AV.int .i64)) (some 2), .sl (b_26.map A_Part) (some 3)], (C_Part x_73), (C_Part x_74)], [(2, 2), (1, 1), (2, 1), (b_26.length, 5)]⟩ ?_)
                obtain ⟨K_86, hK_87, h⟩ := letE h
                refine Ex.seqJ (fun a S => ∃ (need_84 : Int), K_86 need_84 = some r ∧ a = mkS 198 [(4, .ptr 1 0), (5, .sl (w_8.map (AV.int .i64)) none), (6, .sl (r_6.1.map (AV.int .i64)) none), (9, .ptr 3 0), (14, i6 i_55), (15, i6 r_61), (16, i6 k_65), (19, i6 need_84)] ∧ S = ⟨[[.int .u64 b_25], [i6 (if 400 < r_3.1.Route then 400 else r_3.1.Route), .sl (r_3.1.Wings.map A_Wing) none], [], [.sl (([(⟨40, 40⟩ : T_Span), (⟨41, 42⟩ : T_Span)] : List T_Span).map A_Span) (some 0), .sl (([[0]] : List (List Int)).map (SV (AV.int .i64))) (some 1), .sl (([r_23.1, r_24.1] : List Int).map (AV.int .i64)) (some 2), .sl (b_26.map A_Part) (some 3)]], [(2, 2), (1, 1), (2, 1), (b_26.length, 5)]⟩) ?_ ?_
                ·refine Ex.seq (rg 5 [4, 5, 6, 9, 14, 15, 16, 18, 19, 181] (mkS 198 [(4, .ptr 1 0), (5, .sl (w_8.map (AV.int .i64)) none), (6, .sl (r_6.1.map (AV.int .i64)) none), (9, .ptr 3 0), (14, i6 i_55), (15, i6 r_61), (16, i6 k_65), (18, .ptr 5 0), (19, i6 0), (181, .bool (x_73.Kind != x_74.Kind))]) ⟨[[.int .u64 b_25], [i6 (if 400 < r_3.1.Route then 400 else r_3.1.Route), .sl (r_3.1.Wings.map A_Wing) none], [], [.sl (([(⟨40, 40⟩ : T_Span), (⟨41, 42⟩ : T_Span)] : List T_Span).map A_Span) (some 0), .sl (([[0]] : List (List Int)).map (SV (AV.int .i64))) (some 1), .sl (([r_23.1, r_24.1] : List Int).map (AV.int .i64)) (some 2), .sl (b_26.map A_Part) (some 3)], (C_Part x_73), (C_Part x_74)], [(2, 2), (1, 1), (2, 1), (b_26.length, 5)]⟩ ?_)
                 rcases condI h with ⟨hc_88, h⟩ | ⟨hc_88, h⟩
                 ·refine Ex.condT _ rfl hc_88 ?_
                  obtain ⟨x_89, hx_89, h⟩ := bE h
                  refine regH 8 [(4, .rop [i6 x_89])] [4, 5, 6, 9, 14, 15, 16, 19] [LGet (([r_23.1, r_24.1] : List Int).map (AV.int .i64)) x_74.Kind 1 [i6 x_89]] (mkS 198 [(4, .ptr 1 0), (5, .sl (w_8.map (AV.int .i64)) none), (6, .sl (r_6.1.map (AV.int .i64)) none), (9, .ptr 3 0), (14, i6 i_55), (15, i6 r_61), (16, i6 k_65), (19, i6 (IntKind.i64.wrap (60 * x_89)))]) (⟨[[.int .u64 b_25], [i6 (if 400 < r_3.1.Route then 400 else r_3.1.Route), .sl (r_3.1.Wings.map A_Wing) none], [], [.sl (([(⟨40, 40⟩ : T_Span), (⟨41, 42⟩ : T_Span)] : List T_Span).map A_Span) (some 0), .sl (([[0]] : List (List Int)).map (SV (AV.int .i64))) (some 1), .sl (([r_23.1, r_24.1] : List Int).map (AV.int .i64)) (some 2), .sl (b_26.map A_Part) (some 3)], (C_Part x_73), (C_Part x_74)], [(2, 2), (1, 1), (2, 1), (b_26.length, 5)]⟩) (by kernel_rfl) ⟨LGet.of hx_89 rfl, trivial⟩ rfl ?_
                  (try simp only [reduceCtorEq, AEx.ex.injEq, Nat.reduceEqDiff, if_true, if_false])
                  exact ⟨_, _, forgetA (m := 198) 4 [0, 1, 2, 3] [(4, .ptr 1 0), (5, .sl (w_8.map (AV.int .i64)) none), (6, .sl (r_6.1.map (AV.int .i64)) none), (9, .ptr 3 0), (14, i6 i_55), (15, i6 r_61), (16, i6 k_65), (19, i6 (IntKind.i64.wrap (60 * x_89)))] [[.int .u64 b_25], [i6 (if 400 < r_3.1.Route then 400 else r_3.1.Route), .sl (r_3.1.Wings.map A_Wing) none], [], [.sl (([(⟨40, 40⟩ : T_Span), (⟨41, 42⟩ : T_Span)] : List T_Span).map A_Span) (some 0), .sl (([[0]] : List (List Int)).map (SV (AV.int .i64))) (some 1), .sl (([r_23.1, r_24.1] : List Int).map (AV.int .i64)) (some 2), .sl (b_26.map A_Part) (some 3)]] [(2, 2), (1, 1), (2, 1), (b_26.length, 5)] (by simp [setAll]) (by simp) ⟨rfl, (reN (cleanI _ _)), (reN (cleanI _ _)), rfl, rfl, rfl, rfl, rfl, trivial⟩ (by simp) rfl (by decide), (IntKind.i64.wrap (60 * x_89)), h, rfl, rfl⟩
                 ·refine Ex.condF _ rfl hc_88 ?_
                  refine Ex.skip ?_
                  (try simp only [reduceCtorEq, AEx.ex.injEq, Nat.reduceEqDiff, if_true, if_false])
                  exact ⟨_, _, forgetA (m := 198) 4 [0, 1, 2, 3] [(4, .ptr 1 0), (5, .sl (w_8.map (AV.int .i64)) none), (6, .sl (r_6.1.map (AV.int .i64)) none), (9, .ptr 3 0), (14, i6 i_55), (15, i6 r_61), (16, i6 k_65), (19, i6 0)] [[.int .u64 b_25], [i6 (if 400 < r_3.1.Route then 400 else r_3.1.Route), .sl (r_3.1.Wings.map A_Wing) none], [], [.sl (([(⟨40, 40⟩ : T_Span), (⟨41, 42⟩ : T_Span)] : List T_Span).map A_Span) (some 0), .sl (([[0]] : List (List Int)).map (SV (AV.int .i64))) (some 1), .sl (([r_23.1, r_24.1] : List Int).map (AV.int .i64)) (some 2), .sl (b_26.map A_Part) (some 3)]] [(2, 2), (1, 1), (2, 1), (b_26.length, 5)] (by simp [setAll]) (by simp) ⟨rfl, (reN (cleanI _ _)), (reN (cleanI _ _)), rfl, rfl, rfl, rfl, rfl, trivial⟩ (by simp) rfl (by decide), 0, h, rfl, rfl⟩
                ·rintro a S ⟨need_84, h, rfl, rfl⟩
                 subst hK_87
                 refine Ex.seq ?_
                 obtain ⟨x_90, hx_90, h⟩ := bE h
                 refine regH 8 [(2, .rop [i6 x_90])] [4, 5, 6, 9, 14, 15, 16, 196] [LGet (w_8.map (AV.int .i64)) k_65 1 [i6 x_90]] (mkS 198 [(4, .ptr 1 0), (5, .sl (w_8.map (AV.int .i64)) none), (6, .sl (r_6.1.map (AV.int .i64)) none), (9, .ptr 3 0), (14, i6 i_55), (15, i6 r_61), (16, i6 k_65), (196, .bool (decide ((IntKind.i64.wrap (x_90 - r_61)) < need_84)))]) (⟨[[.int .u64 b_25], [i6 (if 400 < r_3.1.Route then 400 else r_3.1.Route), .sl (r_3.1.Wings.map A_Wing) none], [], [.sl (([(⟨40, 40⟩ : T_Span), (⟨41, 42⟩ : T_Span)] : List T_Span).map A_Span) (some 0), .sl (([[0]] : List (List Int)).map (SV (AV.int .i64))) (some 1), .sl (([r_23.1, r_24.1] : List Int).map (AV.int .i64)) (some 2), .sl (b_26.map A_Part) (some 3)]], [(2, 2), (1, 1), (2, 1), (b_26.length, 5)]⟩) (by kernel_rfl) ⟨LGet.of hx_90 rfl, trivial⟩ rfl ?_
                 rcases condI h with ⟨hc_91, h⟩ | ⟨hc_91, h⟩
                 ·refine Ex.condT _ rfl hc_91 ?_
                  refine Ex.seq (rg 1 [2] (mkS 198 [(2, .bool false)]) ⟨[[.int .u64 b_25], [i6 (if 400 < r_3.1.Route then 400 else r_3.1.Route), .sl (r_3.1.Wings.map A_Wing) none], [], [.sl (([(⟨40, 40⟩ : T_Span), (⟨41, 42⟩ : T_Span)] : List T_Span).map A_Span) (some 0), .sl (([[0]] : List (List Int)).map (SV (AV.int .i64))) (some 1), .sl (([r_23.1, r_24.1] : List Int).map (AV.int .i64)) (some 2), .sl (b_26.map A_Part) (some 3)]], [(2, 2), (1, 1), (2, 1), (b_26.length, 5)]⟩ ?_)
                  refine Ex.ret ?_
                  obtain rfl := sJ h
                  exact rt (.bool false)
                 ·refine Ex.condF _ rfl hc_91 ?_
                  refine Ex.skip ?_
                  (try simp only [reduceCtorEq, AEx.ex.injEq, Nat.reduceEqDiff, if_true, if_false])
                  exact ⟨_, _, forgetK [4, 5, 6, 9, 14, 15, 16], h, rfl, rfl⟩
            ·rintro a S ⟨h, rfl, rfl⟩
             subst hK_72
             refine rg 3 [4, 5, 6, 9, 14, 15, 16] (mkS 198 [(4, .ptr 1 0), (5, .sl (w_8.map (AV.int .i64)) none), (6, .sl (r_6.1.map (AV.int .i64)) none), (9, .ptr 3 0), (14, i6 i_55), (15, i6 r_61), (16, i6 (IntKind.i64.wrap (k_65 + 1)))]) ⟨[[.int .u64 b_25], [i6 (if 400 < r_3.1.Route then 400 else r_3.1.Route), .sl (r_3.1.Wings.map A_Wing) none], [], [.sl (([(⟨40, 40⟩ : T_Span), (⟨41, 42⟩ : T_Span)] : List T_Span).map A_Span) (some 0), .sl (([[0]] : List (List Int)).map (SV (AV.int .i64))) (some 1), .sl (([r_23.1, r_24.1] : List Int).map (AV.int .i64)) (some 2), .sl (b_26.map A_Part) (some 3)]], [(2, 2), (1, 1), (2, 1), (b_26.length, 5)]⟩ ?_
             dsimp only
             exact ⟨_, _, Forgets.refl _ _ _, k, Nat.lt_succ_self k, (IntKind.i64.wrap (k_65 + 1)), h, rfl, rfl⟩
           ·refine Ex.condF _ rfl hc_69 ?_
            refine Ex.exit ?_
            (try simp only [reduceCtorEq, AEx.ex.injEq, Nat.reduceEqDiff, if_true, if_false])
            exact ⟨_, _, forgetK [4, 5, 6, 9, 14], h, rfl, rfl⟩
         ·rintro a S ⟨h, rfl, rfl⟩
          subst hK_64
          refine rg 3 [4, 5, 6, 9, 14] (mkS 198 [(4, .ptr 1 0), (5, .sl (w_8.map (AV.int .i64)) none), (6, .sl (r_6.1.map (AV.int .i64)) none), (9, .ptr 3 0), (14, i6 (IntKind.i64.wrap (i_55 + 1)))]) ⟨[[.int .u64 b_25], [i6 (if 400 < r_3.1.Route then 400 else r_3.1.Route), .sl (r_3.1.Wings.map A_Wing) none], [], [.sl (([(⟨40, 40⟩ : T_Span), (⟨41, 42⟩ : T_Span)] : List T_Span).map A_Span) (some 0), .sl (([[0]] : List (List Int)).map (SV (AV.int .i64))) (some 1), .sl (([r_23.1, r_24.1] : List Int).map (AV.int .i64)) (some 2), .sl (b_26.map A_Part) (some 3)]], [(2, 2), (1, 1), (2, 1), (b_26.length, 5)]⟩ ?_
          dsimp only
          exact ⟨_, _, Forgets.refl _ _ _, k, Nat.lt_succ_self k, (IntKind.i64.wrap (i_55 + 1)), h, rfl, rfl⟩
       ·refine Ex.condF _ rfl hc_59 ?_
        refine Ex.exit ?_
        (try simp only [reduceCtorEq, AEx.ex.injEq, Nat.reduceEqDiff, if_true, if_false])
        exact ⟨_, _, forgetA (m := 198) 0 [] [] [] [] (by simp [setAll]) (by simp) trivial (by simp) rfl (by decide), h, rfl, rfl⟩
     ·rintro a S ⟨h, rfl, rfl⟩
      subst hK_54
      refine Ex.seq ?_
      obtain ⟨r_92, hr_92, h⟩ := bE h
      refine Ex.reg ?_
      refine ExO.callL [] [] rfl rfl (a_bateriatop_dressAwake) rfl rfl (d_bateriatop_dressAwake N r_92 hr_92) (b_bateriatop_dressAwake _ _ _ _) rfl ?_
      refine rn 1 [2] (mkS 198 [(2, .bool r_92)]) ⟨[], []⟩ ?_
      refine ExO.nil ?_
      refine Ex.ret ?_
      obtain rfl := sJ h
      exact rt (.bool r_92)
end Go.Proofs.Ytacoakfppjiomaa
end
section
namespace Go.Proofs.Ytacoakfppjiomaa
open Go.RowKit

def wc (a b n : Int) : Bool := bif decide (n ≥ a) then decide (n ≤ b) else false
theorem cw_p (N : Nat) (n a b : Int) : p_costume_within N n a b = some (wc a b n) := by
 unfold p_costume_within wc
 cases decide (n ≥ a) <;> rfl
theorem num_p (N : Nat) (n : Int) (m : Nat) (hm : m ≤ 1000) : p_costume_isNumber N n ((m : Nat) : Int) = some (wc 0 ((m : Int) - 1) n) := by
 unfold p_costume_isNumber
 rw [w64 (by omega) (by omega), cw_p]
 rfl
def plotP (da db : Int) (l : List T_Part) : T_Plot := ⟨[⟨40, 40⟩, ⟨41, 42⟩], [[0]], [da, db], l⟩
structure GoodP (x : T_Part) : Prop where
 pl : x.Place = 0
 k0 : 0 ≤ x.Kind
 k1 : x.Kind < 2
 f0 : -1000000 ≤ x.From
 f1 : x.From ≤ 1000000
 t0 : -1000000 ≤ x.To
 t1 : x.To ≤ 1000000
def dressK (da db k : Int) : Int := if k = 0 then da else db
theorem dress_p {da db k : Int} (k0 : 0 ≤ k) (k1 : k < 2) : getI [da, db] k = some (dressK da db k) := by
 rcases (show k = 0 ∨ k = 1 by omega) with rfl | rfl
 ·rfl
 ·rfl
theorem part_p (N : Nat) (da db : Int) (l : List T_Part) (x : T_Part) : ∃ c, p_costume_checkPart N (plotP da db l) x = some c := by
 unfold p_costume_checkPart
 have e1 : ((plotP da db l).Persons.length : Int) = ((2 : Nat) : Int) := rfl
 have e2 : ((plotP da db l).Walk.length : Int) = ((1 : Nat) : Int) := rfl
 have e3 : ((plotP da db l).Dress.length : Int) = ((2 : Nat) : Int) := rfl
 rw [e1, e2, e3, num_p N _ 2 (by omega), num_p N _ 1 (by omega), num_p N _ 2 (by omega)]
 simp only [cw_p, Option.bind_some, letJ_eq]
 generalize wc 0 (((2 : Nat) : Int) - 1) x.Person = b1
 generalize wc 0 (((1 : Nat) : Int) - 1) x.Place = b2
 generalize wc 0 (((2 : Nat) : Int) - 1) x.Kind = b3
 generalize wc 0 1440 x.From = b4
 generalize wc 0 1440 x.To = b5
 generalize decide (x.From ≥ x.To) = b6
 cases b1 <;> cases b2 <;> cases b3 <;> cases b4 <;> cases b5 <;> cases b6 <;> exact ⟨_, rfl⟩
def Then (da db : Int) (a b : T_Part) : Prop := 0 ≤ b.From - a.To ∧ (a.Kind ≠ b.Kind → dressK da db b.Kind ≤ b.From - a.To)
def Both (da db : Int) (a b : T_Part) : Prop := a.Person = b.Person → (b.From < a.From → Then da db b a) ∧ (¬ b.From < a.From → Then da db a b)
theorem pair_p (N : Nat) (da db : Int) (hda : 0 ≤ da ∧ da ≤ 1000) (hdb : 0 ≤ db ∧ db ≤ 1000) (l : List T_Part) (f t : T_Part) (hf : GoodP f) (ht : GoodP t) : ∃ c, ((p_costume_way N (plotP da db l) f t).bind fun r_6 => (letJ (fun (needed_7 : Int) => ((p_costume_pause N f t).bind fun r_13 => (bif (decide (r_13 < 0)) then some 10 else ((p_costume_pause N f t).bind fun r_15 => (bif (decide (r_15 < needed_7)) then some 12 else some 0))))) (fun k_8 => (bif (f.Kind != t.Kind) then ((getI (plotP da db l).Dress t.Kind).bind fun x_12 => (k_8 (IntKind.i64.wrap (r_6 + x_12)))) else (k_8 r_6))))) = some (c : Int) ∧ (c = 0 → Then da db f t) := by
 have hw : p_costume_way N (plotP da db l) f t = some 0 := by
  unfold p_costume_way
  rw [hf.pl, ht.pl]
  rfl
 have hp : p_costume_pause N f t = some (t.From - f.To) := by
  unfold p_costume_pause
  have := hf.t0; have := hf.t1; have := ht.f0; have := ht.f1
  rw [w64 (by omega) (by omega)]
 have hd : getI (plotP da db l).Dress t.Kind = some (dressK da db t.Kind) := dress_p ht.k0 ht.k1
 have hdb2 : 0 ≤ dressK da db t.Kind ∧ dressK da db t.Kind ≤ 1000 := by unfold dressK; split <;> omega
 rw [hw, Option.bind_some]
 simp only [hp, Option.bind_some, letJ_eq, hd]
 by_cases hk : f.Kind = t.Kind
 ·rw [show (f.Kind != t.Kind) = false from by simp [hk], cond_false]
  by_cases h0 : t.From - f.To < 0
  ·rw [decide_eq_true h0, cond_true]
   exact ⟨10, rfl, fun q => by omega⟩
  ·rw [decide_eq_false h0, cond_false, cond_false]
   exact ⟨0, rfl, fun _ => ⟨by omega, fun q => absurd hk q⟩⟩
 ·rw [show (f.Kind != t.Kind) = true from by simp [hk], cond_true, Int.zero_add, w64 (by omega) (by omega)]
  by_cases h0 : t.From - f.To < 0
  ·rw [decide_eq_true h0, cond_true]
   exact ⟨10, rfl, fun q => by omega⟩
  ·rw [decide_eq_false h0, cond_false]
   by_cases h1 : t.From - f.To < dressK da db t.Kind
   ·rw [decide_eq_true h1, cond_true]
    exact ⟨12, rfl, fun q => by omega⟩
   ·rw [decide_eq_false h1, cond_false]
    exact ⟨0, rfl, fun _ => ⟨by omega, fun _ => by omega⟩⟩
theorem both_p (N : Nat) (da db : Int) (hda : 0 ≤ da ∧ da ≤ 1000) (hdb : 0 ≤ db ∧ db ≤ 1000) (l : List T_Part) (a b : T_Part) (ha : GoodP a) (hb : GoodP b) : ∃ c, p_costume_checkBoth N (plotP da db l) a b = some c ∧ (c = 0 → Both da db a b) := by
 unfold p_costume_checkBoth
 by_cases hp : a.Person = b.Person
 ·rw [show (a.Person != b.Person) = false from by simp [hp], cond_false]
  by_cases hlt : b.From < a.From
  ·rw [show p_costume_inTime N a b = some (b, a) from by unfold p_costume_inTime; rw [decide_eq_true hlt, cond_true], Option.bind_some]
   obtain ⟨c, e, h⟩ := pair_p N da db hda hdb l b a hb ha
   exact ⟨c, e, fun q _ => ⟨fun _ => h q, fun q2 => absurd hlt q2⟩⟩
  ·rw [show p_costume_inTime N a b = some (a, b) from by unfold p_costume_inTime; rw [decide_eq_false hlt, cond_false], Option.bind_some]
   obtain ⟨c, e, h⟩ := pair_p N da db hda hdb l a b ha hb
   exact ⟨c, e, fun q _ => ⟨fun q2 => absurd q2 hlt, fun _ => h q⟩⟩
 ·rw [show (a.Person != b.Person) = true from by simp [hp], cond_true]
  exact ⟨0, rfl, fun _ q => absurd q hp⟩
theorem cdress_p (N : Nat) (hN : 1000 < N) (da db : Int) (hda : 0 ≤ da ∧ da ≤ 1000) (hdb : 0 ≤ db ∧ db ≤ 1000) : p_costume_checkDress N [da, db] = some 0 := by
 unfold p_costume_checkDress
 rw [show p_costume_checkCount N ((([da, db] : List Int).length : Nat) : Int) 8 = some 0 from rfl, Option.bind_some]
 simp only [bne_self_eq_false, cond_false, letJ_eq]
 refine st1 ([da, db] : List Int).length _ (some 0) ?_ ?_ N 0 (by simp) (by simp; omega)
 ·intro rec; simp only [ltE, cond_false]
 ·intro rec i hi
  have hx : ([da, db] : List Int)[i]? = some ([da, db] : List Int)[i] := List.getElem?_eq_getElem hi
  have hb : 0 ≤ ([da, db] : List Int)[i] ∧ ([da, db] : List Int)[i] ≤ 1440 := by
   have := List.mem_of_getElem? hx
   simp only [List.mem_cons, List.not_mem_nil, or_false] at this
   omega
  have hw : wc 0 1440 ([da, db] : List Int)[i] = true := by
   unfold wc
   rw [decide_eq_true (show _ ≥ (0 : Int) from hb.1), cond_true, decide_eq_true hb.2]
  simp only [ltD hi, cond_true, getD_at hx, Option.bind_some, cw_p, hw, Bool.not_true, cond_false, nadd1 i (by simp at hi; omega)]
theorem check_c (N : Nat) (hN : 1000 < N) (hpp : ∀ da db l, p_costume_checkPersons N (plotP da db l).Persons = some 0) (hwk : ∀ da db l, p_costume_checkWalk N (plotP da db l).Walk = some 0) (da db : Int) (hda : 0 ≤ da ∧ da ≤ 1000) (hdb : 0 ≤ db ∧ db ≤ 1000) (l : List T_Part) (hl : l.length ≤ 8) (hg : ∀ x ∈ l, GoodP x) : ∃ c, p_costume_Check N (plotP da db l) = some c ∧ (c = 0 → ∀ (i k : Nat) a b, k < i → l[k]? = some a → l[i]? = some b → Both da db a b) := by
 unfold p_costume_Check
 rw [hpp, Option.bind_some, hwk, Option.bind_some, show (plotP da db l).Dress = [da, db] from rfl, cdress_p N hN da db hda hdb, Option.bind_some]
 simp only [bne_self_eq_false, cond_false]
 suffices h : ∃ c, p_costume_checkParts N (plotP da db l) = some c ∧ (c = 0 → ∀ (i k : Nat) a b, k < i → l[k]? = some a → l[i]? = some b → Both da db a b) by
  obtain ⟨c, e, h⟩ := h
  rw [e, Option.bind_some]
  exact ⟨c, rfl, h⟩
 unfold p_costume_checkParts
 have el : (plotP da db l).Parts = l := rfl
 rw [el, show decide (((l.length : Nat) : Int) > 30) = false from decide_eq_false (by omega), cond_false]
 simp only [letJ_eq]
 refine loop1_T (fun x => ∃ c, x = some c ∧ (c = 0 → ∀ (i k : Nat) a b, k < i → l[k]? = some a → l[i]? = some b → Both da db a b)) (fun y => ∃ j : Nat, y = (j : Int) ∧ j ≤ l.length ∧ ∀ (i k : Nat) a b, k < i → i < j → l[k]? = some a → l[i]? = some b → Both da db a b) (fun y => 100 - y.toNat) ?_ N 0 ⟨0, rfl, Nat.zero_le _, fun i k a b _ hi => absurd hi (Nat.not_lt_zero _)⟩ (by omega)
 rintro rec y ⟨j, rfl, hj, hall⟩ ih
 by_cases hjl : j < l.length
 ·have hx : l[j]? = some l[j] := List.getElem?_eq_getElem hjl
  have hgx := hg _ (List.getElem_mem hjl)
  obtain ⟨c, ec⟩ := part_p N da db l l[j]
  have hpart : partI l 0 (j : Int) = some (l.take j) := by
   unfold partI
   rw [if_pos (by omega)]
   simp
  rw [ltD hjl, cond_true, getD_at hx, Option.bind_some, ec, Option.bind_some]
  by_cases hc : c = 0
  ·subst hc
   simp only [bne_self_eq_false, cond_false, hpart, Option.bind_some]
   have htl : (l.take j).length = j := by simp; omega
   refine loop1_T (fun x => ∃ c, x = some c ∧ (c = 0 → ∀ (i k : Nat) a b, k < i → l[k]? = some a → l[i]? = some b → Both da db a b)) (fun y => ∃ m : Nat, y = (m : Int) ∧ m ≤ j ∧ ∀ (k : Nat) a, k < m → l[k]? = some a → Both da db a l[j]) (fun y => 100 - y.toNat) ?_ N 0 ⟨0, rfl, Nat.zero_le _, fun k a hk => absurd hk (Nat.not_lt_zero _)⟩ (by omega)
   rintro rec2 y ⟨m, rfl, hm, hm2⟩ ih2
   by_cases hmj : m < j
   ·have hy : l[m]? = some l[m] := List.getElem?_eq_getElem (by omega)
    have hy2 : (l.take j)[m]? = some l[m] := by rw [List.getElem?_take, if_pos hmj, hy]
    obtain ⟨b, eb, hb⟩ := both_p N da db hda hdb l l[m] l[j] (hg _ (List.getElem_mem _)) hgx
    rw [htl, ltD hmj, cond_true, getD_at hy2, Option.bind_some, eb, Option.bind_some]
    by_cases hb0 : b = 0
    ·subst hb0
     rw [show (((0 : Int) != 0) : Bool) = false from rfl, cond_false, nadd1 m (by omega)]
     refine ih2 _ ⟨m + 1, rfl, by omega, fun k a hk hka => ?_⟩ (by omega)
     by_cases hkm : k < m
     ·exact hm2 k a hkm hka
     ·obtain rfl : k = m := by omega
      rw [hy] at hka
      cases hka
      exact hb rfl
    ·rw [show ((b != 0) : Bool) = true from by simp [hb0], cond_true]
     exact ⟨b, rfl, fun q => absurd q hb0⟩
   ·obtain rfl : m = j := by omega
    rw [htl, ltE, cond_false, nadd1 m (by omega)]
    refine ih _ ⟨m + 1, rfl, by omega, fun i k a b hk hi ha hb => ?_⟩ (by omega)
    by_cases him : i < m
    ·exact hall i k a b hk him ha hb
    ·obtain rfl : i = m := by omega
     rw [hx] at hb
     cases hb
     exact hm2 k a hk ha
  ·rw [show ((c != 0) : Bool) = true from by simp [hc], cond_true]
   exact ⟨c, rfl, fun q => absurd q hc⟩
 ·rw [show decide ((j : Int) < ((l.length : Nat) : Int)) = false from decide_eq_false (by omega), cond_false]
  exact ⟨0, rfl, fun _ i k a b hk ha hb => hall i k a b hk (by have := (List.getElem?_eq_some_iff.1 hb).1; omega) ha hb⟩

theorem dressed_law (N : Nat) (hN2 : 9223372036854775808 + 1000 < N) (hpp : ∀ da db l, p_costume_checkPersons N (plotP da db l).Persons = some 0) (hwl0 : ∀ da db l, p_costume_checkWalk N (plotP da db l).Walk = some 0) (haw : p_bateriatop_dressAwake N = some true) (zs : List Int) (hz : zs.length < 9223372036854775808) : p_bateriatop_TopDressed N zs = some true := by
 have hN : 1000 < N := by omega
 unfold p_bateriatop_TopDressed
 obtain ⟨d, e⟩ := drumOf_p N zs (by omega) hz
 rw [e, Option.bind_some]; clear e
 obtain ⟨s0, d1, e, r0, r1, n1, n4, hw⟩ := schoolOf_p N hN d 4 (by omega) (by omega)
 rw [show p_bk_SchoolOf N d 4 = some (s0, d1) from e, Option.bind_some]; clear e
 dsimp only
 obtain ⟨R, hR⟩ : ∃ R, (if 400 < s0.Route then 400 else s0.Route) = R := ⟨_, rfl⟩
 have hR0 : 1 ≤ R ∧ R ≤ 400 := by rw [← hR]; split <;> omega
 rw [hR]
 obtain ⟨s, hs⟩ : ∃ s, (⟨R, s0.Wings⟩ : T_School) = s := ⟨_, rfl⟩
 have hsW : s.Wings = s0.Wings := by rw [← hs]
 have hsR : s.Route = R := by rw [← hs]
 rw [hs]
 rw [← hsW] at n1 n4 hw ⊢
 have h8 : s.Wings.length ≤ 8 := by omega
 obtain ⟨out, d2, e, ol, og⟩ := startsOf_p N hN d1 s hw h8
 rw [e, Option.bind_some]; clear e
 dsimp only
 obtain ⟨pc, d3, e, pl, pb⟩ := pacesOf_p N hN d2 s hw h8
 rw [e, Option.bind_some]; clear e
 dsimp only
 obtain ⟨ap, d4, e, hap⟩ := any_p N d3 [0, 300, 900] (by simp) (by simp)
 rw [e, Option.bind_some]; clear e
 have hap : ap = 0 ∨ ap = 300 ∨ ap = 900 := by simpa using hap
 dsimp only
 refine letJ_gen (fun x => x = some true) _ _ (fun K hK => ?_)
 have hobd : ∀ k, k < out.length → 0 ≤ atI out k ∧ atI out k ≤ 8000 := fun k hk => by have := og.bd k hk; omega
 have hoat : ∀ k, k < out.length → out[k]? = some (atI out k) := fun k hk => by
  unfold atI
  rw [List.getElem?_eq_getElem hk]
  rfl
 -- the starts, apart
 suffices hKK : ∀ w : List Int, w.length = out.length → (∀ k, k < out.length → atI w k = atI out k + (k : Int) * ap) → K w = some true by
  refine loop2_T (fun x => x = some true) (fun i (w : List Int) => ∃ j : Nat, i = (j : Int) ∧ j ≤ out.length ∧ w.length = out.length ∧ ∀ k, k < out.length → w[k]? = some (if k < j then atI out k + (k : Int) * ap else atI out k)) (fun i _ => 100 - i.toNat) ?_ N 0 _ ⟨0, rfl, Nat.zero_le _, rfl, fun k hk => by rw [if_neg (Nat.not_lt_zero _)]; exact hoat k hk⟩ (by omega)
  rintro rec i w ⟨j, rfl, hj, hwl, hwk⟩ ih
  by_cases hjl : j < out.length
  ·have hx := hwk j hjl
   rw [if_neg (Nat.lt_irrefl j)] at hx
   have hb := hobd j hjl
   have hm : 0 ≤ (j : Int) * ap ∧ (j : Int) * ap ≤ 7200 := by
    rcases hap with rfl | rfl | rfl <;> omega
   rw [ltD hjl, cond_true, show idxI (j : Int) out.length = some () from by unfold idxI; rw [if_pos (by omega)], Option.bind_some, Int.toNat_natCast, hx, Option.bind_some, Option.bind_some, w64 (x := (j : Int) * ap) (by omega) (by omega), w64 (by omega) (by omega), setI_p w j _ (by omega), Option.bind_some, nadd1 j (by omega)]
   refine ih _ _ ⟨j + 1, rfl, by omega, by simp [hwl], fun k hk => ?_⟩ (by omega)
   rw [List.getElem?_set]
   by_cases hkj : j = k
   ·subst hkj
    rw [if_pos rfl, if_pos (by omega), if_pos (by omega)]
   ·rw [if_neg hkj, hwk k hk]
    by_cases hlt : k < j
    ·rw [if_pos hlt, if_pos (by omega)]
    ·rw [if_neg hlt, if_neg (by omega)]
  ·rw [show decide ((j : Int) < ((out.length : Nat) : Int)) = false from decide_eq_false (by omega), cond_false]
   refine hKK w hwl fun k hk => ?_
   unfold atI
   rw [hwk k hk, if_pos (by omega)]
   rfl
 intro w hwl hwk
 have hwat : ∀ k, k < w.length → getI w (k : Int) = some (atI w k) := fun k hk => by
  rw [getI_nat]
  unfold atI
  rw [List.getElem?_eq_getElem hk]
  rfl
 have hkap : ∀ k : Nat, k ≤ 8 → 0 ≤ (k : Int) * ap ∧ (k : Int) * ap ≤ 7200 := fun k hk => by
  rcases hap with rfl | rfl | rfl <;> omega
 have hwb : ∀ k, k < w.length → 0 ≤ atI w k ∧ atI w k ≤ 20000 := fun k hk => by
  rw [hwk k (by omega)]
  have := hobd k (by omega)
  have := hkap k (by omega)
  omega
 have hge : ∀ k, k < w.length → leastAt s.Wings w k ≤ atI w k := fun k hk => by
  have h1 := og.ge k (by omega)
  rw [hwk k (by omega)]
  cases k with
  | zero =>
   have h2 := (hobd 0 (by omega)).1
   show (0 : Int) ≤ atI out 0 + ((0 : Nat) : Int) * ap
   rw [show ((0 : Nat) : Int) * ap = 0 by simp]
   omega
  | succ k =>
   have h2 : leastAt s.Wings w (k + 1) ≤ leastAt s.Wings out (k + 1) + (k : Int) * ap := by
    refine up_le (fun j => (lenW_bd hw j).1) (k + 1) _ _ _ (lenW_bd hw k).1 (fun j hj n hn => ?_) (by rw [hwk k (by omega)]; exact Int.le_refl _)
    rw [hwk j (by omega)]
    have : (j : Int) * ap ≤ (k : Int) * ap := Int.mul_le_mul_of_nonneg_right (by omega) (by omega)
    omega
   have h3 : ((k + 1 : Nat) : Int) * ap = (k : Int) * ap + ap := by
    rw [show ((k + 1 : Nat) : Int) = (k : Int) + 1 by omega, Int.add_mul, Int.one_mul]
   omega
 rw [hK]
 dsimp only
 obtain ⟨da, d5, e, a0, a1⟩ := roll_le N d4 3 (by omega) (by omega)
 rw [e, Option.bind_some]; clear e
 dsimp only
 obtain ⟨db, d6, e, b0, b1⟩ := roll_le N d5 3 (by omega) (by omega)
 rw [e, Option.bind_some]; clear e
 dsimp only
 refine letJ_gen (fun x => x = some true) _ _ (fun K2 hK2 => ?_)
 rw [show lenI w out.length = some () from by unfold lenI; rw [if_pos hwl], Option.bind_some]
 have hlen : ∀ k, k < s.Wings.length → ∃ W, s.Wings[k]? = some W ∧ W.Length = lenW s.Wings k := fun k hk => by
  refine ⟨_, List.getElem?_eq_getElem hk, ?_⟩
  unfold lenW
  rw [List.getElem?_eq_getElem hk]
  rfl
 -- when a wing has surely passed
 obtain ⟨hi, hhi⟩ : ∃ hi : Nat → Int, hi = fun k => up s.Wings (atI w) (loW s.Wings) (k + 1) (R + lenW s.Wings k) (atI w k) := ⟨_, rfl⟩
 have hhb : ∀ k, k < w.length → atI w k ≤ hi k ∧ hi k ≤ 30000 := fun k hk => by
  have hlb := lenW_bd hw k
  rw [hhi]
  refine ⟨up_ge _ _ _, ?_⟩
  show up s.Wings (atI w) (loW s.Wings) (k + 1) (R + lenW s.Wings k) (atI w k) ≤ 30000
  have := up_bd (ws := s.Wings) (st := atI w) (pc := loW s.Wings) (m := 20000) (B := 10000) (fun j => lenW_bd hw j) (k + 1) (R + lenW s.Wings k) (atI w k) (by omega) (by omega) (fun j hj => ⟨(hwb j (by omega)).2, (loW_bd hw j).1⟩) (by have := (hwb k hk).2; omega)
  omega
 have hdiv : ∀ k, k < w.length → Int.tdiv (atI w k) 60 = atI w k / 60 ∧ Int.tdiv (hi k) 60 = hi k / 60 := fun k hk => by
  have := hwb k hk
  have := hhb k hk
  exact ⟨Int.tdiv_eq_ediv_of_nonneg (by omega), Int.tdiv_eq_ediv_of_nonneg (by omega)⟩
 refine loop3_T (fun x => x = some true) (fun i b (l : List T_Part) => i = ((l.length : Nat) : Int) ∧ l.length ≤ w.length ∧ ∀ (k : Nat) x, l[k]? = some x → x.Place = 0 ∧ 0 ≤ x.Kind ∧ x.Kind < 2 ∧ x.From = atI w k / 60 ∧ x.To = hi k / 60 + 1) (fun i b l => 100 - i.toNat) ?_ N 0 _ [] ⟨rfl, Nat.zero_le _, fun k x hx => by simp at hx⟩ (by omega)
 rintro rec i b l ⟨rfl, hll, hlx⟩ ih
 by_cases hlt : l.length < s.Wings.length
 ·obtain ⟨W, hW, hWl⟩ := hlen l.length hlt
  have hlb := lenW_bd hw l.length
  have hwi := hwb l.length (by omega)
  have hhi2 := hhb l.length (by omega)
  obtain ⟨dv1, dv2⟩ := hdiv l.length (by omega)
  rw [ltD hlt, cond_true, getD_at hW, Option.bind_some, hWl, w64 (x := R + lenW s.Wings l.length) (by omega) (by omega)]
  rw [passes_p N hN s hw h8 n1 (by omega) (by omega) w (by omega) hwb hge l.length (by omega) (R + lenW s.Wings l.length) (by omega) (by omega), Option.bind_some]
  dsimp only
  rw [show (((0 : Int) != 0) : Bool) = false from rfl, cond_false]
  obtain ⟨pe, d7, e, p0, p1⟩ := roll_le N ⟨b⟩ 2 (by omega) (by omega)
  rw [e, Option.bind_some]; clear e
  dsimp only
  obtain ⟨ki, d8, e, k0, k1⟩ := roll_le N d7 2 (by omega) (by omega)
  rw [e, Option.bind_some]; clear e
  dsimp only
  have hhe : up s.Wings (atI w) (loW s.Wings) (l.length + 1) (R + lenW s.Wings l.length) (atI w l.length) = hi l.length := by rw [hhi]
  rw [hhe, hwat l.length (by omega), Option.bind_some, dv1, dv2, w64 (x := hi l.length / 60) (by omega) (by omega), w64 (x := hi l.length / 60 + 1) (by omega) (by omega), w64 (x := atI w l.length / 60) (by omega) (by omega)]
  by_cases hbig : hi l.length / 60 + 1 > 1440
  ·rw [decide_eq_true hbig, cond_true, haw]
   rfl
  ·rw [decide_eq_false hbig, cond_false, pushI_ok (by simp; omega), Option.bind_some, nadd1 _ (by omega)]
   refine ih _ _ _ ⟨by simp, by simp; omega, fun k x hx => ?_⟩ (by omega)
   by_cases hk : k < l.length
   ·rw [List.getElem?_append_left hk] at hx
    exact hlx k x hx
   ·have hk2 := (List.getElem?_eq_some_iff.1 hx).1
    have : k = l.length := by simp at hk2; omega
    subst this
    rw [List.getElem?_concat_length] at hx
    cases hx
    exact ⟨rfl, k0, k1, rfl, rfl⟩
 ·rw [show decide (((l.length : Nat) : Int) < ((s.Wings.length : Nat) : Int)) = false from decide_eq_false (by omega), cond_false, hK2]
  dsimp only
  have hgp : ∀ x ∈ l, GoodP x := fun x hx => by
   obtain ⟨k, hk⟩ := List.mem_iff_getElem?.1 hx
   obtain ⟨g1, g2, g3, g4, g5⟩ := hlx k x hk
   have hkl := (List.getElem?_eq_some_iff.1 hk).1
   have := hwb k (by omega)
   have := hhb k (by omega)
   exact ⟨g1, g2, g3, by omega, by omega, by omega, by omega⟩
  obtain ⟨c, ec, hc⟩ := check_c N hN hpp hwl0 da db (by omega) (by omega) l (by omega) hgp
  rw [show p_costume_Check N (⟨[⟨40, 40⟩, ⟨41, 42⟩], [[0]], [da, db], l⟩ : T_Plot) = some c from ec, Option.bind_some]
  by_cases hc0 : c = 0
  ·have hboth := hc hc0
   subst hc0
   rw [show (((0 : Int) != 0) : Bool) = false from rfl, cond_false, letJ_eq]
   refine loop1_T (fun x => x = some true) (fun i => ∃ j : Nat, i = (j : Int) ∧ j ≤ l.length) (fun i => 100 - i.toNat) ?_ N 0 ⟨0, rfl, Nat.zero_le _⟩ (by omega)
   rintro rec2 i ⟨j, rfl, hj⟩ ih2
   by_cases hjl : j < l.length
   ·have hgo2 := ih2 ((j + 1 : Nat) : Int) ⟨j + 1, rfl, by omega⟩ (by omega)
    obtain ⟨W, hW, hWl⟩ := hlen j (by omega)
    have hlb := lenW_bd hw j
    have hxj : l[j]? = some l[j] := List.getElem?_eq_getElem hjl
    obtain ⟨g1, g2, g3, g4, g5⟩ := hlx j _ hxj
    rw [ltD hjl, cond_true, getD_at hW, Option.bind_some, hWl, w64 (x := R + lenW s.Wings j) (by omega) (by omega)]
    rw [passed_p N hN s hw w pc j (by omega) h8 (by omega) (by omega) (fun k hk => hwb k (by omega)) (fun k hk => by have := pb k (by omega); have := loW_bd hw k; omega) (R + lenW s.Wings j) (by omega) (by omega), Option.bind_some]
    generalize hen : up s.Wings (atI w) (atI pc) (j + 1) (R + lenW s.Wings j) (atI w j) = en
    have hen1 : en ≤ hi j := by
     have hij : hi j = up s.Wings (atI w) (loW s.Wings) (j + 1) (R + lenW s.Wings j) (atI w j) := by rw [hhi]
     rw [hij, ← hen]
     have := up_le (ws := s.Wings) (st := atI w) (st' := atI w) (pc := atI pc) (pc' := loW s.Wings) (c := 0) (fun k => (lenW_bd hw k).1) (j + 1) (R + lenW s.Wings j) (atI w j) (atI w j) (by omega) (fun k hk n hn => by
      have h1 := pb k (by omega)
      have h2 := loW_bd hw k
      have := cdiv_mono hn h2.1 h1.1
      omega) (by omega)
     omega
    have hen0 : atI w j ≤ en := by rw [← hen]; exact up_ge _ _ _
    have hwj := hwb j (by omega)
    have hhj := hhb j (by omega)
    rw [letJ_eq]
    refine loop1_T (fun x => x = some true) (fun i => ∃ k : Nat, i = (k : Int) ∧ k ≤ l.length) (fun i => 100 - i.toNat) ?_ N 0 ⟨0, rfl, Nat.zero_le _⟩ (by omega)
    rintro rec3 i ⟨k, rfl, hk⟩ ih3
    by_cases hkl : k < l.length
    ·have hgo3 := ih3 ((k + 1 : Nat) : Int) ⟨k + 1, rfl, by omega⟩ (by omega)
     have hxk : l[k]? = some l[k] := List.getElem?_eq_getElem hkl
     obtain ⟨q1, q2, q3, q4, q5⟩ := hlx k _ hxk
     have hwkb := hwb k (by omega)
     have hhk := hhb k (by omega)
     have hdk : 0 ≤ dressK da db l[k].Kind ∧ dressK da db l[k].Kind ≤ 2 := by unfold dressK; split <;> omega
     rw [ltD hkl, cond_true]
     simp only [letJ_eq, getD_at hxj, getD_at hxk, Option.bind_some, nadd1 k (by omega), hwat k (by omega), hwat j (by omega)]
     by_cases hjk : j = k
     ·subst hjk
      rw [show ((((j : Nat) : Int) == ((j : Nat) : Int)) : Bool) = true from by simp, cond_true, cond_true]
      exact hgo3
     ·rw [show ((((j : Nat) : Int) == ((k : Nat) : Int)) : Bool) = false from by simp; omega, cond_false]
      by_cases hpp : l[j].Person = l[k].Person
      ·rw [show ((l[j].Person != l[k].Person) : Bool) = false from by simp [hpp], cond_false]
       by_cases hsk : atI w k < atI w j
       ·rw [decide_eq_true hsk, cond_true]
        exact hgo3
       ·rw [decide_eq_false hsk, cond_false]
        have hthen : Then da db l[j] l[k] := by
         by_cases hlt2 : j < k
         ·exact ((hboth k j _ _ hlt2 hxj hxk) hpp).2 (by omega)
         ·have hb2 := (hboth j k _ _ (by omega) hxk hxj) hpp.symm
          by_cases hfr : l[j].From < l[k].From
          ·exact hb2.1 hfr
          ·have := (hb2.2 hfr).1
           omega
        obtain ⟨t1, t2⟩ := hthen
        by_cases hkk : l[j].Kind = l[k].Kind
        ·rw [show ((l[j].Kind != l[k].Kind) : Bool) = false from by simp [hkk], cond_false, w64 (x := atI w k - en) (by omega) (by omega), decide_eq_false (by omega), cond_false]
         exact hgo3
        ·have t2 := t2 hkk
         rw [show ((l[j].Kind != l[k].Kind) : Bool) = true from by simp [hkk], cond_true, dress_p q2 q3, Option.bind_some, w64 (x := 60 * dressK da db l[k].Kind) (by omega) (by omega), w64 (x := atI w k - en) (by omega) (by omega), decide_eq_false (by omega), cond_false]
         exact hgo3
      ·rw [show ((l[j].Person != l[k].Person) : Bool) = true from by simp [hpp], cond_true, cond_true]
       exact hgo3
    ·rw [show decide ((k : Int) < ((l.length : Nat) : Int)) = false from decide_eq_false (by omega), cond_false, nadd1 j (by omega)]
     exact hgo2
   ·rw [show decide ((j : Int) < ((l.length : Nat) : Int)) = false from decide_eq_false (by omega), cond_false, haw]
    rfl
  ·rw [show ((c != 0) : Bool) = true from by simp [hc0], cond_true, haw]
   rfl
theorem persons_p (da db : Int) (l : List T_Part) : p_costume_checkPersons 18446744073709551616 (plotP da db l).Persons = some 0 := by kernel_rfl
theorem walk_p (da db : Int) (l : List T_Part) : p_costume_checkWalk 18446744073709551616 (plotP da db l).Walk = some 0 := by kernel_rfl
theorem awake_top : p_bateriatop_dressAwake 18446744073709551616 = some true := by kernel_rfl
theorem dressed_m (zs : List Int) (h : zs.length < 9223372036854775808) : Does Try.prog 5 [.sl (zs.map (AV.int .i64)) none] [] fun v _ => v = .bool true :=
 (d_bateriatop_TopDressed 18446744073709551616 zs true (dressed_law _ (by omega) persons_p walk_p awake_top zs h)).mono fun v c h => h.1
end Go.Proofs.Ytacoakfppjiomaa
end
section
namespace Go.Proofs.Ytacoakfppjiomaa
open Go.RowKit Go.ChangeShapes Go.WideShapes Go.ChangeAt

def nums (zs : List Int) : AV := .sl (zs.map fun z => .int .i64 z) none
theorem prog_own : ownKnob Try.prog.godebug = none := by kernel_rfl
theorem prog_laid : laidOutB Try.prog = true := by kernel_rfl

namespace topDressed
set_option maxRecDepth 100000 in
theorem lifted (hM : ∀ zs : List Int, (∀ z ∈ zs, (Lit.int .i64 z).wf = true) → zs.length ≤ maxLen → Does Try.prog 5 [nums zs] [] fun v _ => v = .bool true) (os : Os) (started : os.Started) (H : Type) (enc : TypeId × Value → H) :
  ReturnsInHanded {} Try.checked os 5 .any (Rows.topDressedSpec.pre6 enc Try.prog Try.f5 Rows.topDressedRow.domain false) (Rows.topDressedSpec.post enc Try.prog Try.f5 false true false false) := by
 refine returnsInHanded_of_change (C := Try.checked) prog_own started (by kernel_rfl) Try.func5
  (ChangeSpec.witness6 (enc := enc) (C := Try.checked) false ⟨#[], #[.slice none 0 0], []⟩ 8 (by kernel_rfl) (by kernel_rfl) (by kernel_rfl) (by kernel_rfl)) ?_
 intro W base args ds gs before hval0 hW hcnd _
 have hval : ∀ (j : Nat) t v, Try.f5.params[j]? = some t → args[j]? = some v → Value.okWide Try.prog W .any base t v := hval0
 have hW' := hW
 obtain ⟨p, q, hA0, hV, rfl, hfz, hnd⟩ := hW
 have hA : DataW.TrodAll enc Try.prog W 0 (fun _ => true) true Try.f5.params.toList args.toList ds p := hA0
 rw [Try.params5] at hA hval
 obtain ⟨v0, vs0, d0, ds0, p0, q0, hargs, rfl, rfl, h0, r0⟩ := trodAll_cons hA
 obtain ⟨rfl, rfl, rfl⟩ := trodAll_nil r0
 obtain rfl : args = #[v0] := by cases args; simp_all
 obtain ⟨rfl, rfl⟩ := trodVars_none hV
 obtain ⟨a0, len0, cap0, rfl⟩ := okWide_slice Try.underlying22 (hval 0 22 v0 rfl rfl)
 have k0 := h0
 have lt0 : ∀ x ∈ p0, x.block < W.heap.size := by obtain ⟨m, hm⟩ := k0; exact DataW.trod_lt m _ _ _ hm
 obtain ⟨zs, hwf, hlen, hvr⟩ := ints_vr Try.underlying22 Try.underlying3 (by kernel_rfl) h0
 clear hA0 hval0
 refine ((hM zs hwf hlen).law (us := #[.slice a0 len0 cap0]) ⟨rfl, fun i x u hx hu => ?_⟩).mono fun e W' ⟨he, bel⟩ => ?_
 ·cases i with
  | zero => simp at hx hu; subst hx; subst hu; exact hvr
  | succ i => simp at hx
 subst he
 exact ⟨_, rfl, _, _, _, [], _, [], hW', trodAll_mk1 (shut_bool Try.underlying4 _), (trodAll_cons_mk (Below.trod prog_laid (by kernel_rfl) (of_decide_eq_true (by kernel_rfl)) k0 bel lt0) trodAll_mk0), rfl, bel.frame _, fun h => by cases h⟩

theorem frame (hM : ∀ zs : List Int, (∀ z ∈ zs, (Lit.int .i64 z).wf = true) → zs.length ≤ maxLen → Does Try.prog 5 [nums zs] [] fun v _ => v = .bool true) : Rows.TopDressedSaid :=
 OpenClaim.holds_of_wide 5 Try.f5 rfl rfl rfl rfl rfl rfl rfl ⟨rfl, rfl, rfl, rfl, rfl⟩ rfl rfl rfl rfl rfl (by kernel_rfl) Try.func5 (by kernel_rfl)
  (of_decide_eq_true (by kernel_rfl)) (by unfold Func.isWrapper; first | (rw [if_pos (by decide +kernel)]; kernel_rfl) | (rw [if_neg (by decide +kernel)]; exact ⟨rfl, rfl⟩))
  (fun os started H enc _ => lifted hM os started H enc)
end topDressed
end Go.Proofs.Ytacoakfppjiomaa
end
