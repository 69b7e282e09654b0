/- Part 4 of what the law needs: own work, put together. -/
import Derived.Test.YtfcjcjncfniclaaFloatFir2
section
namespace Go.Proofs.Ytfcjcjncfniclaa
open Go.RowKit
set_option linter.unusedVariables false
set_option linter.unusedSimpArgs false
set_option maxRecDepth 10000
set_option maxHeartbeats 4000000
structure T_api_Load where
  At : Int
  Kilos : T_api_Span
  Top : T_api_Span
  Kind : Int
  Watts : Int
  deriving Inhabited
def C_api_Load (x : T_api_Load) : List AV := [.int .i64 x.At, .int .i64 x.Kilos.Lo, .int .i64 x.Kilos.Hi, .int .i64 x.Top.Lo, .int .i64 x.Top.Hi, .int .i64 x.Kind, .int .i64 x.Watts]
def A_api_Load (x : T_api_Load) : AV := .agg (C_api_Load x)
theorem KC_api_Load (x : T_api_Load) : cleanL (C_api_Load x) = true := by simp [C_api_Load, cleanL, AV.clean, KL_bateriakit_Drum, KL_api_Span, cleanI, cleanBo, cleanSt, cleanII]
theorem KA_api_Load (x : T_api_Load) : (A_api_Load x).clean = true := KC_api_Load x
theorem KL_api_Load (l : List T_api_Load) : cleanL (l.map A_api_Load) = true := cleanM KA_api_Load l
theorem KB_api_Load (x : T_api_Load) (n : Nat) (σ : List Nat) : (C_api_Load x).mapM (re n σ) = some (C_api_Load x) := by simp [C_api_Load, re, re1, AV.clean, KL_bateriakit_Drum, KL_api_Span, cleanI, cleanBo, cleanSt, cleanII]
structure T_api_Float where
  Length : Int
  Width : Int
  Front : Int
  Rear : Int
  Turn : Int
  Kilos : Int
  Middle : Int
  High : Int
  Loads : (List T_api_Load)
  deriving Inhabited
def C_api_Float (x : T_api_Float) : List AV := [.int .i64 x.Length, .int .i64 x.Width, .int .i64 x.Front, .int .i64 x.Rear, .int .i64 x.Turn, .int .i64 x.Kilos, .int .i64 x.Middle, .int .i64 x.High, .sl (x.Loads.map A_api_Load) none]
def A_api_Float (x : T_api_Float) : AV := .agg (C_api_Float x)
theorem KC_api_Float (x : T_api_Float) : cleanL (C_api_Float x) = true := by simp [C_api_Float, cleanL, AV.clean, KL_bateriakit_Drum, KL_api_Span, KL_api_Load, cleanI, cleanBo, cleanSt, cleanII]
theorem KA_api_Float (x : T_api_Float) : (A_api_Float x).clean = true := KC_api_Float x
theorem KL_api_Float (l : List T_api_Float) : cleanL (l.map A_api_Float) = true := cleanM KA_api_Float l
theorem KB_api_Float (x : T_api_Float) (n : Nat) (σ : List Nat) : (C_api_Float x).mapM (re n σ) = some (C_api_Float x) := by simp [C_api_Float, re, re1, AV.clean, KL_bateriakit_Drum, KL_api_Span, KL_api_Load, cleanI, cleanBo, cleanSt, cleanII]
def p_bateriakit_FloatOf (N : Nat) (d_1 : T_bateriakit_Drum) (loads_2 : Int) : Option (T_api_Float × T_bateriakit_Drum) := ((p_bateriakit_Drum_Any N d_1 [20, 1200]).bind fun r_3 => ((p_bateriakit_Drum_Mid N r_3.2 2 r_3.1).bind fun r_4 => ((p_bateriakit_Drum_Mid N r_4.2 1 400).bind fun r_5 => ((p_bateriakit_Drum_Roll N r_5.2 1500).bind fun r_6 => ((p_bateriakit_Drum_Any N r_6.2 [0, r_6.1]).bind fun r_7 => ((p_bateriakit_Drum_Roll N r_7.2 5000).bind fun r_8 => ((p_bateriakit_Drum_Any N r_8.2 [0, r_8.1]).bind fun r_9 => ((p_bateriakit_Drum_Roll N r_9.2 500).bind fun r_10 => ((p_bateriakit_Drum_Roll N r_10.2 r_4.1).bind fun r_11 => ((p_bateriakit_Drum_Mid N r_11.2 (IntKind.i64.wrap (r_11.1 + 1)) r_4.1).bind fun r_12 => ((p_bateriakit_Drum_Mid N r_12.2 0 r_4.1).bind fun r_13 => ((p_bateriakit_Drum_Roll N r_13.2 (IntKind.i64.wrap (loads_2 + 1))).bind fun r_14 => (letJ (fun (b_15 : Int) (b_16 : List T_api_Load) => some ((⟨r_4.1, r_5.1, r_11.1, r_12.1, r_7.1, r_9.1, r_13.1, r_10.1, b_16⟩ : T_api_Float), (⟨b_15⟩ : T_bateriakit_Drum))) (fun k_17 => (loop3 (fun rec_23 (i_20 : Int) (b_21 : Int) (b_22 : List T_api_Load) => (bif (decide (i_20 > 0)) then ((p_bateriakit_Drum_Mid N (⟨b_21⟩ : T_bateriakit_Drum) r_11.1 r_12.1).bind fun r_27 => ((p_bateriakit_Drum_Any N r_27.2 [5, 900]).bind fun r_28 => ((p_bateriakit_Drum_Span N r_28.2 0 r_28.1).bind fun r_29 => ((p_bateriakit_Drum_Any N r_29.2 [20, 700]).bind fun r_30 => ((p_bateriakit_Drum_Span N r_30.2 0 r_30.1).bind fun r_31 => ((p_bateriakit_Drum_Mid N r_31.2 1 4).bind fun r_32 => (letJ (fun (b_33 : Int) (b_34 : Int) => ((pushI b_22 ([(⟨r_27.1, r_29.1, r_31.1, r_32.1, b_34⟩ : T_api_Load)] : List T_api_Load)).bind fun l_45 => (rec_23 (IntKind.i64.wrap (i_20 - 1)) b_33 l_45))) (fun k_35 => (letJ (fun (y_38 : Bool) => (bif y_38 then ((p_bateriakit_Drum_Roll N r_32.2 3000).bind fun r_44 => (k_35 r_44.2.beat_ r_44.1)) else (k_35 r_32.2.beat_ 0))) (fun k_39 => (bif (r_32.1 == 2) then (k_39 true) else (k_39 (r_32.1 == 3))))))))))))) else (k_17 b_21 b_22))) N r_14.1 r_14.2.beat_ [])))))))))))))))
def v_bateriakit_FloatOf (r : T_api_Float × T_bateriakit_Drum) : AV := (A_api_Float r.1)
theorem b_bateriakit_FloatOf (r : T_api_Float × T_bateriakit_Drum) (n n2 m : Nat) : back n n2 m (v_bateriakit_FloatOf r) = some (v_bateriakit_FloatOf r) := by simp [v_bateriakit_FloatOf, back, back1, AV.plain, AV.plain1, AV.clean, cleanL, cleanI, cleanBo, cleanSt, cleanII, KL_bateriakit_Drum, KL_api_Span, KL_api_Load, KL_api_Float, A_bateriakit_Drum, C_bateriakit_Drum, A_api_Span, C_api_Span, A_api_Load, C_api_Load, A_api_Float, C_api_Float]
theorem d_bateriakit_FloatOf (N : Nat) (d_1 : T_bateriakit_Drum) (loads_2 : Int) (r : T_api_Float × T_bateriakit_Drum) (h : p_bateriakit_FloatOf N d_1 loads_2 = some r) : Does Try.prog 10 [.ptr 0 0, .int .i64 loads_2] [(C_bateriakit_Drum d_1)] fun v c => v = v_bateriakit_FloatOf r ∧ c = [(C_bateriakit_Drum r.2)] := by
  unfold p_bateriakit_FloatOf at h
  refine Does.ofL comp10 _ _ rfl rfl ?_
  refine Ex.seq ?_
  refine regH 1 [] [0, 1, 4] [] (mkS 91 [(0, .ptr 0 0), (1, .int .i64 loads_2), (4, .ptr 1 0)]) (⟨[(C_bateriakit_Drum d_1), [.int .i64 0, .int .i64 0, .int .i64 0, .int .i64 0, .int .i64 0, .int .i64 0, .int .i64 0, .int .i64 0, .nils]], []⟩) (by kernel_rfl) trivial rfl ?_
  refine Ex.seq ?_
  obtain ⟨r_3, hr_3, h⟩ := Option.bind_eq_some_iff.1 h
  refine Ex.reg ?_
  refine runH 3 [] [0, 1, 4, 8, 9, 10] [] (mkS 91 [(0, .ptr 0 0), (1, .int .i64 loads_2), (4, .ptr 1 0), (8, .ptr 0 0), (9, .ptr 0 0), (10, .sl (([20, 1200] : List Int).map (AV.int .i64)) (some 0))]) (⟨[(C_bateriakit_Drum d_1), [.int .i64 0, .int .i64 0, .int .i64 0, .int .i64 0, .int .i64 0, .int .i64 0, .int .i64 0, .int .i64 0, .nils]], [(2, 1)]⟩) (by kernel_rfl) trivial ?_
  refine ExO.callL [0] [.ptr 0 0, .sl (([20, 1200] : List Int).map (AV.int .i64)) (some 0)] rfl rfl (by simp [ren, ren1, fadeS, fadeV, AV.plain, AV.plain1, AV.clean, List.idxOf?, List.findIdx?, List.findIdx?.go, cleanL, cleanI, cleanBo, cleanSt, cleanII, KL_bateriakit_Drum, KL_api_Span, KL_api_Load, KL_api_Float, A_bateriakit_Drum, C_bateriakit_Drum, A_api_Span, C_api_Span, A_api_Load, C_api_Load, A_api_Float, C_api_Float]; try rfl) rfl (by simp [cleanL, AV.clean, cleanL, cleanI, cleanBo, cleanSt, cleanII, KL_bateriakit_Drum, KL_api_Span, KL_api_Load, KL_api_Float, A_bateriakit_Drum, C_bateriakit_Drum, A_api_Span, C_api_Span, A_api_Load, C_api_Load, A_api_Float, C_api_Float]) (d_bateriakit_Drum_Any N d_1 [20, 1200] r_3 hr_3) (b_bateriakit_Drum_Any _ _ _ _) (by simp [cleanL, AV.clean, cleanL, cleanI, cleanBo, cleanSt, cleanII, KL_bateriakit_Drum, KL_api_Span, KL_api_Load, KL_api_Float, A_bateriakit_Drum, C_bateriakit_Drum, A_api_Span, C_api_Span, A_api_Load, C_api_Load, A_api_Float, C_api_Float]) ?_
  obtain ⟨r_4, hr_4, h⟩ := Option.bind_eq_some_iff.1 h
  refine ExO.callL [0] [.ptr 0 0, .int .i64 2, .int .i64 r_3.1] rfl rfl (by simp [ren, ren1, fadeS, fadeV, AV.plain, AV.plain1, AV.clean, List.idxOf?, List.findIdx?, List.findIdx?.go, cleanL, cleanI, cleanBo, cleanSt, cleanII, KL_bateriakit_Drum, KL_api_Span, KL_api_Load, KL_api_Float, A_bateriakit_Drum, C_bateriakit_Drum, A_api_Span, C_api_Span, A_api_Load, C_api_Load, A_api_Float, C_api_Float]; try rfl) rfl (by simp [cleanL, AV.clean, cleanL, cleanI, cleanBo, cleanSt, cleanII, KL_bateriakit_Drum, KL_api_Span, KL_api_Load, KL_api_Float, A_bateriakit_Drum, C_bateriakit_Drum, A_api_Span, C_api_Span, A_api_Load, C_api_Load, A_api_Float, C_api_Float]) (d_bateriakit_Drum_Mid N r_3.2 2 r_3.1 r_4 hr_4) (b_bateriakit_Drum_Mid _ _ _ _) (by simp [cleanL, AV.clean, cleanL, cleanI, cleanBo, cleanSt, cleanII, KL_bateriakit_Drum, KL_api_Span, KL_api_Load, KL_api_Float, A_bateriakit_Drum, C_bateriakit_Drum, A_api_Span, C_api_Span, A_api_Load, C_api_Load, A_api_Float, C_api_Float]) ?_
  obtain ⟨r_5, hr_5, h⟩ := Option.bind_eq_some_iff.1 h
  refine runH 1 [] [0, 1, 4, 12, 13] [] (mkS 91 [(0, .ptr 0 0), (1, .int .i64 loads_2), (4, .ptr 1 0), (12, .int .i64 r_4.1), (13, .ptr 0 0)]) (⟨[(C_bateriakit_Drum r_4.2), [.int .i64 0, .int .i64 0, .int .i64 0, .int .i64 0, .int .i64 0, .int .i64 0, .int .i64 0, .int .i64 0, .nils]], [(2, 1)]⟩) (by kernel_rfl) trivial ?_
  refine ExO.callL [0] [.ptr 0 0, .int .i64 1, .int .i64 400] rfl rfl (by simp [ren, ren1, fadeS, fadeV, AV.plain, AV.plain1, AV.clean, List.idxOf?, List.findIdx?, List.findIdx?.go, cleanL, cleanI, cleanBo, cleanSt, cleanII, KL_bateriakit_Drum, KL_api_Span, KL_api_Load, KL_api_Float, A_bateriakit_Drum, C_bateriakit_Drum, A_api_Span, C_api_Span, A_api_Load, C_api_Load, A_api_Float, C_api_Float]; try rfl) rfl (by simp [cleanL, AV.clean, cleanL, cleanI, cleanBo, cleanSt, cleanII, KL_bateriakit_Drum, KL_api_Span, KL_api_Load, KL_api_Float, A_bateriakit_Drum, C_bateriakit_Drum, A_api_Span, C_api_Span, A_api_Load, C_api_Load, A_api_Float, C_api_Float]) (d_bateriakit_Drum_Mid N r_4.2 1 400 r_5 hr_5) (b_bateriakit_Drum_Mid _ _ _ _) (by simp [cleanL, AV.clean, cleanL, cleanI, cleanBo, cleanSt, cleanII, KL_bateriakit_Drum, KL_api_Span, KL_api_Load, KL_api_Float, A_bateriakit_Drum, C_bateriakit_Drum, A_api_Span, C_api_Span, A_api_Load, C_api_Load, A_api_Float, C_api_Float]) ?_
  obtain ⟨r_6, hr_6, h⟩ := Option.bind_eq_some_iff.1 h
  refine runH 2 [] [0, 1, 4, 12, 14, 15, 16] [] (mkS 91 [(0, .ptr 0 0), (1, .int .i64 loads_2), (4, .ptr 1 0), (12, .int .i64 r_4.1), (14, .int .i64 r_5.1), (15, .ptr 0 0), (16, .ptr 0 0)]) (⟨[(C_bateriakit_Drum r_5.2), [.int .i64 0, .int .i64 0, .int .i64 0, .int .i64 0, .int .i64 0, .int .i64 0, .int .i64 0, .int .i64 0, .nils]], [(2, 1)]⟩) (by kernel_rfl) trivial ?_
  refine ExO.callL [0] [.ptr 0 0, .int .i64 1500] rfl rfl (by simp [ren, ren1, fadeS, fadeV, AV.plain, AV.plain1, AV.clean, List.idxOf?, List.findIdx?, List.findIdx?.go, cleanL, cleanI, cleanBo, cleanSt, cleanII, KL_bateriakit_Drum, KL_api_Span, KL_api_Load, KL_api_Float, A_bateriakit_Drum, C_bateriakit_Drum, A_api_Span, C_api_Span, A_api_Load, C_api_Load, A_api_Float, C_api_Float]; try rfl) rfl (by simp [cleanL, AV.clean, cleanL, cleanI, cleanBo, cleanSt, cleanII, KL_bateriakit_Drum, KL_api_Span, KL_api_Load, KL_api_Float, A_bateriakit_Drum, C_bateriakit_Drum, A_api_Span, C_api_Span, A_api_Load, C_api_Load, A_api_Float, C_api_Float]) (d_bateriakit_Drum_Roll N r_5.2 1500 r_6 hr_6) (b_bateriakit_Drum_Roll _ _ _ _) (by simp [cleanL, AV.clean, cleanL, cleanI, cleanBo, cleanSt, cleanII, KL_bateriakit_Drum, KL_api_Span, KL_api_Load, KL_api_Float, A_bateriakit_Drum, C_bateriakit_Drum, A_api_Span, C_api_Span, A_api_Load, C_api_Load, A_api_Float, C_api_Float]) ?_
  obtain ⟨r_7, hr_7, h⟩ := Option.bind_eq_some_iff.1 h
  refine runH 1 [] [0, 1, 4, 12, 14, 15, 18] [] (mkS 91 [(0, .ptr 0 0), (1, .int .i64 loads_2), (4, .ptr 1 0), (12, .int .i64 r_4.1), (14, .int .i64 r_5.1), (15, .ptr 0 0), (18, .sl (([0, r_6.1] : List Int).map (AV.int .i64)) (some 1))]) (⟨[(C_bateriakit_Drum r_6.2), [.int .i64 0, .int .i64 0, .int .i64 0, .int .i64 0, .int .i64 0, .int .i64 0, .int .i64 0, .int .i64 0, .nils]], [(2, 1), (2, 1)]⟩) (by kernel_rfl) trivial ?_
  refine ExO.callL [0] [.ptr 0 0, .sl (([0, r_6.1] : List Int).map (AV.int .i64)) (some 1)] rfl rfl (by simp [ren, ren1, fadeS, fadeV, AV.plain, AV.plain1, AV.clean, List.idxOf?, List.findIdx?, List.findIdx?.go, cleanL, cleanI, cleanBo, cleanSt, cleanII, KL_bateriakit_Drum, KL_api_Span, KL_api_Load, KL_api_Float, A_bateriakit_Drum, C_bateriakit_Drum, A_api_Span, C_api_Span, A_api_Load, C_api_Load, A_api_Float, C_api_Float]; try rfl) rfl (by simp [cleanL, AV.clean, cleanL, cleanI, cleanBo, cleanSt, cleanII, KL_bateriakit_Drum, KL_api_Span, KL_api_Load, KL_api_Float, A_bateriakit_Drum, C_bateriakit_Drum, A_api_Span, C_api_Span, A_api_Load, C_api_Load, A_api_Float, C_api_Float]) (d_bateriakit_Drum_Any N r_6.2 [0, r_6.1] r_7 hr_7) (b_bateriakit_Drum_Any _ _ _ _) (by simp [cleanL, AV.clean, cleanL, cleanI, cleanBo, cleanSt, cleanII, KL_bateriakit_Drum, KL_api_Span, KL_api_Load, KL_api_Float, A_bateriakit_Drum, C_bateriakit_Drum, A_api_Span, C_api_Span, A_api_Load, C_api_Load, A_api_Float, C_api_Float]) ?_
  obtain ⟨r_8, hr_8, h⟩ := Option.bind_eq_some_iff.1 h
  refine runH 2 [] [0, 1, 4, 12, 14, 19, 20, 21] [] (mkS 91 [(0, .ptr 0 0), (1, .int .i64 loads_2), (4, .ptr 1 0), (12, .int .i64 r_4.1), (14, .int .i64 r_5.1), (19, .int .i64 r_7.1), (20, .ptr 0 0), (21, .ptr 0 0)]) (⟨[(C_bateriakit_Drum r_7.2), [.int .i64 0, .int .i64 0, .int .i64 0, .int .i64 0, .int .i64 0, .int .i64 0, .int .i64 0, .int .i64 0, .nils]], [(2, 1), (2, 1)]⟩) (by kernel_rfl) trivial ?_
  refine ExO.callL [0] [.ptr 0 0, .int .i64 5000] rfl rfl (by simp [ren, ren1, fadeS, fadeV, AV.plain, AV.plain1, AV.clean, List.idxOf?, List.findIdx?, List.findIdx?.go, cleanL, cleanI, cleanBo, cleanSt, cleanII, KL_bateriakit_Drum, KL_api_Span, KL_api_Load, KL_api_Float, A_bateriakit_Drum, C_bateriakit_Drum, A_api_Span, C_api_Span, A_api_Load, C_api_Load, A_api_Float, C_api_Float]; try rfl) rfl (by simp [cleanL, AV.clean, cleanL, cleanI, cleanBo, cleanSt, cleanII, KL_bateriakit_Drum, KL_api_Span, KL_api_Load, KL_api_Float, A_bateriakit_Drum, C_bateriakit_Drum, A_api_Span, C_api_Span, A_api_Load, C_api_Load, A_api_Float, C_api_Float]) (d_bateriakit_Drum_Roll N r_7.2 5000 r_8 hr_8) (b_bateriakit_Drum_Roll _ _ _ _) (by simp [cleanL, AV.clean, cleanL, cleanI, cleanBo, cleanSt, cleanII, KL_bateriakit_Drum, KL_api_Span, KL_api_Load, KL_api_Float, A_bateriakit_Drum, C_bateriakit_Drum, A_api_Span, C_api_Span, A_api_Load, C_api_Load, A_api_Float, C_api_Float]) ?_
  obtain ⟨r_9, hr_9, h⟩ := Option.bind_eq_some_iff.1 h
  refine runH 1 [] [0, 1, 4, 12, 14, 19, 20, 23] [] (mkS 91 [(0, .ptr 0 0), (1, .int .i64 loads_2), (4, .ptr 1 0), (12, .int .i64 r_4.1), (14, .int .i64 r_5.1), (19, .int .i64 r_7.1), (20, .ptr 0 0), (23, .sl (([0, r_8.1] : List Int).map (AV.int .i64)) (some 2))]) (⟨[(C_bateriakit_Drum r_8.2), [.int .i64 0, .int .i64 0, .int .i64 0, .int .i64 0, .int .i64 0, .int .i64 0, .int .i64 0, .int .i64 0, .nils]], [(2, 1), (2, 1), (2, 1)]⟩) (by kernel_rfl) trivial ?_
  refine ExO.callL [0] [.ptr 0 0, .sl (([0, r_8.1] : List Int).map (AV.int .i64)) (some 2)] rfl rfl (by simp [ren, ren1, fadeS, fadeV, AV.plain, AV.plain1, AV.clean, List.idxOf?, List.findIdx?, List.findIdx?.go, cleanL, cleanI, cleanBo, cleanSt, cleanII, KL_bateriakit_Drum, KL_api_Span, KL_api_Load, KL_api_Float, A_bateriakit_Drum, C_bateriakit_Drum, A_api_Span, C_api_Span, A_api_Load, C_api_Load, A_api_Float, C_api_Float]; try rfl) rfl (by simp [cleanL, AV.clean, cleanL, cleanI, cleanBo, cleanSt, cleanII, KL_bateriakit_Drum, KL_api_Span, KL_api_Load, KL_api_Float, A_bateriakit_Drum, C_bateriakit_Drum, A_api_Span, C_api_Span, A_api_Load, C_api_Load, A_api_Float, C_api_Float]) (d_bateriakit_Drum_Any N r_8.2 [0, r_8.1] r_9 hr_9) (b_bateriakit_Drum_Any _ _ _ _) (by simp [cleanL, AV.clean, cleanL, cleanI, cleanBo, cleanSt, cleanII, KL_bateriakit_Drum, KL_api_Span, KL_api_Load, KL_api_Float, A_bateriakit_Drum, C_bateriakit_Drum, A_api_Span, C_api_Span, A_api_Load, C_api_Load, A_api_Float, C_api_Float]) ?_
  obtain ⟨r_10, hr_10, h⟩ := Option.bind_eq_some_iff.1 h
  refine runH 1 [] [0, 1, 4, 12, 14, 19, 24, 25] [] (mkS 91 [(0, .ptr 0 0), (1, .int .i64 loads_2), (4, .ptr 1 0), (12, .int .i64 r_4.1), (14, .int .i64 r_5.1), (19, .int .i64 r_7.1), (24, .int .i64 r_9.1), (25, .ptr 0 0)]) (⟨[(C_bateriakit_Drum r_9.2), [.int .i64 0, .int .i64 0, .int .i64 0, .int .i64 0, .int .i64 0, .int .i64 0, .int .i64 0, .int .i64 0, .nils]], [(2, 1), (2, 1), (2, 1)]⟩) (by kernel_rfl) trivial ?_
  refine ExO.callL [0] [.ptr 0 0, .int .i64 500] rfl rfl (by simp [ren, ren1, fadeS, fadeV, AV.plain, AV.plain1, AV.clean, List.idxOf?, List.findIdx?, List.findIdx?.go, cleanL, cleanI, cleanBo, cleanSt, cleanII, KL_bateriakit_Drum, KL_api_Span, KL_api_Load, KL_api_Float, A_bateriakit_Drum, C_bateriakit_Drum, A_api_Span, C_api_Span, A_api_Load, C_api_Load, A_api_Float, C_api_Float]; try rfl) rfl (by simp [cleanL, AV.clean, cleanL, cleanI, cleanBo, cleanSt, cleanII, KL_bateriakit_Drum, KL_api_Span, KL_api_Load, KL_api_Float, A_bateriakit_Drum, C_bateriakit_Drum, A_api_Span, C_api_Span, A_api_Load, C_api_Load, A_api_Float, C_api_Float]) (d_bateriakit_Drum_Roll N r_9.2 500 r_10 hr_10) (b_bateriakit_Drum_Roll _ _ _ _) (by simp [cleanL, AV.clean, cleanL, cleanI, cleanBo, cleanSt, cleanII, KL_bateriakit_Drum, KL_api_Span, KL_api_Load, KL_api_Float, A_bateriakit_Drum, C_bateriakit_Drum, A_api_Span, C_api_Span, A_api_Load, C_api_Load, A_api_Float, C_api_Float]) ?_
  refine runH 3 [] [0, 1, 4, 5] [] (mkS 91 [(0, .ptr 0 0), (1, .int .i64 loads_2), (4, .ptr 1 0), (5, .ptr 2 0)]) (⟨[(C_bateriakit_Drum r_10.2), [.int .i64 0, .int .i64 0, .int .i64 0, .int .i64 0, .int .i64 0, .int .i64 0, .int .i64 0, .int .i64 0, .nils], [.int .i64 r_4.1, .int .i64 r_5.1, .int .i64 0, .int .i64 0, .int .i64 r_7.1, .int .i64 r_9.1, .int .i64 0, .int .i64 r_10.1, .nils]], [(2, 1), (2, 1), (2, 1)]⟩) (by kernel_rfl) trivial ?_
  refine ExO.nil ?_
  refine Ex.seq ?_
  obtain ⟨r_11, hr_11, h⟩ := Option.bind_eq_some_iff.1 h
  refine Ex.reg ?_
  refine runH 3 [] [0, 1, 4, 5, 28, 30] [] (mkS 91 [(0, .ptr 0 0), (1, .int .i64 loads_2), (4, .ptr 1 0), (5, .ptr 2 0), (28, .ptr 0 0), (30, .int .i64 r_4.1)]) (⟨[(C_bateriakit_Drum r_10.2), [.int .i64 0, .int .i64 0, .int .i64 0, .int .i64 0, .int .i64 0, .int .i64 0, .int .i64 0, .int .i64 0, .nils], [.int .i64 r_4.1, .int .i64 r_5.1, .int .i64 0, .int .i64 0, .int .i64 r_7.1, .int .i64 r_9.1, .int .i64 0, .int .i64 r_10.1, .nils]], [(2, 1), (2, 1), (2, 1)]⟩) (by kernel_rfl) trivial ?_
  refine ExO.callL [0] [.ptr 0 0, .int .i64 r_4.1] rfl rfl (by simp [ren, ren1, fadeS, fadeV, AV.plain, AV.plain1, AV.clean, List.idxOf?, List.findIdx?, List.findIdx?.go, cleanL, cleanI, cleanBo, cleanSt, cleanII, KL_bateriakit_Drum, KL_api_Span, KL_api_Load, KL_api_Float, A_bateriakit_Drum, C_bateriakit_Drum, A_api_Span, C_api_Span, A_api_Load, C_api_Load, A_api_Float, C_api_Float]; try rfl) rfl (by simp [cleanL, AV.clean, cleanL, cleanI, cleanBo, cleanSt, cleanII, KL_bateriakit_Drum, KL_api_Span, KL_api_Load, KL_api_Float, A_bateriakit_Drum, C_bateriakit_Drum, A_api_Span, C_api_Span, A_api_Load, C_api_Load, A_api_Float, C_api_Float]) (d_bateriakit_Drum_Roll N r_10.2 r_4.1 r_11 hr_11) (b_bateriakit_Drum_Roll _ _ _ _) (by simp [cleanL, AV.clean, cleanL, cleanI, cleanBo, cleanSt, cleanII, KL_bateriakit_Drum, KL_api_Span, KL_api_Load, KL_api_Float, A_bateriakit_Drum, C_bateriakit_Drum, A_api_Span, C_api_Span, A_api_Load, C_api_Load, A_api_Float, C_api_Float]) ?_
  refine runH 2 [] [0, 1, 4, 5] [] (mkS 91 [(0, .ptr 0 0), (1, .int .i64 loads_2), (4, .ptr 1 0), (5, .ptr 2 0)]) (⟨[(C_bateriakit_Drum r_11.2), [.int .i64 0, .int .i64 0, .int .i64 0, .int .i64 0, .int .i64 0, .int .i64 0, .int .i64 0, .int .i64 0, .nils], [.int .i64 r_4.1, .int .i64 r_5.1, .int .i64 r_11.1, .int .i64 0, .int .i64 r_7.1, .int .i64 r_9.1, .int .i64 0, .int .i64 r_10.1, .nils]], [(2, 1), (2, 1), (2, 1)]⟩) (by kernel_rfl) trivial ?_
  refine ExO.nil ?_
  refine Ex.seq ?_
  obtain ⟨r_12, hr_12, h⟩ := Option.bind_eq_some_iff.1 h
  refine Ex.reg ?_
  refine runH 6 [] [0, 1, 4, 5, 33, 36, 38] [] (mkS 91 [(0, .ptr 0 0), (1, .int .i64 loads_2), (4, .ptr 1 0), (5, .ptr 2 0), (33, .ptr 0 0), (36, .int .i64 (IntKind.i64.wrap (r_11.1 + 1))), (38, .int .i64 r_4.1)]) (⟨[(C_bateriakit_Drum r_11.2), [.int .i64 0, .int .i64 0, .int .i64 0, .int .i64 0, .int .i64 0, .int .i64 0, .int .i64 0, .int .i64 0, .nils], [.int .i64 r_4.1, .int .i64 r_5.1, .int .i64 r_11.1, .int .i64 0, .int .i64 r_7.1, .int .i64 r_9.1, .int .i64 0, .int .i64 r_10.1, .nils]], [(2, 1), (2, 1), (2, 1)]⟩) (by kernel_rfl) trivial ?_
  refine ExO.callL [0] [.ptr 0 0, .int .i64 (IntKind.i64.wrap (r_11.1 + 1)), .int .i64 r_4.1] rfl rfl (by simp [ren, ren1, fadeS, fadeV, AV.plain, AV.plain1, AV.clean, List.idxOf?, List.findIdx?, List.findIdx?.go, cleanL, cleanI, cleanBo, cleanSt, cleanII, KL_bateriakit_Drum, KL_api_Span, KL_api_Load, KL_api_Float, A_bateriakit_Drum, C_bateriakit_Drum, A_api_Span, C_api_Span, A_api_Load, C_api_Load, A_api_Float, C_api_Float]; try rfl) rfl (by simp [cleanL, AV.clean, cleanL, cleanI, cleanBo, cleanSt, cleanII, KL_bateriakit_Drum, KL_api_Span, KL_api_Load, KL_api_Float, A_bateriakit_Drum, C_bateriakit_Drum, A_api_Span, C_api_Span, A_api_Load, C_api_Load, A_api_Float, C_api_Float]) (d_bateriakit_Drum_Mid N r_11.2 (IntKind.i64.wrap (r_11.1 + 1)) r_4.1 r_12 hr_12) (b_bateriakit_Drum_Mid _ _ _ _) (by simp [cleanL, AV.clean, cleanL, cleanI, cleanBo, cleanSt, cleanII, KL_bateriakit_Drum, KL_api_Span, KL_api_Load, KL_api_Float, A_bateriakit_Drum, C_bateriakit_Drum, A_api_Span, C_api_Span, A_api_Load, C_api_Load, A_api_Float, C_api_Float]) ?_
  refine runH 2 [] [0, 1, 4, 5] [] (mkS 91 [(0, .ptr 0 0), (1, .int .i64 loads_2), (4, .ptr 1 0), (5, .ptr 2 0)]) (⟨[(C_bateriakit_Drum r_12.2), [.int .i64 0, .int .i64 0, .int .i64 0, .int .i64 0, .int .i64 0, .int .i64 0, .int .i64 0, .int .i64 0, .nils], [.int .i64 r_4.1, .int .i64 r_5.1, .int .i64 r_11.1, .int .i64 r_12.1, .int .i64 r_7.1, .int .i64 r_9.1, .int .i64 0, .int .i64 r_10.1, .nils]], [(2, 1), (2, 1), (2, 1)]⟩) (by kernel_rfl) trivial ?_
  refine ExO.nil ?_
  refine Ex.seq ?_
  obtain ⟨r_13, hr_13, h⟩ := Option.bind_eq_some_iff.1 h
  refine Ex.reg ?_
  refine runH 3 [] [0, 1, 4, 5, 41, 43] [] (mkS 91 [(0, .ptr 0 0), (1, .int .i64 loads_2), (4, .ptr 1 0), (5, .ptr 2 0), (41, .ptr 0 0), (43, .int .i64 r_4.1)]) (⟨[(C_bateriakit_Drum r_12.2), [.int .i64 0, .int .i64 0, .int .i64 0, .int .i64 0, .int .i64 0, .int .i64 0, .int .i64 0, .int .i64 0, .nils], [.int .i64 r_4.1, .int .i64 r_5.1, .int .i64 r_11.1, .int .i64 r_12.1, .int .i64 r_7.1, .int .i64 r_9.1, .int .i64 0, .int .i64 r_10.1, .nils]], [(2, 1), (2, 1), (2, 1)]⟩) (by kernel_rfl) trivial ?_
  refine ExO.callL [0] [.ptr 0 0, .int .i64 0, .int .i64 r_4.1] rfl rfl (by simp [ren, ren1, fadeS, fadeV, AV.plain, AV.plain1, AV.clean, List.idxOf?, List.findIdx?, List.findIdx?.go, cleanL, cleanI, cleanBo, cleanSt, cleanII, KL_bateriakit_Drum, KL_api_Span, KL_api_Load, KL_api_Float, A_bateriakit_Drum, C_bateriakit_Drum, A_api_Span, C_api_Span, A_api_Load, C_api_Load, A_api_Float, C_api_Float]; try rfl) rfl (by simp [cleanL, AV.clean, cleanL, cleanI, cleanBo, cleanSt, cleanII, KL_bateriakit_Drum, KL_api_Span, KL_api_Load, KL_api_Float, A_bateriakit_Drum, C_bateriakit_Drum, A_api_Span, C_api_Span, A_api_Load, C_api_Load, A_api_Float, C_api_Float]) (d_bateriakit_Drum_Mid N r_12.2 0 r_4.1 r_13 hr_13) (b_bateriakit_Drum_Mid _ _ _ _) (by simp [cleanL, AV.clean, cleanL, cleanI, cleanBo, cleanSt, cleanII, KL_bateriakit_Drum, KL_api_Span, KL_api_Load, KL_api_Float, A_bateriakit_Drum, C_bateriakit_Drum, A_api_Span, C_api_Span, A_api_Load, C_api_Load, A_api_Float, C_api_Float]) ?_
  refine runH 2 [] [0, 1, 4, 5] [] (mkS 91 [(0, .ptr 0 0), (1, .int .i64 loads_2), (4, .ptr 1 0), (5, .ptr 2 0)]) (⟨[(C_bateriakit_Drum r_13.2), [.int .i64 0, .int .i64 0, .int .i64 0, .int .i64 0, .int .i64 0, .int .i64 0, .int .i64 0, .int .i64 0, .nils], [.int .i64 r_4.1, .int .i64 r_5.1, .int .i64 r_11.1, .int .i64 r_12.1, .int .i64 r_7.1, .int .i64 r_9.1, .int .i64 r_13.1, .int .i64 r_10.1, .nils]], [(2, 1), (2, 1), (2, 1)]⟩) (by kernel_rfl) trivial ?_
  refine ExO.nil ?_
  refine Ex.seq ?_
  refine Ex.seq ?_
  obtain ⟨r_14, hr_14, h⟩ := Option.bind_eq_some_iff.1 h
  refine Ex.reg ?_
  refine runH 3 [] [0, 4, 5, 46, 48] [] (mkS 91 [(0, .ptr 0 0), (4, .ptr 1 0), (5, .ptr 2 0), (46, .ptr 0 0), (48, .int .i64 (IntKind.i64.wrap (loads_2 + 1)))]) (⟨[(C_bateriakit_Drum r_13.2), [.int .i64 0, .int .i64 0, .int .i64 0, .int .i64 0, .int .i64 0, .int .i64 0, .int .i64 0, .int .i64 0, .nils], [.int .i64 r_4.1, .int .i64 r_5.1, .int .i64 r_11.1, .int .i64 r_12.1, .int .i64 r_7.1, .int .i64 r_9.1, .int .i64 r_13.1, .int .i64 r_10.1, .nils]], [(2, 1), (2, 1), (2, 1)]⟩) (by kernel_rfl) trivial ?_
  refine ExO.callL [0] [.ptr 0 0, .int .i64 (IntKind.i64.wrap (loads_2 + 1))] rfl rfl (by simp [ren, ren1, fadeS, fadeV, AV.plain, AV.plain1, AV.clean, List.idxOf?, List.findIdx?, List.findIdx?.go, cleanL, cleanI, cleanBo, cleanSt, cleanII, KL_bateriakit_Drum, KL_api_Span, KL_api_Load, KL_api_Float, A_bateriakit_Drum, C_bateriakit_Drum, A_api_Span, C_api_Span, A_api_Load, C_api_Load, A_api_Float, C_api_Float]; try rfl) rfl (by simp [cleanL, AV.clean, cleanL, cleanI, cleanBo, cleanSt, cleanII, KL_bateriakit_Drum, KL_api_Span, KL_api_Load, KL_api_Float, A_bateriakit_Drum, C_bateriakit_Drum, A_api_Span, C_api_Span, A_api_Load, C_api_Load, A_api_Float, C_api_Float]) (d_bateriakit_Drum_Roll N r_13.2 (IntKind.i64.wrap (loads_2 + 1)) r_14 hr_14) (b_bateriakit_Drum_Roll _ _ _ _) (by simp [cleanL, AV.clean, cleanL, cleanI, cleanBo, cleanSt, cleanII, KL_bateriakit_Drum, KL_api_Span, KL_api_Load, KL_api_Float, A_bateriakit_Drum, C_bateriakit_Drum, A_api_Span, C_api_Span, A_api_Load, C_api_Load, A_api_Float, C_api_Float]) ?_
  refine runH 1 [] [0, 4, 5, 6] [] (mkS 91 [(0, .ptr 0 0), (4, .ptr 1 0), (5, .ptr 2 0), (6, .int .i64 r_14.1)]) (⟨[(C_bateriakit_Drum r_14.2), [.int .i64 0, .int .i64 0, .int .i64 0, .int .i64 0, .int .i64 0, .int .i64 0, .int .i64 0, .int .i64 0, .nils], [.int .i64 r_4.1, .int .i64 r_5.1, .int .i64 r_11.1, .int .i64 r_12.1, .int .i64 r_7.1, .int .i64 r_9.1, .int .i64 r_13.1, .int .i64 r_10.1, .nils]], [(2, 1), (2, 1), (2, 1)]⟩) (by kernel_rfl) trivial ?_
  refine ExO.nil ?_
  obtain ⟨K_18, hK_19, h⟩ := letE h
  refine Ex.blockJ (fun a S => ∃ (b_15 : Int), ∃ (b_16 : List T_api_Load), K_18 b_15 b_16 = some r ∧ a = mkS 91 [(4, .ptr 1 0), (5, .ptr 2 0)] ∧ S = ⟨[[.int .u64 b_15], [.int .i64 0, .int .i64 0, .int .i64 0, .int .i64 0, .int .i64 0, .int .i64 0, .int .i64 0, .int .i64 0, .nils], [.int .i64 r_4.1, .int .i64 r_5.1, .int .i64 r_11.1, .int .i64 r_12.1, .int .i64 r_7.1, .int .i64 r_9.1, .int .i64 r_13.1, .int .i64 r_10.1, .sl (b_16.map A_api_Load) (some 0)]], [(b_16.length, 7)]⟩) ?_ ?_
  · refine Ex.forget (nilB 2 8 7 [.int .i64 r_4.1, .int .i64 r_5.1, .int .i64 r_11.1, .int .i64 r_12.1, .int .i64 r_7.1, .int .i64 r_9.1, .int .i64 r_13.1, .int .i64 r_10.1, .nils] rfl rfl) ?_
    refine Ex.castA (a2 := mkS 91 [(0, .ptr 0 0), (4, .ptr 1 0), (5, .ptr 2 0), (6, .int .i64 r_14.1)]) (S2 := ⟨[(C_bateriakit_Drum r_14.2), [.int .i64 0, .int .i64 0, .int .i64 0, .int .i64 0, .int .i64 0, .int .i64 0, .int .i64 0, .int .i64 0, .nils], [.int .i64 r_4.1, .int .i64 r_5.1, .int .i64 r_11.1, .int .i64 r_12.1, .int .i64 r_7.1, .int .i64 r_9.1, .int .i64 r_13.1, .int .i64 r_10.1, .sl (([] : List T_api_Load).map A_api_Load) (some 3)]], [(2, 1), (2, 1), (2, 1), (0, 7)]⟩) (by kernel_rfl) (by kernel_rfl) ?_
    obtain ⟨B_24, hB_25, h⟩ := loop3I h
    refine Ex.loopF (fun k a S => ∃ (i_20 : Int), ∃ (b_21 : Int), ∃ (b_22 : List T_api_Load), loop3 B_24 k i_20 b_21 b_22 = some r ∧ a = mkS 91 [(0, .ptr 0 0), (4, .ptr 1 0), (5, .ptr 2 0), (6, .int .i64 i_20)] ∧ S = ⟨[[.int .u64 b_21], [.int .i64 0, .int .i64 0, .int .i64 0, .int .i64 0, .int .i64 0, .int .i64 0, .int .i64 0, .int .i64 0, .nils], [.int .i64 r_4.1, .int .i64 r_5.1, .int .i64 r_11.1, .int .i64 r_12.1, .int .i64 r_7.1, .int .i64 r_9.1, .int .i64 r_13.1, .int .i64 r_10.1, .sl (b_22.map A_api_Load) (some 0)]], [(b_22.length, 7)]⟩) N ⟨_, _, forgetA (m := 91) 3 [3] [(0, .ptr 0 0), (4, .ptr 1 0), (5, .ptr 2 0), (6, .int .i64 r_14.1)] [(C_bateriakit_Drum r_14.2), [.int .i64 0, .int .i64 0, .int .i64 0, .int .i64 0, .int .i64 0, .int .i64 0, .int .i64 0, .int .i64 0, .nils], [.int .i64 r_4.1, .int .i64 r_5.1, .int .i64 r_11.1, .int .i64 r_12.1, .int .i64 r_7.1, .int .i64 r_9.1, .int .i64 r_13.1, .int .i64 r_10.1, .sl (([] : List T_api_Load).map A_api_Load) (some 0)]] [(0, 7)] (by simp) (by simp) ⟨rfl, rfl, rfl, rfl, trivial⟩ (by simp [re, re1, AV.clean, List.idxOf?, List.findIdx?, List.findIdx?.go, cleanL, cleanI, cleanBo, cleanSt, cleanII, KL_bateriakit_Drum, KL_api_Span, KL_api_Load, KL_api_Float, KB_bateriakit_Drum, KB_api_Span, KB_api_Load, KB_api_Float]) rfl (by decide), r_14.1, r_14.2.beat_, [], h, rfl, rfl⟩ ?_
    rintro k a S ⟨i_20, b_21, b_22, h, rfl, rfl⟩
    cases k with
    | zero => exact (loop3Z h).elim
    | succ k =>
      replace h := loop3S h hB_25
      refine Ex.seq ?_
      refine Ex.seq ?_
      refine regH 2 [] [0, 4, 5, 6, 51] [] (mkS 91 [(0, .ptr 0 0), (4, .ptr 1 0), (5, .ptr 2 0), (6, .int .i64 i_20), (51, .bool (decide (i_20 > 0)))]) (⟨[[.int .u64 b_21], [.int .i64 0, .int .i64 0, .int .i64 0, .int .i64 0, .int .i64 0, .int .i64 0, .int .i64 0, .int .i64 0, .nils], [.int .i64 r_4.1, .int .i64 r_5.1, .int .i64 r_11.1, .int .i64 r_12.1, .int .i64 r_7.1, .int .i64 r_9.1, .int .i64 r_13.1, .int .i64 r_10.1, .sl (b_22.map A_api_Load) (some 0)]], [(b_22.length, 7)]⟩) (by kernel_rfl) trivial rfl ?_
      rcases condI h with ⟨hc_26, h⟩ | ⟨hc_26, h⟩
      · refine Ex.condT _ rfl hc_26 ?_
        refine Ex.skip ?_
        refine Ex.seq ?_
        refine Ex.blockK ?_
        refine Ex.seq ?_
        obtain ⟨r_27, hr_27, h⟩ := Option.bind_eq_some_iff.1 h
        refine Ex.reg ?_
        refine runH 5 [] [0, 4, 5, 6, 54, 56, 58] [] (mkS 91 [(0, .ptr 0 0), (4, .ptr 1 0), (5, .ptr 2 0), (6, .int .i64 i_20), (54, .ptr 0 0), (56, .int .i64 r_11.1), (58, .int .i64 r_12.1)]) (⟨[[.int .u64 b_21], [.int .i64 0, .int .i64 0, .int .i64 0, .int .i64 0, .int .i64 0, .int .i64 0, .int .i64 0, .int .i64 0, .nils], [.int .i64 r_4.1, .int .i64 r_5.1, .int .i64 r_11.1, .int .i64 r_12.1, .int .i64 r_7.1, .int .i64 r_9.1, .int .i64 r_13.1, .int .i64 r_10.1, .sl (b_22.map A_api_Load) (some 0)]], [(b_22.length, 7)]⟩) (by kernel_rfl) trivial ?_
        refine ExO.callL [0] [.ptr 0 0, .int .i64 r_11.1, .int .i64 r_12.1] rfl rfl (by simp [ren, ren1, fadeS, fadeV, AV.plain, AV.plain1, AV.clean, List.idxOf?, List.findIdx?, List.findIdx?.go, cleanL, cleanI, cleanBo, cleanSt, cleanII, KL_bateriakit_Drum, KL_api_Span, KL_api_Load, KL_api_Float, A_bateriakit_Drum, C_bateriakit_Drum, A_api_Span, C_api_Span, A_api_Load, C_api_Load, A_api_Float, C_api_Float]; try rfl) rfl (by simp [cleanL, AV.clean, cleanL, cleanI, cleanBo, cleanSt, cleanII, KL_bateriakit_Drum, KL_api_Span, KL_api_Load, KL_api_Float, A_bateriakit_Drum, C_bateriakit_Drum, A_api_Span, C_api_Span, A_api_Load, C_api_Load, A_api_Float, C_api_Float]) (d_bateriakit_Drum_Mid N (⟨b_21⟩ : T_bateriakit_Drum) r_11.1 r_12.1 r_27 hr_27) (b_bateriakit_Drum_Mid _ _ _ _) (by simp [cleanL, AV.clean, cleanL, cleanI, cleanBo, cleanSt, cleanII, KL_bateriakit_Drum, KL_api_Span, KL_api_Load, KL_api_Float, A_bateriakit_Drum, C_bateriakit_Drum, A_api_Span, C_api_Span, A_api_Load, C_api_Load, A_api_Float, C_api_Float]) ?_
        obtain ⟨r_28, hr_28, h⟩ := Option.bind_eq_some_iff.1 h
        refine runH 3 [] [0, 4, 5, 6, 59, 60, 61, 62] [] (mkS 91 [(0, .ptr 0 0), (4, .ptr 1 0), (5, .ptr 2 0), (6, .int .i64 i_20), (59, .int .i64 r_27.1), (60, .ptr 0 0), (61, .ptr 0 0), (62, .sl (([5, 900] : List Int).map (AV.int .i64)) (some 1))]) (⟨[(C_bateriakit_Drum r_27.2), [.int .i64 0, .int .i64 0, .int .i64 0, .int .i64 0, .int .i64 0, .int .i64 0, .int .i64 0, .int .i64 0, .nils], [.int .i64 r_4.1, .int .i64 r_5.1, .int .i64 r_11.1, .int .i64 r_12.1, .int .i64 r_7.1, .int .i64 r_9.1, .int .i64 r_13.1, .int .i64 r_10.1, .sl (b_22.map A_api_Load) (some 0)]], [(b_22.length, 7), (2, 1)]⟩) (by kernel_rfl) trivial ?_
        refine ExO.callL [0] [.ptr 0 0, .sl (([5, 900] : List Int).map (AV.int .i64)) (some 1)] rfl rfl (by simp [ren, ren1, fadeS, fadeV, AV.plain, AV.plain1, AV.clean, List.idxOf?, List.findIdx?, List.findIdx?.go, cleanL, cleanI, cleanBo, cleanSt, cleanII, KL_bateriakit_Drum, KL_api_Span, KL_api_Load, KL_api_Float, A_bateriakit_Drum, C_bateriakit_Drum, A_api_Span, C_api_Span, A_api_Load, C_api_Load, A_api_Float, C_api_Float]; try rfl) rfl (by simp [cleanL, AV.clean, cleanL, cleanI, cleanBo, cleanSt, cleanII, KL_bateriakit_Drum, KL_api_Span, KL_api_Load, KL_api_Float, A_bateriakit_Drum, C_bateriakit_Drum, A_api_Span, C_api_Span, A_api_Load, C_api_Load, A_api_Float, C_api_Float]) (d_bateriakit_Drum_Any N r_27.2 [5, 900] r_28 hr_28) (b_bateriakit_Drum_Any _ _ _ _) (by simp [cleanL, AV.clean, cleanL, cleanI, cleanBo, cleanSt, cleanII, KL_bateriakit_Drum, KL_api_Span, KL_api_Load, KL_api_Float, A_bateriakit_Drum, C_bateriakit_Drum, A_api_Span, C_api_Span, A_api_Load, C_api_Load, A_api_Float, C_api_Float]) ?_
        obtain ⟨r_29, hr_29, h⟩ := Option.bind_eq_some_iff.1 h
        refine ExO.callL [0] [.ptr 0 0, .int .i64 0, .int .i64 r_28.1] rfl rfl (by simp [ren, ren1, fadeS, fadeV, AV.plain, AV.plain1, AV.clean, List.idxOf?, List.findIdx?, List.findIdx?.go, cleanL, cleanI, cleanBo, cleanSt, cleanII, KL_bateriakit_Drum, KL_api_Span, KL_api_Load, KL_api_Float, A_bateriakit_Drum, C_bateriakit_Drum, A_api_Span, C_api_Span, A_api_Load, C_api_Load, A_api_Float, C_api_Float]; try rfl) rfl (by simp [cleanL, AV.clean, cleanL, cleanI, cleanBo, cleanSt, cleanII, KL_bateriakit_Drum, KL_api_Span, KL_api_Load, KL_api_Float, A_bateriakit_Drum, C_bateriakit_Drum, A_api_Span, C_api_Span, A_api_Load, C_api_Load, A_api_Float, C_api_Float]) (d_bateriakit_Drum_Span N r_28.2 0 r_28.1 r_29 hr_29) (b_bateriakit_Drum_Span _ _ _ _) (by simp [cleanL, AV.clean, cleanL, cleanI, cleanBo, cleanSt, cleanII, KL_bateriakit_Drum, KL_api_Span, KL_api_Load, KL_api_Float, A_bateriakit_Drum, C_bateriakit_Drum, A_api_Span, C_api_Span, A_api_Load, C_api_Load, A_api_Float, C_api_Float]) ?_
        obtain ⟨r_30, hr_30, h⟩ := Option.bind_eq_some_iff.1 h
        refine runH 3 [] [0, 4, 5, 6, 59, 64, 65, 66, 67] [] (mkS 91 [(0, .ptr 0 0), (4, .ptr 1 0), (5, .ptr 2 0), (6, .int .i64 i_20), (59, .int .i64 r_27.1), (64, (A_api_Span r_29.1)), (65, .ptr 0 0), (66, .ptr 0 0), (67, .sl (([20, 700] : List Int).map (AV.int .i64)) (some 2))]) (⟨[(C_bateriakit_Drum r_29.2), [.int .i64 0, .int .i64 0, .int .i64 0, .int .i64 0, .int .i64 0, .int .i64 0, .int .i64 0, .int .i64 0, .nils], [.int .i64 r_4.1, .int .i64 r_5.1, .int .i64 r_11.1, .int .i64 r_12.1, .int .i64 r_7.1, .int .i64 r_9.1, .int .i64 r_13.1, .int .i64 r_10.1, .sl (b_22.map A_api_Load) (some 0)]], [(b_22.length, 7), (2, 1), (2, 1)]⟩) (by kernel_rfl) trivial ?_
        refine ExO.callL [0] [.ptr 0 0, .sl (([20, 700] : List Int).map (AV.int .i64)) (some 2)] rfl rfl (by simp [ren, ren1, fadeS, fadeV, AV.plain, AV.plain1, AV.clean, List.idxOf?, List.findIdx?, List.findIdx?.go, cleanL, cleanI, cleanBo, cleanSt, cleanII, KL_bateriakit_Drum, KL_api_Span, KL_api_Load, KL_api_Float, A_bateriakit_Drum, C_bateriakit_Drum, A_api_Span, C_api_Span, A_api_Load, C_api_Load, A_api_Float, C_api_Float]; try rfl) rfl (by simp [cleanL, AV.clean, cleanL, cleanI, cleanBo, cleanSt, cleanII, KL_bateriakit_Drum, KL_api_Span, KL_api_Load, KL_api_Float, A_bateriakit_Drum, C_bateriakit_Drum, A_api_Span, C_api_Span, A_api_Load, C_api_Load, A_api_Float, C_api_Float]) (d_bateriakit_Drum_Any N r_29.2 [20, 700] r_30 hr_30) (b_bateriakit_Drum_Any _ _ _ _) (by simp [cleanL, AV.clean, cleanL, cleanI, cleanBo, cleanSt, cleanII, KL_bateriakit_Drum, KL_api_Span, KL_api_Load, KL_api_Float, A_bateriakit_Drum, C_bateriakit_Drum, A_api_Span, C_api_Span, A_api_Load, C_api_Load, A_api_Float, C_api_Float]) ?_
        obtain ⟨r_31, hr_31, h⟩ := Option.bind_eq_some_iff.1 h
        refine ExO.callL [0] [.ptr 0 0, .int .i64 0, .int .i64 r_30.1] rfl rfl (by simp [ren, ren1, fadeS, fadeV, AV.plain, AV.plain1, AV.clean, List.idxOf?, List.findIdx?, List.findIdx?.go, cleanL, cleanI, cleanBo, cleanSt, cleanII, KL_bateriakit_Drum, KL_api_Span, KL_api_Load, KL_api_Float, A_bateriakit_Drum, C_bateriakit_Drum, A_api_Span, C_api_Span, A_api_Load, C_api_Load, A_api_Float, C_api_Float]; try rfl) rfl (by simp [cleanL, AV.clean, cleanL, cleanI, cleanBo, cleanSt, cleanII, KL_bateriakit_Drum, KL_api_Span, KL_api_Load, KL_api_Float, A_bateriakit_Drum, C_bateriakit_Drum, A_api_Span, C_api_Span, A_api_Load, C_api_Load, A_api_Float, C_api_Float]) (d_bateriakit_Drum_Span N r_30.2 0 r_30.1 r_31 hr_31) (b_bateriakit_Drum_Span _ _ _ _) (by simp [cleanL, AV.clean, cleanL, cleanI, cleanBo, cleanSt, cleanII, KL_bateriakit_Drum, KL_api_Span, KL_api_Load, KL_api_Float, A_bateriakit_Drum, C_bateriakit_Drum, A_api_Span, C_api_Span, A_api_Load, C_api_Load, A_api_Float, C_api_Float]) ?_
        obtain ⟨r_32, hr_32, h⟩ := Option.bind_eq_some_iff.1 h
        refine runH 1 [] [0, 4, 5, 6, 59, 64, 69, 70] [] (mkS 91 [(0, .ptr 0 0), (4, .ptr 1 0), (5, .ptr 2 0), (6, .int .i64 i_20), (59, .int .i64 r_27.1), (64, (A_api_Span r_29.1)), (69, (A_api_Span r_31.1)), (70, .ptr 0 0)]) (⟨[(C_bateriakit_Drum r_31.2), [.int .i64 0, .int .i64 0, .int .i64 0, .int .i64 0, .int .i64 0, .int .i64 0, .int .i64 0, .int .i64 0, .nils], [.int .i64 r_4.1, .int .i64 r_5.1, .int .i64 r_11.1, .int .i64 r_12.1, .int .i64 r_7.1, .int .i64 r_9.1, .int .i64 r_13.1, .int .i64 r_10.1, .sl (b_22.map A_api_Load) (some 0)]], [(b_22.length, 7), (2, 1), (2, 1)]⟩) (by kernel_rfl) trivial ?_
        refine ExO.callL [0] [.ptr 0 0, .int .i64 1, .int .i64 4] rfl rfl (by simp [ren, ren1, fadeS, fadeV, AV.plain, AV.plain1, AV.clean, List.idxOf?, List.findIdx?, List.findIdx?.go, cleanL, cleanI, cleanBo, cleanSt, cleanII, KL_bateriakit_Drum, KL_api_Span, KL_api_Load, KL_api_Float, A_bateriakit_Drum, C_bateriakit_Drum, A_api_Span, C_api_Span, A_api_Load, C_api_Load, A_api_Float, C_api_Float]; try rfl) rfl (by simp [cleanL, AV.clean, cleanL, cleanI, cleanBo, cleanSt, cleanII, KL_bateriakit_Drum, KL_api_Span, KL_api_Load, KL_api_Float, A_bateriakit_Drum, C_bateriakit_Drum, A_api_Span, C_api_Span, A_api_Load, C_api_Load, A_api_Float, C_api_Float]) (d_bateriakit_Drum_Mid N r_31.2 1 4 r_32 hr_32) (b_bateriakit_Drum_Mid _ _ _ _) (by simp [cleanL, AV.clean, cleanL, cleanI, cleanBo, cleanSt, cleanII, KL_bateriakit_Drum, KL_api_Span, KL_api_Load, KL_api_Float, A_bateriakit_Drum, C_bateriakit_Drum, A_api_Span, C_api_Span, A_api_Load, C_api_Load, A_api_Float, C_api_Float]) ?_
        refine runH 3 [] [0, 4, 5, 6, 7] [] (mkS 91 [(0, .ptr 0 0), (4, .ptr 1 0), (5, .ptr 2 0), (6, .int .i64 i_20), (7, .ptr 3 0)]) (⟨[(C_bateriakit_Drum r_32.2), [.int .i64 0, .int .i64 0, .int .i64 0, .int .i64 0, .int .i64 0, .int .i64 0, .int .i64 0, .int .i64 0, .nils], [.int .i64 r_4.1, .int .i64 r_5.1, .int .i64 r_11.1, .int .i64 r_12.1, .int .i64 r_7.1, .int .i64 r_9.1, .int .i64 r_13.1, .int .i64 r_10.1, .sl (b_22.map A_api_Load) (some 0)], [.int .i64 r_27.1, .int .i64 r_29.1.Lo, .int .i64 r_29.1.Hi, .int .i64 r_31.1.Lo, .int .i64 r_31.1.Hi, .int .i64 r_32.1, .int .i64 0]], [(b_22.length, 7), (2, 1), (2, 1)]⟩) (by kernel_rfl) trivial ?_
        refine ExO.nil ?_
        obtain ⟨K_36, hK_37, h⟩ := letE h
        refine Ex.seqJ (fun a S => ∃ (b_33 : Int), ∃ (b_34 : Int), K_36 b_33 b_34 = some r ∧ a = mkS 91 [(0, .ptr 0 0), (4, .ptr 1 0), (5, .ptr 2 0), (6, .int .i64 i_20), (7, .ptr 3 0)] ∧ S = ⟨[[.int .u64 b_33], [.int .i64 0, .int .i64 0, .int .i64 0, .int .i64 0, .int .i64 0, .int .i64 0, .int .i64 0, .int .i64 0, .nils], [.int .i64 r_4.1, .int .i64 r_5.1, .int .i64 r_11.1, .int .i64 r_12.1, .int .i64 r_7.1, .int .i64 r_9.1, .int .i64 r_13.1, .int .i64 r_10.1, .sl (b_22.map A_api_Load) (some 0)], [.int .i64 r_27.1, .int .i64 r_29.1.Lo, .int .i64 r_29.1.Hi, .int .i64 r_31.1.Lo, .int .i64 r_31.1.Hi, .int .i64 r_32.1, .int .i64 b_34]], [(b_22.length, 7)]⟩) ?_ ?_
        · obtain ⟨K_40, hK_41, h⟩ := letE h
          refine Ex.seqJ (fun a S => ∃ (y_38 : Bool), K_40 y_38 = some r ∧ a = mkS 91 [(0, .ptr 0 0), (4, .ptr 1 0), (5, .ptr 2 0), (6, .int .i64 i_20), (7, .ptr 3 0), (80, .bool y_38)] ∧ S = ⟨[(C_bateriakit_Drum r_32.2), [.int .i64 0, .int .i64 0, .int .i64 0, .int .i64 0, .int .i64 0, .int .i64 0, .int .i64 0, .int .i64 0, .nils], [.int .i64 r_4.1, .int .i64 r_5.1, .int .i64 r_11.1, .int .i64 r_12.1, .int .i64 r_7.1, .int .i64 r_9.1, .int .i64 r_13.1, .int .i64 r_10.1, .sl (b_22.map A_api_Load) (some 0)], [.int .i64 r_27.1, .int .i64 r_29.1.Lo, .int .i64 r_29.1.Hi, .int .i64 r_31.1.Lo, .int .i64 r_31.1.Hi, .int .i64 r_32.1, .int .i64 0]], [(b_22.length, 7)]⟩) ?_ ?_
          · rcases condI h with ⟨hc_42, h⟩ | ⟨hc_42, h⟩
            · refine regH 8 [(3, .eq (.bool true))] [0, 4, 5, 6, 7, 80] [AV.bool (r_32.1 == 2) = AV.bool true] (mkS 91 [(0, .ptr 0 0), (4, .ptr 1 0), (5, .ptr 2 0), (6, .int .i64 i_20), (7, .ptr 3 0), (80, .bool true)]) (⟨[(C_bateriakit_Drum r_32.2), [.int .i64 0, .int .i64 0, .int .i64 0, .int .i64 0, .int .i64 0, .int .i64 0, .int .i64 0, .int .i64 0, .nils], [.int .i64 r_4.1, .int .i64 r_5.1, .int .i64 r_11.1, .int .i64 r_12.1, .int .i64 r_7.1, .int .i64 r_9.1, .int .i64 r_13.1, .int .i64 r_10.1, .sl (b_22.map A_api_Load) (some 0)], [.int .i64 r_27.1, .int .i64 r_29.1.Lo, .int .i64 r_29.1.Hi, .int .i64 r_31.1.Lo, .int .i64 r_31.1.Hi, .int .i64 r_32.1, .int .i64 0]], [(b_22.length, 7), (2, 1), (2, 1)]⟩) (by kernel_rfl) ⟨congrArg AV.bool hc_42, trivial⟩ rfl ?_
              (try simp only [reduceCtorEq, AEx.ex.injEq, Nat.reduceEqDiff, if_true, if_false])
              exact ⟨_, _, forgetA (m := 91) 4 [0] [(0, .ptr 0 0), (4, .ptr 1 0), (5, .ptr 2 0), (6, .int .i64 i_20), (7, .ptr 3 0), (80, .bool true)] [(C_bateriakit_Drum r_32.2), [.int .i64 0, .int .i64 0, .int .i64 0, .int .i64 0, .int .i64 0, .int .i64 0, .int .i64 0, .int .i64 0, .nils], [.int .i64 r_4.1, .int .i64 r_5.1, .int .i64 r_11.1, .int .i64 r_12.1, .int .i64 r_7.1, .int .i64 r_9.1, .int .i64 r_13.1, .int .i64 r_10.1, .sl (b_22.map A_api_Load) (some 0)], [.int .i64 r_27.1, .int .i64 r_29.1.Lo, .int .i64 r_29.1.Hi, .int .i64 r_31.1.Lo, .int .i64 r_31.1.Hi, .int .i64 r_32.1, .int .i64 0]] [(b_22.length, 7)] (by simp) (by simp) ⟨rfl, rfl, rfl, rfl, rfl, rfl, trivial⟩ (by simp [re, re1, AV.clean, List.idxOf?, List.findIdx?, List.findIdx?.go, cleanL, cleanI, cleanBo, cleanSt, cleanII, KL_bateriakit_Drum, KL_api_Span, KL_api_Load, KL_api_Float, KB_bateriakit_Drum, KB_api_Span, KB_api_Load, KB_api_Float]) rfl (by decide), true, h, rfl, rfl⟩
            · refine regH 8 [(3, .eq (.bool false))] [0, 4, 5, 6, 7, 80] [AV.bool (r_32.1 == 2) = AV.bool false] (mkS 91 [(0, .ptr 0 0), (4, .ptr 1 0), (5, .ptr 2 0), (6, .int .i64 i_20), (7, .ptr 3 0), (80, .bool (r_32.1 == 3))]) (⟨[(C_bateriakit_Drum r_32.2), [.int .i64 0, .int .i64 0, .int .i64 0, .int .i64 0, .int .i64 0, .int .i64 0, .int .i64 0, .int .i64 0, .nils], [.int .i64 r_4.1, .int .i64 r_5.1, .int .i64 r_11.1, .int .i64 r_12.1, .int .i64 r_7.1, .int .i64 r_9.1, .int .i64 r_13.1, .int .i64 r_10.1, .sl (b_22.map A_api_Load) (some 0)], [.int .i64 r_27.1, .int .i64 r_29.1.Lo, .int .i64 r_29.1.Hi, .int .i64 r_31.1.Lo, .int .i64 r_31.1.Hi, .int .i64 r_32.1, .int .i64 0]], [(b_22.length, 7), (2, 1), (2, 1)]⟩) (by kernel_rfl) ⟨congrArg AV.bool hc_42, trivial⟩ rfl ?_
              (try simp only [reduceCtorEq, AEx.ex.injEq, Nat.reduceEqDiff, if_true, if_false])
              exact ⟨_, _, forgetA (m := 91) 4 [0] [(0, .ptr 0 0), (4, .ptr 1 0), (5, .ptr 2 0), (6, .int .i64 i_20), (7, .ptr 3 0), (80, .bool (r_32.1 == 3))] [(C_bateriakit_Drum r_32.2), [.int .i64 0, .int .i64 0, .int .i64 0, .int .i64 0, .int .i64 0, .int .i64 0, .int .i64 0, .int .i64 0, .nils], [.int .i64 r_4.1, .int .i64 r_5.1, .int .i64 r_11.1, .int .i64 r_12.1, .int .i64 r_7.1, .int .i64 r_9.1, .int .i64 r_13.1, .int .i64 r_10.1, .sl (b_22.map A_api_Load) (some 0)], [.int .i64 r_27.1, .int .i64 r_29.1.Lo, .int .i64 r_29.1.Hi, .int .i64 r_31.1.Lo, .int .i64 r_31.1.Hi, .int .i64 r_32.1, .int .i64 0]] [(b_22.length, 7)] (by simp) (by simp) ⟨rfl, rfl, rfl, rfl, rfl, rfl, trivial⟩ (by simp [re, re1, AV.clean, List.idxOf?, List.findIdx?, List.findIdx?.go, cleanL, cleanI, cleanBo, cleanSt, cleanII, KL_bateriakit_Drum, KL_api_Span, KL_api_Load, KL_api_Float, KB_bateriakit_Drum, KB_api_Span, KB_api_Load, KB_api_Float]) rfl (by decide), (r_32.1 == 3), h, rfl, rfl⟩
          · rintro a S ⟨y_38, h, rfl, rfl⟩
            subst hK_41
            rcases condI h with ⟨hc_43, h⟩ | ⟨hc_43, h⟩
            · refine Ex.condT _ rfl hc_43 ?_
              obtain ⟨r_44, hr_44, h⟩ := Option.bind_eq_some_iff.1 h
              refine Ex.reg ?_
              refine runH 1 [] [0, 4, 5, 6, 7, 81] [] (mkS 91 [(0, .ptr 0 0), (4, .ptr 1 0), (5, .ptr 2 0), (6, .int .i64 i_20), (7, .ptr 3 0), (81, .ptr 0 0)]) (⟨[(C_bateriakit_Drum r_32.2), [.int .i64 0, .int .i64 0, .int .i64 0, .int .i64 0, .int .i64 0, .int .i64 0, .int .i64 0, .int .i64 0, .nils], [.int .i64 r_4.1, .int .i64 r_5.1, .int .i64 r_11.1, .int .i64 r_12.1, .int .i64 r_7.1, .int .i64 r_9.1, .int .i64 r_13.1, .int .i64 r_10.1, .sl (b_22.map A_api_Load) (some 0)], [.int .i64 r_27.1, .int .i64 r_29.1.Lo, .int .i64 r_29.1.Hi, .int .i64 r_31.1.Lo, .int .i64 r_31.1.Hi, .int .i64 r_32.1, .int .i64 0]], [(b_22.length, 7)]⟩) (by kernel_rfl) trivial ?_
              refine ExO.callL [0] [.ptr 0 0, .int .i64 3000] rfl rfl (by simp [ren, ren1, fadeS, fadeV, AV.plain, AV.plain1, AV.clean, List.idxOf?, List.findIdx?, List.findIdx?.go, cleanL, cleanI, cleanBo, cleanSt, cleanII, KL_bateriakit_Drum, KL_api_Span, KL_api_Load, KL_api_Float, A_bateriakit_Drum, C_bateriakit_Drum, A_api_Span, C_api_Span, A_api_Load, C_api_Load, A_api_Float, C_api_Float]; try rfl) rfl (by simp [cleanL, AV.clean, cleanL, cleanI, cleanBo, cleanSt, cleanII, KL_bateriakit_Drum, KL_api_Span, KL_api_Load, KL_api_Float, A_bateriakit_Drum, C_bateriakit_Drum, A_api_Span, C_api_Span, A_api_Load, C_api_Load, A_api_Float, C_api_Float]) (d_bateriakit_Drum_Roll N r_32.2 3000 r_44 hr_44) (b_bateriakit_Drum_Roll _ _ _ _) (by simp [cleanL, AV.clean, cleanL, cleanI, cleanBo, cleanSt, cleanII, KL_bateriakit_Drum, KL_api_Span, KL_api_Load, KL_api_Float, A_bateriakit_Drum, C_bateriakit_Drum, A_api_Span, C_api_Span, A_api_Load, C_api_Load, A_api_Float, C_api_Float]) ?_
              refine runH 2 [] [0, 4, 5, 6, 7] [] (mkS 91 [(0, .ptr 0 0), (4, .ptr 1 0), (5, .ptr 2 0), (6, .int .i64 i_20), (7, .ptr 3 0)]) (⟨[(C_bateriakit_Drum r_44.2), [.int .i64 0, .int .i64 0, .int .i64 0, .int .i64 0, .int .i64 0, .int .i64 0, .int .i64 0, .int .i64 0, .nils], [.int .i64 r_4.1, .int .i64 r_5.1, .int .i64 r_11.1, .int .i64 r_12.1, .int .i64 r_7.1, .int .i64 r_9.1, .int .i64 r_13.1, .int .i64 r_10.1, .sl (b_22.map A_api_Load) (some 0)], [.int .i64 r_27.1, .int .i64 r_29.1.Lo, .int .i64 r_29.1.Hi, .int .i64 r_31.1.Lo, .int .i64 r_31.1.Hi, .int .i64 r_32.1, .int .i64 r_44.1]], [(b_22.length, 7)]⟩) (by kernel_rfl) trivial ?_
              refine ExO.nil ?_
              (try simp only [reduceCtorEq, AEx.ex.injEq, Nat.reduceEqDiff, if_true, if_false])
              exact ⟨_, _, Forgets.refl _ _ _, r_44.2.beat_, r_44.1, h, rfl, rfl⟩
            · refine Ex.condF _ rfl hc_43 ?_
              refine Ex.skip ?_
              (try simp only [reduceCtorEq, AEx.ex.injEq, Nat.reduceEqDiff, if_true, if_false])
              exact ⟨_, _, forgetK [0, 4, 5, 6, 7], r_32.2.beat_, 0, h, rfl, rfl⟩
        · rintro a S ⟨b_33, b_34, h, rfl, rfl⟩
          subst hK_37
          obtain ⟨l_45, hl_45, h⟩ := Option.bind_eq_some_iff.1 h
          refine regH 7 [(4, .app (l_45.map A_api_Load) l_45.length)] [0, 4, 5, 6] [LApp b_22.length (b_22.map A_api_Load) (([(⟨r_27.1, r_29.1, r_31.1, r_32.1, b_34⟩ : T_api_Load)] : List T_api_Load).map A_api_Load) 7 (l_45.map A_api_Load) l_45.length] (mkS 91 [(0, .ptr 0 0), (4, .ptr 1 0), (5, .ptr 2 0), (6, .int .i64 i_20)]) (⟨[[.int .u64 b_33], [.int .i64 0, .int .i64 0, .int .i64 0, .int .i64 0, .int .i64 0, .int .i64 0, .int .i64 0, .int .i64 0, .nils], [.int .i64 r_4.1, .int .i64 r_5.1, .int .i64 r_11.1, .int .i64 r_12.1, .int .i64 r_7.1, .int .i64 r_9.1, .int .i64 r_13.1, .int .i64 r_10.1, .sl (l_45.map A_api_Load) (some 0)], [.int .i64 r_27.1, .int .i64 r_29.1.Lo, .int .i64 r_29.1.Hi, .int .i64 r_31.1.Lo, .int .i64 r_31.1.Hi, .int .i64 r_32.1, .int .i64 b_34]], [(l_45.length, 7), (1, 7)]⟩) (by kernel_rfl) ⟨LApp.of hl_45 (fun _ => rfl), trivial⟩ rfl ?_
          refine regH 3 [] [0, 4, 5, 6] [] (mkS 91 [(0, .ptr 0 0), (4, .ptr 1 0), (5, .ptr 2 0), (6, .int .i64 (IntKind.i64.wrap (i_20 - 1)))]) (⟨[[.int .u64 b_33], [.int .i64 0, .int .i64 0, .int .i64 0, .int .i64 0, .int .i64 0, .int .i64 0, .int .i64 0, .int .i64 0, .nils], [.int .i64 r_4.1, .int .i64 r_5.1, .int .i64 r_11.1, .int .i64 r_12.1, .int .i64 r_7.1, .int .i64 r_9.1, .int .i64 r_13.1, .int .i64 r_10.1, .sl (l_45.map A_api_Load) (some 0)], [.int .i64 r_27.1, .int .i64 r_29.1.Lo, .int .i64 r_29.1.Hi, .int .i64 r_31.1.Lo, .int .i64 r_31.1.Hi, .int .i64 r_32.1, .int .i64 b_34]], [(l_45.length, 7), (1, 7)]⟩) (by kernel_rfl) trivial rfl ?_
          dsimp only
          exact ⟨_, _, forgetA (m := 91) 3 [0] [(0, .ptr 0 0), (4, .ptr 1 0), (5, .ptr 2 0), (6, .int .i64 (IntKind.i64.wrap (i_20 - 1)))] [[.int .u64 b_33], [.int .i64 0, .int .i64 0, .int .i64 0, .int .i64 0, .int .i64 0, .int .i64 0, .int .i64 0, .int .i64 0, .nils], [.int .i64 r_4.1, .int .i64 r_5.1, .int .i64 r_11.1, .int .i64 r_12.1, .int .i64 r_7.1, .int .i64 r_9.1, .int .i64 r_13.1, .int .i64 r_10.1, .sl (l_45.map A_api_Load) (some 0)]] [(l_45.length, 7)] (by simp) (by simp) ⟨rfl, rfl, rfl, rfl, trivial⟩ (by simp [re, re1, AV.clean, List.idxOf?, List.findIdx?, List.findIdx?.go, cleanL, cleanI, cleanBo, cleanSt, cleanII, KL_bateriakit_Drum, KL_api_Span, KL_api_Load, KL_api_Float, KB_bateriakit_Drum, KB_api_Span, KB_api_Load, KB_api_Float]) rfl (by decide), k, Nat.lt_succ_self k, (IntKind.i64.wrap (i_20 - 1)), b_33, l_45, h, rfl, rfl⟩
      · refine Ex.condF _ rfl hc_26 ?_
        refine Ex.exit ?_
        (try simp only [reduceCtorEq, AEx.ex.injEq, Nat.reduceEqDiff, if_true, if_false])
        exact ⟨_, _, forgetK [4, 5], b_21, b_22, h, rfl, rfl⟩
  · rintro a S ⟨b_15, b_16, h, rfl, rfl⟩
    subst hK_19
    refine Ex.seq ?_
    refine regH 2 [] [4] [] (mkS 91 [(4, .ptr 1 0)]) (⟨[[.int .u64 b_15], [.int .i64 r_4.1, .int .i64 r_5.1, .int .i64 r_11.1, .int .i64 r_12.1, .int .i64 r_7.1, .int .i64 r_9.1, .int .i64 r_13.1, .int .i64 r_10.1, .sl (b_16.map A_api_Load) (some 0)], [.int .i64 r_4.1, .int .i64 r_5.1, .int .i64 r_11.1, .int .i64 r_12.1, .int .i64 r_7.1, .int .i64 r_9.1, .int .i64 r_13.1, .int .i64 r_10.1, .sl (b_16.map A_api_Load) (some 0)]], [(b_16.length, 7)]⟩) (by kernel_rfl) trivial rfl ?_
    refine Ex.ret ?_
    obtain rfl := Option.some.inj h
    exact ⟨.inr rfl, .agg [.int .i64 r_4.1, .int .i64 r_5.1, .int .i64 r_11.1, .int .i64 r_12.1, .int .i64 r_7.1, .int .i64 r_9.1, .int .i64 r_13.1, .int .i64 r_10.1, .sl (b_16.map A_api_Load) (some 0)], by kernel_rfl, by kernel_rfl, by kernel_rfl, by kernel_rfl⟩
def p_bateriakit_OwnFloat (N : Nat) (f_1 : T_api_Float) : Option (T_api_Float) := ((pushI ([] : List T_api_Load) f_1.Loads).bind fun l_2 => some (⟨f_1.Length, f_1.Width, f_1.Front, f_1.Rear, f_1.Turn, f_1.Kilos, f_1.Middle, f_1.High, l_2⟩ : T_api_Float))
def v_bateriakit_OwnFloat (r : T_api_Float) : AV := (A_api_Float r)
theorem a_bateriakit_OwnFloat (f_1 : T_api_Float) : [(A_api_Float f_1)].mapM (ren []) = some [(A_api_Float f_1)] := by simp [ren, ren1, AV.plain, AV.plain1, AV.clean, cleanL, cleanI, cleanBo, cleanSt, cleanII, KL_bateriakit_Drum, KL_api_Span, KL_api_Load, KL_api_Float, A_bateriakit_Drum, C_bateriakit_Drum, A_api_Span, C_api_Span, A_api_Load, C_api_Load, A_api_Float, C_api_Float]
theorem b_bateriakit_OwnFloat (r : T_api_Float) (n n2 m : Nat) : back n n2 m (v_bateriakit_OwnFloat r) = some (v_bateriakit_OwnFloat r) := by simp [v_bateriakit_OwnFloat, back, back1, AV.plain, AV.plain1, AV.clean, cleanL, cleanI, cleanBo, cleanSt, cleanII, KL_bateriakit_Drum, KL_api_Span, KL_api_Load, KL_api_Float, A_bateriakit_Drum, C_bateriakit_Drum, A_api_Span, C_api_Span, A_api_Load, C_api_Load, A_api_Float, C_api_Float]
theorem d_bateriakit_OwnFloat (N : Nat) (f_1 : T_api_Float) (r : T_api_Float) (h : p_bateriakit_OwnFloat N f_1 = some r) : Does Try.prog 12 [(A_api_Float f_1)] [] fun v c => v = v_bateriakit_OwnFloat r ∧ c = [] := by
  unfold p_bateriakit_OwnFloat at h
  refine Does.ofL comp12 _ _ rfl rfl ?_
  refine Ex.seq ?_
  refine regH 2 [] [1, 2] [] (mkS 9 [(1, .ptr 0 0), (2, .ptr 1 0)]) (⟨[(C_api_Float f_1), [.int .i64 0, .int .i64 0, .int .i64 0, .int .i64 0, .int .i64 0, .int .i64 0, .int .i64 0, .int .i64 0, .nils]], []⟩) (by kernel_rfl) trivial rfl ?_
  refine Ex.seq ?_
  obtain ⟨l_2, hl_2, h⟩ := Option.bind_eq_some_iff.1 h
  refine regH 6 [(3, .apps (f_1.Loads.map A_api_Load) (l_2.map A_api_Load) l_2.length)] [1, 2] [LApps 0 (([] : List T_api_Load).map A_api_Load) (f_1.Loads.map A_api_Load) (f_1.Loads.map A_api_Load) 7 (l_2.map A_api_Load) l_2.length] (mkS 9 [(1, .ptr 0 0), (2, .ptr 1 0)]) (⟨[[.int .i64 f_1.Length, .int .i64 f_1.Width, .int .i64 f_1.Front, .int .i64 f_1.Rear, .int .i64 f_1.Turn, .int .i64 f_1.Kilos, .int .i64 f_1.Middle, .int .i64 f_1.High, .sl (l_2.map A_api_Load) (some 0)], [.int .i64 0, .int .i64 0, .int .i64 0, .int .i64 0, .int .i64 0, .int .i64 0, .int .i64 0, .int .i64 0, .nils]], [(l_2.length, 7)]⟩) (by kernel_rfl) ⟨LApps.of hl_2 (fun _ => rfl) (fun _ => rfl) (fun _ => rfl), trivial⟩ rfl ?_
  refine Ex.seq ?_
  refine regH 2 [] [2] [] (mkS 9 [(2, .ptr 1 0)]) (⟨[[.int .i64 f_1.Length, .int .i64 f_1.Width, .int .i64 f_1.Front, .int .i64 f_1.Rear, .int .i64 f_1.Turn, .int .i64 f_1.Kilos, .int .i64 f_1.Middle, .int .i64 f_1.High, .sl (l_2.map A_api_Load) (some 0)], [.int .i64 f_1.Length, .int .i64 f_1.Width, .int .i64 f_1.Front, .int .i64 f_1.Rear, .int .i64 f_1.Turn, .int .i64 f_1.Kilos, .int .i64 f_1.Middle, .int .i64 f_1.High, .sl (l_2.map A_api_Load) (some 0)]], [(l_2.length, 7)]⟩) (by kernel_rfl) trivial rfl ?_
  refine Ex.ret ?_
  obtain rfl := Option.some.inj h
  exact ⟨.inr rfl, .agg [.int .i64 f_1.Length, .int .i64 f_1.Width, .int .i64 f_1.Front, .int .i64 f_1.Rear, .int .i64 f_1.Turn, .int .i64 f_1.Kilos, .int .i64 f_1.Middle, .int .i64 f_1.High, .sl (l_2.map A_api_Load) (some 0)], by kernel_rfl, by kernel_rfl, by kernel_rfl, by kernel_rfl⟩
def p_bateriaref02_within (N : Nat) (n_1 : Int) (low_2 : Int) (high_3 : Int) : Option (Bool) := (bif (decide (n_1 ≥ low_2)) then some (decide (n_1 ≤ high_3)) else some false)
def v_bateriaref02_within (r : Bool) : AV := .bool r
theorem a_bateriaref02_within (n_1 : Int) (low_2 : Int) (high_3 : Int) : [.int .i64 n_1, .int .i64 low_2, .int .i64 high_3].mapM (ren []) = some [.int .i64 n_1, .int .i64 low_2, .int .i64 high_3] := by simp [ren, ren1, AV.plain, AV.plain1, AV.clean, cleanL, cleanI, cleanBo, cleanSt, cleanII, KL_bateriakit_Drum, KL_api_Span, KL_api_Load, KL_api_Float, A_bateriakit_Drum, C_bateriakit_Drum, A_api_Span, C_api_Span, A_api_Load, C_api_Load, A_api_Float, C_api_Float]
theorem b_bateriaref02_within (r : Bool) (n n2 m : Nat) : back n n2 m (v_bateriaref02_within r) = some (v_bateriaref02_within r) := by simp [v_bateriaref02_within, back, back1, AV.plain, AV.plain1, AV.clean, cleanL, cleanI, cleanBo, cleanSt, cleanII, KL_bateriakit_Drum, KL_api_Span, KL_api_Load, KL_api_Float, A_bateriakit_Drum, C_bateriakit_Drum, A_api_Span, C_api_Span, A_api_Load, C_api_Load, A_api_Float, C_api_Float]
theorem d_bateriaref02_within (N : Nat) (n_1 : Int) (low_2 : Int) (high_3 : Int) (r : Bool) (h : p_bateriaref02_within N n_1 low_2 high_3 = some r) : Does Try.prog 74 [.int .i64 n_1, .int .i64 low_2, .int .i64 high_3] [] fun v c => v = v_bateriaref02_within r ∧ c = [] := by
  unfold p_bateriaref02_within at h
  refine Does.ofL comp74 _ _ rfl rfl ?_
  refine Ex.seq ?_
  refine regH 1 [] [0, 1, 2] [] (mkS 15 [(0, .int .i64 n_1), (1, .int .i64 low_2), (2, .int .i64 high_3)]) (⟨[], []⟩) (by kernel_rfl) trivial rfl ?_
  refine Ex.seq ?_
  rcases condI h with ⟨hc_4, h⟩ | ⟨hc_4, h⟩
  · refine regH 9 [(3, .eq (.bool true))] [6] [AV.bool (decide (n_1 ≥ low_2)) = AV.bool true] (mkS 15 [(6, .bool (decide (n_1 ≤ high_3)))]) (⟨[], []⟩) (by kernel_rfl) ⟨congrArg AV.bool hc_4, trivial⟩ rfl ?_
    refine Ex.ret ?_
    obtain rfl := Option.some.inj h
    exact ⟨.inr rfl, .bool (decide (n_1 ≤ high_3)), by kernel_rfl, by kernel_rfl, by kernel_rfl, by kernel_rfl⟩
  · refine regH 9 [(3, .eq (.bool false))] [6] [AV.bool (decide (n_1 ≥ low_2)) = AV.bool false] (mkS 15 [(6, .bool false)]) (⟨[], []⟩) (by kernel_rfl) ⟨congrArg AV.bool hc_4, trivial⟩ rfl ?_
    refine Ex.ret ?_
    obtain rfl := Option.some.inj h
    exact ⟨.inr rfl, .bool false, by kernel_rfl, by kernel_rfl, by kernel_rfl, by kernel_rfl⟩
def p_bateriaref02_checkSpan (N : Nat) (x_1 : T_api_Span) (limit_2 : Int) : Option (Int) := (letJ (fun (y_3 : Bool) => (bif y_3 then some 2 else (bif (decide (x_1.Lo > x_1.Hi)) then some 9 else some 0))) (fun k_4 => ((p_bateriaref02_within N x_1.Lo 0 limit_2).bind fun r_7 => (bif (!r_7) then (k_4 true) else ((p_bateriaref02_within N x_1.Hi 0 limit_2).bind fun r_9 => (k_4 (!r_9)))))))
def v_bateriaref02_checkSpan (r : Int) : AV := .int .i64 r
theorem a_bateriaref02_checkSpan (x_1 : T_api_Span) (limit_2 : Int) : [(A_api_Span x_1), .int .i64 limit_2].mapM (ren []) = some [(A_api_Span x_1), .int .i64 limit_2] := by simp [ren, ren1, AV.plain, AV.plain1, AV.clean, cleanL, cleanI, cleanBo, cleanSt, cleanII, KL_bateriakit_Drum, KL_api_Span, KL_api_Load, KL_api_Float, A_bateriakit_Drum, C_bateriakit_Drum, A_api_Span, C_api_Span, A_api_Load, C_api_Load, A_api_Float, C_api_Float]
theorem b_bateriaref02_checkSpan (r : Int) (n n2 m : Nat) : back n n2 m (v_bateriaref02_checkSpan r) = some (v_bateriaref02_checkSpan r) := by simp [v_bateriaref02_checkSpan, back, back1, AV.plain, AV.plain1, AV.clean, cleanL, cleanI, cleanBo, cleanSt, cleanII, KL_bateriakit_Drum, KL_api_Span, KL_api_Load, KL_api_Float, A_bateriakit_Drum, C_bateriakit_Drum, A_api_Span, C_api_Span, A_api_Load, C_api_Load, A_api_Float, C_api_Float]
theorem d_bateriaref02_checkSpan (N : Nat) (x_1 : T_api_Span) (limit_2 : Int) (r : Int) (h : p_bateriaref02_checkSpan N x_1 limit_2 = some r) : Does Try.prog 100 [(A_api_Span x_1), .int .i64 limit_2] [] fun v c => v = v_bateriaref02_checkSpan r ∧ c = [] := by
  unfold p_bateriaref02_checkSpan at h
  refine Does.ofL comp100 _ _ rfl rfl ?_
  refine Ex.seq ?_
  refine regH 2 [] [1, 2] [] (mkS 22 [(1, .int .i64 limit_2), (2, .ptr 0 0)]) (⟨[(C_api_Span x_1)], []⟩) (by kernel_rfl) trivial rfl ?_
  refine Ex.seq ?_
  obtain ⟨K_5, hK_6, h⟩ := letE h
  refine Ex.seqJ (fun a S => ∃ (y_3 : Bool), K_5 y_3 = some r ∧ a = mkS 22 [(2, .ptr 0 0), (16, .bool y_3)] ∧ S = ⟨[(C_api_Span x_1)], []⟩) ?_ ?_
  · obtain ⟨r_7, hr_7, h⟩ := Option.bind_eq_some_iff.1 h
    refine Ex.reg ?_
    refine runH 3 [] [1, 2, 6, 7] [] (mkS 22 [(1, .int .i64 limit_2), (2, .ptr 0 0), (6, .int .i64 x_1.Lo), (7, .int .i64 limit_2)]) (⟨[(C_api_Span x_1)], []⟩) (by kernel_rfl) trivial ?_
    refine ExO.callL [] [.int .i64 x_1.Lo, .int .i64 0, .int .i64 limit_2] rfl rfl (a_bateriaref02_within x_1.Lo 0 limit_2) rfl rfl (d_bateriaref02_within N x_1.Lo 0 limit_2 r_7 hr_7) (b_bateriaref02_within _ _ _ _) rfl ?_
    rcases condI h with ⟨hc_8, h⟩ | ⟨hc_8, h⟩
    · refine runH 8 [(1, .eq (.bool true))] [2, 16] [AV.bool (!r_7) = AV.bool true] (mkS 22 [(2, .ptr 0 0), (16, .bool true)]) (⟨[(C_api_Span x_1)], []⟩) (by kernel_rfl) ⟨congrArg AV.bool hc_8, trivial⟩ ?_
      refine ExO.nil ?_
      (try simp only [reduceCtorEq, AEx.ex.injEq, Nat.reduceEqDiff, if_true, if_false])
      exact ⟨_, _, Forgets.refl _ _ _, true, h, rfl, rfl⟩
    · obtain ⟨r_9, hr_9, h⟩ := Option.bind_eq_some_iff.1 h
      refine runH 5 [(1, .eq (.bool false))] [2, 10, 12, 13] [AV.bool (!r_7) = AV.bool false] (mkS 22 [(2, .ptr 0 0), (10, .bool false), (12, .int .i64 x_1.Hi), (13, .int .i64 limit_2)]) (⟨[(C_api_Span x_1)], []⟩) (by kernel_rfl) ⟨congrArg AV.bool hc_8, trivial⟩ ?_
      refine ExO.callL [] [.int .i64 x_1.Hi, .int .i64 0, .int .i64 limit_2] rfl rfl (a_bateriaref02_within x_1.Hi 0 limit_2) rfl rfl (d_bateriaref02_within N x_1.Hi 0 limit_2 r_9 hr_9) (b_bateriaref02_within _ _ _ _) rfl ?_
      refine runH 2 [] [2, 16] [] (mkS 22 [(2, .ptr 0 0), (16, .bool (!r_9))]) (⟨[(C_api_Span x_1)], []⟩) (by kernel_rfl) trivial ?_
      refine ExO.nil ?_
      (try simp only [reduceCtorEq, AEx.ex.injEq, Nat.reduceEqDiff, if_true, if_false])
      exact ⟨_, _, Forgets.refl _ _ _, (!r_9), h, rfl, rfl⟩
  · rintro a S ⟨y_3, h, rfl, rfl⟩
    subst hK_6
    rcases condI h with ⟨hc_10, h⟩ | ⟨hc_10, h⟩
    · refine Ex.condT _ rfl hc_10 ?_
      refine Ex.seq ?_
      refine regH 1 [] [4] [] (mkS 22 [(4, .int .i64 2)]) (⟨[(C_api_Span x_1)], []⟩) (by kernel_rfl) trivial rfl ?_
      refine Ex.ret ?_
      obtain rfl := Option.some.inj h
      exact ⟨.inr rfl, .int .i64 2, by kernel_rfl, by kernel_rfl, by kernel_rfl, by kernel_rfl⟩
    · refine Ex.condF _ rfl hc_10 ?_
      refine Ex.skip ?_
      refine Ex.seq ?_
      refine Ex.seq ?_
      refine regH 5 [] [21] [] (mkS 22 [(21, .bool (decide (x_1.Lo > x_1.Hi)))]) (⟨[(C_api_Span x_1)], []⟩) (by kernel_rfl) trivial rfl ?_
      rcases condI h with ⟨hc_11, h⟩ | ⟨hc_11, h⟩
      · refine Ex.condT _ rfl hc_11 ?_
        refine Ex.seq ?_
        refine regH 1 [] [4] [] (mkS 22 [(4, .int .i64 9)]) (⟨[(C_api_Span x_1)], []⟩) (by kernel_rfl) trivial rfl ?_
        refine Ex.ret ?_
        obtain rfl := Option.some.inj h
        exact ⟨.inr rfl, .int .i64 9, by kernel_rfl, by kernel_rfl, by kernel_rfl, by kernel_rfl⟩
      · refine Ex.condF _ rfl hc_11 ?_
        refine Ex.skip ?_
        refine Ex.seq ?_
        refine regH 1 [] [4] [] (mkS 22 [(4, .int .i64 0)]) (⟨[(C_api_Span x_1)], []⟩) (by kernel_rfl) trivial rfl ?_
        refine Ex.ret ?_
        obtain rfl := Option.some.inj h
        exact ⟨.inr rfl, .int .i64 0, by kernel_rfl, by kernel_rfl, by kernel_rfl, by kernel_rfl⟩
def p_bateriaref02_checkLoad (N : Nat) (f_1 : T_api_Float) (l_2 : T_api_Load) : Option (Int) := ((p_bateriaref02_within N l_2.At f_1.Front f_1.Rear).bind fun r_3 => (bif (!r_3) then some 2 else ((p_bateriaref02_checkSpan N l_2.Kilos 100000).bind fun r_5 => (bif (r_5 != 0) then some r_5 else ((p_bateriaref02_checkSpan N l_2.Top 2000).bind fun r_7 => (bif (r_7 != 0) then some r_7 else ((p_bateriaref02_within N l_2.Kind 1 4).bind fun r_9 => (bif (!r_9) then some 3 else ((p_bateriaref02_within N l_2.Watts 0 1000000).bind fun r_11 => (bif (!r_11) then some 2 else (letJ (fun (y_13 : Bool) => (bif y_13 then some 1 else some 0)) (fun k_14 => (bif (decide (l_2.Watts > 0)) then (bif (l_2.Kind != 2) then (k_14 (l_2.Kind != 3)) else (k_14 false)) else (k_14 false))))))))))))))
def v_bateriaref02_checkLoad (r : Int) : AV := .int .i64 r
theorem a_bateriaref02_checkLoad (f_1 : T_api_Float) (l_2 : T_api_Load) : [(A_api_Float f_1), (A_api_Load l_2)].mapM (ren []) = some [(A_api_Float f_1), (A_api_Load l_2)] := by simp [ren, ren1, AV.plain, AV.plain1, AV.clean, cleanL, cleanI, cleanBo, cleanSt, cleanII, KL_bateriakit_Drum, KL_api_Span, KL_api_Load, KL_api_Float, A_bateriakit_Drum, C_bateriakit_Drum, A_api_Span, C_api_Span, A_api_Load, C_api_Load, A_api_Float, C_api_Float]
theorem b_bateriaref02_checkLoad (r : Int) (n n2 m : Nat) : back n n2 m (v_bateriaref02_checkLoad r) = some (v_bateriaref02_checkLoad r) := by simp [v_bateriaref02_checkLoad, back, back1, AV.plain, AV.plain1, AV.clean, cleanL, cleanI, cleanBo, cleanSt, cleanII, KL_bateriakit_Drum, KL_api_Span, KL_api_Load, KL_api_Float, A_bateriakit_Drum, C_bateriakit_Drum, A_api_Span, C_api_Span, A_api_Load, C_api_Load, A_api_Float, C_api_Float]
theorem d_bateriaref02_checkLoad (N : Nat) (f_1 : T_api_Float) (l_2 : T_api_Load) (r : Int) (h : p_bateriaref02_checkLoad N f_1 l_2 = some r) : Does Try.prog 75 [(A_api_Float f_1), (A_api_Load l_2)] [] fun v c => v = v_bateriaref02_checkLoad r ∧ c = [] := by
  unfold p_bateriaref02_checkLoad at h
  refine Does.ofL comp75 _ _ rfl rfl ?_
  refine Ex.seq ?_
  refine regH 3 [] [2, 3] [] (mkS 48 [(2, .ptr 0 0), (3, .ptr 1 0)]) (⟨[(C_api_Float f_1), (C_api_Load l_2)], []⟩) (by kernel_rfl) trivial rfl ?_
  refine Ex.seq ?_
  refine Ex.seq ?_
  obtain ⟨r_3, hr_3, h⟩ := Option.bind_eq_some_iff.1 h
  refine Ex.reg ?_
  refine runH 6 [] [3, 8, 10, 12] [] (mkS 48 [(3, .ptr 1 0), (8, .int .i64 l_2.At), (10, .int .i64 f_1.Front), (12, .int .i64 f_1.Rear)]) (⟨[(C_api_Float f_1), (C_api_Load l_2)], []⟩) (by kernel_rfl) trivial ?_
  refine ExO.callL [] [.int .i64 l_2.At, .int .i64 f_1.Front, .int .i64 f_1.Rear] rfl rfl (a_bateriaref02_within l_2.At f_1.Front f_1.Rear) rfl rfl (d_bateriaref02_within N l_2.At f_1.Front f_1.Rear r_3 hr_3) (b_bateriaref02_within _ _ _ _) rfl ?_
  refine runH 1 [] [3, 14] [] (mkS 48 [(3, .ptr 1 0), (14, .bool (!r_3))]) (⟨[(C_api_Float f_1), (C_api_Load l_2)], []⟩) (by kernel_rfl) trivial ?_
  refine ExO.nil ?_
  rcases condI h with ⟨hc_4, h⟩ | ⟨hc_4, h⟩
  · refine Ex.condT _ rfl hc_4 ?_
    refine Ex.seq ?_
    refine regH 1 [] [4] [] (mkS 48 [(4, .int .i64 2)]) (⟨[(C_api_Float f_1), (C_api_Load l_2)], []⟩) (by kernel_rfl) trivial rfl ?_
    refine Ex.ret ?_
    obtain rfl := Option.some.inj h
    exact ⟨.inr rfl, .int .i64 2, by kernel_rfl, by kernel_rfl, by kernel_rfl, by kernel_rfl⟩
  · refine Ex.condF _ rfl hc_4 ?_
    refine Ex.skip ?_
    refine Ex.seq ?_
    refine Ex.seq ?_
    obtain ⟨r_5, hr_5, h⟩ := Option.bind_eq_some_iff.1 h
    refine Ex.reg ?_
    refine runH 2 [] [3, 16] [] (mkS 48 [(3, .ptr 1 0), (16, (A_api_Span l_2.Kilos))]) (⟨[(C_api_Float f_1), (C_api_Load l_2)], []⟩) (by kernel_rfl) trivial ?_
    refine ExO.callL [] [(A_api_Span l_2.Kilos), .int .i64 100000] rfl rfl (a_bateriaref02_checkSpan l_2.Kilos 100000) rfl rfl (d_bateriaref02_checkSpan N l_2.Kilos 100000 r_5 hr_5) (b_bateriaref02_checkSpan _ _ _ _) rfl ?_
    refine runH 1 [] [3, 5] [] (mkS 48 [(3, .ptr 1 0), (5, .int .i64 r_5)]) (⟨[(C_api_Float f_1), (C_api_Load l_2)], []⟩) (by kernel_rfl) trivial ?_
    refine ExO.nil ?_
    refine Ex.seq ?_
    refine regH 2 [] [3, 5, 19] [] (mkS 48 [(3, .ptr 1 0), (5, .int .i64 r_5), (19, .bool (r_5 != 0))]) (⟨[(C_api_Float f_1), (C_api_Load l_2)], []⟩) (by kernel_rfl) trivial rfl ?_
    rcases condI h with ⟨hc_6, h⟩ | ⟨hc_6, h⟩
    · refine Ex.condT _ rfl hc_6 ?_
      refine Ex.seq ?_
      refine regH 2 [] [4] [] (mkS 48 [(4, .int .i64 r_5)]) (⟨[(C_api_Float f_1), (C_api_Load l_2)], []⟩) (by kernel_rfl) trivial rfl ?_
      refine Ex.ret ?_
      obtain rfl := Option.some.inj h
      exact ⟨.inr rfl, .int .i64 r_5, by kernel_rfl, by kernel_rfl, by kernel_rfl, by kernel_rfl⟩
    · refine Ex.condF _ rfl hc_6 ?_
      refine Ex.skip ?_
      refine Ex.seq ?_
      refine Ex.seq ?_
      obtain ⟨r_7, hr_7, h⟩ := Option.bind_eq_some_iff.1 h
      refine Ex.reg ?_
      refine runH 2 [] [3, 22] [] (mkS 48 [(3, .ptr 1 0), (22, (A_api_Span l_2.Top))]) (⟨[(C_api_Float f_1), (C_api_Load l_2)], []⟩) (by kernel_rfl) trivial ?_
      refine ExO.callL [] [(A_api_Span l_2.Top), .int .i64 2000] rfl rfl (a_bateriaref02_checkSpan l_2.Top 2000) rfl rfl (d_bateriaref02_checkSpan N l_2.Top 2000 r_7 hr_7) (b_bateriaref02_checkSpan _ _ _ _) rfl ?_
      refine runH 1 [] [3, 6] [] (mkS 48 [(3, .ptr 1 0), (6, .int .i64 r_7)]) (⟨[(C_api_Float f_1), (C_api_Load l_2)], []⟩) (by kernel_rfl) trivial ?_
      refine ExO.nil ?_
      refine Ex.seq ?_
      refine regH 2 [] [3, 6, 25] [] (mkS 48 [(3, .ptr 1 0), (6, .int .i64 r_7), (25, .bool (r_7 != 0))]) (⟨[(C_api_Float f_1), (C_api_Load l_2)], []⟩) (by kernel_rfl) trivial rfl ?_
      rcases condI h with ⟨hc_8, h⟩ | ⟨hc_8, h⟩
      · refine Ex.condT _ rfl hc_8 ?_
        refine Ex.seq ?_
        refine regH 2 [] [4] [] (mkS 48 [(4, .int .i64 r_7)]) (⟨[(C_api_Float f_1), (C_api_Load l_2)], []⟩) (by kernel_rfl) trivial rfl ?_
        refine Ex.ret ?_
        obtain rfl := Option.some.inj h
        exact ⟨.inr rfl, .int .i64 r_7, by kernel_rfl, by kernel_rfl, by kernel_rfl, by kernel_rfl⟩
      · refine Ex.condF _ rfl hc_8 ?_
        refine Ex.skip ?_
        refine Ex.seq ?_
        refine Ex.seq ?_
        obtain ⟨r_9, hr_9, h⟩ := Option.bind_eq_some_iff.1 h
        refine Ex.reg ?_
        refine runH 2 [] [3, 28] [] (mkS 48 [(3, .ptr 1 0), (28, .int .i64 l_2.Kind)]) (⟨[(C_api_Float f_1), (C_api_Load l_2)], []⟩) (by kernel_rfl) trivial ?_
        refine ExO.callL [] [.int .i64 l_2.Kind, .int .i64 1, .int .i64 4] rfl rfl (a_bateriaref02_within l_2.Kind 1 4) rfl rfl (d_bateriaref02_within N l_2.Kind 1 4 r_9 hr_9) (b_bateriaref02_within _ _ _ _) rfl ?_
        refine runH 1 [] [3, 30] [] (mkS 48 [(3, .ptr 1 0), (30, .bool (!r_9))]) (⟨[(C_api_Float f_1), (C_api_Load l_2)], []⟩) (by kernel_rfl) trivial ?_
        refine ExO.nil ?_
        rcases condI h with ⟨hc_10, h⟩ | ⟨hc_10, h⟩
        · refine Ex.condT _ rfl hc_10 ?_
          refine Ex.seq ?_
          refine regH 1 [] [4] [] (mkS 48 [(4, .int .i64 3)]) (⟨[(C_api_Float f_1), (C_api_Load l_2)], []⟩) (by kernel_rfl) trivial rfl ?_
          refine Ex.ret ?_
          obtain rfl := Option.some.inj h
          exact ⟨.inr rfl, .int .i64 3, by kernel_rfl, by kernel_rfl, by kernel_rfl, by kernel_rfl⟩
        · refine Ex.condF _ rfl hc_10 ?_
          refine Ex.skip ?_
          refine Ex.seq ?_
          refine Ex.seq ?_
          obtain ⟨r_11, hr_11, h⟩ := Option.bind_eq_some_iff.1 h
          refine Ex.reg ?_
          refine runH 2 [] [3, 32] [] (mkS 48 [(3, .ptr 1 0), (32, .int .i64 l_2.Watts)]) (⟨[(C_api_Float f_1), (C_api_Load l_2)], []⟩) (by kernel_rfl) trivial ?_
          refine ExO.callL [] [.int .i64 l_2.Watts, .int .i64 0, .int .i64 1000000] rfl rfl (a_bateriaref02_within l_2.Watts 0 1000000) rfl rfl (d_bateriaref02_within N l_2.Watts 0 1000000 r_11 hr_11) (b_bateriaref02_within _ _ _ _) rfl ?_
          refine runH 1 [] [3, 34] [] (mkS 48 [(3, .ptr 1 0), (34, .bool (!r_11))]) (⟨[(C_api_Float f_1), (C_api_Load l_2)], []⟩) (by kernel_rfl) trivial ?_
          refine ExO.nil ?_
          rcases condI h with ⟨hc_12, h⟩ | ⟨hc_12, h⟩
          · refine Ex.condT _ rfl hc_12 ?_
            refine Ex.seq ?_
            refine regH 1 [] [4] [] (mkS 48 [(4, .int .i64 2)]) (⟨[(C_api_Float f_1), (C_api_Load l_2)], []⟩) (by kernel_rfl) trivial rfl ?_
            refine Ex.ret ?_
            obtain rfl := Option.some.inj h
            exact ⟨.inr rfl, .int .i64 2, by kernel_rfl, by kernel_rfl, by kernel_rfl, by kernel_rfl⟩
          · refine Ex.condF _ rfl hc_12 ?_
            refine Ex.skip ?_
            refine Ex.seq ?_
            obtain ⟨K_15, hK_16, h⟩ := letE h
            refine Ex.seqJ (fun a S => ∃ (y_13 : Bool), K_15 y_13 = some r ∧ a = mkS 48 [(47, .bool y_13)] ∧ S = ⟨[], []⟩) ?_ ?_
            · rcases condI h with ⟨hc_17, h⟩ | ⟨hc_17, h⟩
              · rcases condI h with ⟨hc_18, h⟩ | ⟨hc_18, h⟩
                · refine regH 13 [(3, .eq (.bool true)), (8, .eq (.bool true))] [47] [AV.bool (decide (l_2.Watts > 0)) = AV.bool true, AV.bool (l_2.Kind != 2) = AV.bool true] (mkS 48 [(47, .bool (l_2.Kind != 3))]) (⟨[(C_api_Float f_1), (C_api_Load l_2)], []⟩) (by kernel_rfl) ⟨congrArg AV.bool hc_17, congrArg AV.bool hc_18, trivial⟩ rfl ?_
                  (try simp only [reduceCtorEq, AEx.ex.injEq, Nat.reduceEqDiff, if_true, if_false])
                  exact ⟨_, _, forgetA (m := 48) 0 [] [(47, .bool (l_2.Kind != 3))] [] [] (by simp) (by simp) ⟨rfl, trivial⟩ (by simp [re, re1, AV.clean, List.idxOf?, List.findIdx?, List.findIdx?.go, cleanL, cleanI, cleanBo, cleanSt, cleanII, KL_bateriakit_Drum, KL_api_Span, KL_api_Load, KL_api_Float, KB_bateriakit_Drum, KB_api_Span, KB_api_Load, KB_api_Float]) rfl (by decide), (l_2.Kind != 3), h, rfl, rfl⟩
                · refine regH 13 [(3, .eq (.bool true)), (8, .eq (.bool false))] [47] [AV.bool (decide (l_2.Watts > 0)) = AV.bool true, AV.bool (l_2.Kind != 2) = AV.bool false] (mkS 48 [(47, .bool false)]) (⟨[(C_api_Float f_1), (C_api_Load l_2)], []⟩) (by kernel_rfl) ⟨congrArg AV.bool hc_17, congrArg AV.bool hc_18, trivial⟩ rfl ?_
                  (try simp only [reduceCtorEq, AEx.ex.injEq, Nat.reduceEqDiff, if_true, if_false])
                  exact ⟨_, _, forgetA (m := 48) 0 [] [(47, .bool false)] [] [] (by simp) (by simp) ⟨rfl, trivial⟩ (by simp [re, re1, AV.clean, List.idxOf?, List.findIdx?, List.findIdx?.go, cleanL, cleanI, cleanBo, cleanSt, cleanII, KL_bateriakit_Drum, KL_api_Span, KL_api_Load, KL_api_Float, KB_bateriakit_Drum, KB_api_Span, KB_api_Load, KB_api_Float]) rfl (by decide), false, h, rfl, rfl⟩
              · refine regH 13 [(3, .eq (.bool false))] [47] [AV.bool (decide (l_2.Watts > 0)) = AV.bool false] (mkS 48 [(47, .bool false)]) (⟨[(C_api_Float f_1), (C_api_Load l_2)], []⟩) (by kernel_rfl) ⟨congrArg AV.bool hc_17, trivial⟩ rfl ?_
                (try simp only [reduceCtorEq, AEx.ex.injEq, Nat.reduceEqDiff, if_true, if_false])
                exact ⟨_, _, forgetA (m := 48) 0 [] [(47, .bool false)] [] [] (by simp) (by simp) ⟨rfl, trivial⟩ (by simp [re, re1, AV.clean, List.idxOf?, List.findIdx?, List.findIdx?.go, cleanL, cleanI, cleanBo, cleanSt, cleanII, KL_bateriakit_Drum, KL_api_Span, KL_api_Load, KL_api_Float, KB_bateriakit_Drum, KB_api_Span, KB_api_Load, KB_api_Float]) rfl (by decide), false, h, rfl, rfl⟩
            · rintro a S ⟨y_13, h, rfl, rfl⟩
              subst hK_16
              rcases condI h with ⟨hc_19, h⟩ | ⟨hc_19, h⟩
              · refine Ex.condT _ rfl hc_19 ?_
                refine Ex.seq ?_
                refine regH 1 [] [4] [] (mkS 48 [(4, .int .i64 1)]) (⟨[], []⟩) (by kernel_rfl) trivial rfl ?_
                refine Ex.ret ?_
                obtain rfl := Option.some.inj h
                exact ⟨.inr rfl, .int .i64 1, by kernel_rfl, by kernel_rfl, by kernel_rfl, by kernel_rfl⟩
              · refine Ex.condF _ rfl hc_19 ?_
                refine Ex.skip ?_
                refine Ex.seq ?_
                refine regH 1 [] [4] [] (mkS 48 [(4, .int .i64 0)]) (⟨[], []⟩) (by kernel_rfl) trivial rfl ?_
                refine Ex.ret ?_
                obtain rfl := Option.some.inj h
                exact ⟨.inr rfl, .int .i64 0, by kernel_rfl, by kernel_rfl, by kernel_rfl, by kernel_rfl⟩
def p_bateriaref02_Check (N : Nat) (f_1 : T_api_Float) : Option (Int) := (letJ (fun (y_2 : Bool) => (bif y_2 then some 2 else (bif (decide (f_1.Front ≥ f_1.Rear)) then some 9 else (letJ (fun (y_15 : Bool) => (bif y_15 then some 2 else (bif (decide (((f_1.Loads.length : Nat) : Int) > 20)) then some 5 else (letJ (fun (_ : Unit) => some 0) (fun k_28 => (loop1 (fun rec_32 (i_31 : Int) => (bif (decide (i_31 < ((f_1.Loads.length : Nat) : Int))) then ((getI f_1.Loads i_31).bind fun x_36 => ((p_bateriaref02_checkLoad N f_1 x_36).bind fun r_37 => (bif (r_37 != 0) then some r_37 else (rec_32 (IntKind.i64.wrap (i_31 + 1)))))) else (k_28 ()))) N 0)))))) (fun k_16 => ((p_bateriaref02_within N f_1.Turn 0 20000).bind fun r_19 => (bif (!r_19) then (k_16 true) else ((p_bateriaref02_within N f_1.Kilos 0 100000).bind fun r_21 => (bif (!r_21) then (k_16 true) else ((p_bateriaref02_within N f_1.Middle 0 f_1.Length).bind fun r_23 => (bif (!r_23) then (k_16 true) else ((p_bateriaref02_within N f_1.High 0 2000).bind fun r_25 => (k_16 (!r_25)))))))))))))) (fun k_3 => ((p_bateriaref02_within N f_1.Length 1 3000).bind fun r_6 => (bif (!r_6) then (k_3 true) else ((p_bateriaref02_within N f_1.Width 1 1000).bind fun r_8 => (bif (!r_8) then (k_3 true) else ((p_bateriaref02_within N f_1.Front 0 f_1.Length).bind fun r_10 => (bif (!r_10) then (k_3 true) else ((p_bateriaref02_within N f_1.Rear 0 f_1.Length).bind fun r_12 => (k_3 (!r_12)))))))))))
def v_bateriaref02_Check (r : Int) : AV := .int .i64 r
theorem a_bateriaref02_Check (f_1 : T_api_Float) : [(A_api_Float f_1)].mapM (ren []) = some [(A_api_Float f_1)] := by simp [ren, ren1, AV.plain, AV.plain1, AV.clean, cleanL, cleanI, cleanBo, cleanSt, cleanII, KL_bateriakit_Drum, KL_api_Span, KL_api_Load, KL_api_Float, A_bateriakit_Drum, C_bateriakit_Drum, A_api_Span, C_api_Span, A_api_Load, C_api_Load, A_api_Float, C_api_Float]
theorem b_bateriaref02_Check (r : Int) (n n2 m : Nat) : back n n2 m (v_bateriaref02_Check r) = some (v_bateriaref02_Check r) := by simp [v_bateriaref02_Check, back, back1, AV.plain, AV.plain1, AV.clean, cleanL, cleanI, cleanBo, cleanSt, cleanII, KL_bateriakit_Drum, KL_api_Span, KL_api_Load, KL_api_Float, A_bateriakit_Drum, C_bateriakit_Drum, A_api_Span, C_api_Span, A_api_Load, C_api_Load, A_api_Float, C_api_Float]
theorem d_bateriaref02_Check (N : Nat) (f_1 : T_api_Float) (r : Int) (h : p_bateriaref02_Check N f_1 = some r) : Does Try.prog 23 [(A_api_Float f_1)] [] fun v c => v = v_bateriaref02_Check r ∧ c = [] := by
  unfold p_bateriaref02_Check at h
  refine Does.ofL comp23 _ _ rfl rfl ?_
  refine Ex.seq ?_
  refine regH 2 [] [1] [] (mkS 81 [(1, .ptr 0 0)]) (⟨[(C_api_Float f_1)], []⟩) (by kernel_rfl) trivial rfl ?_
  refine Ex.seq ?_
  obtain ⟨K_4, hK_5, h⟩ := letE h
  refine Ex.seqJ (fun a S => ∃ (y_2 : Bool), K_4 y_2 = some r ∧ a = mkS 81 [(1, .ptr 0 0), (30, .bool y_2)] ∧ S = ⟨[(C_api_Float f_1)], []⟩) ?_ ?_
  · obtain ⟨r_6, hr_6, h⟩ := Option.bind_eq_some_iff.1 h
    refine Ex.reg ?_
    refine runH 2 [] [1, 6] [] (mkS 81 [(1, .ptr 0 0), (6, .int .i64 f_1.Length)]) (⟨[(C_api_Float f_1)], []⟩) (by kernel_rfl) trivial ?_
    refine ExO.callL [] [.int .i64 f_1.Length, .int .i64 1, .int .i64 3000] rfl rfl (a_bateriaref02_within f_1.Length 1 3000) rfl rfl (d_bateriaref02_within N f_1.Length 1 3000 r_6 hr_6) (b_bateriaref02_within _ _ _ _) rfl ?_
    rcases condI h with ⟨hc_7, h⟩ | ⟨hc_7, h⟩
    · refine runH 23 [(1, .eq (.bool true))] [1, 30] [AV.bool (!r_6) = AV.bool true] (mkS 81 [(1, .ptr 0 0), (30, .bool true)]) (⟨[(C_api_Float f_1)], []⟩) (by kernel_rfl) ⟨congrArg AV.bool hc_7, trivial⟩ ?_
      refine ExO.nil ?_
      (try simp only [reduceCtorEq, AEx.ex.injEq, Nat.reduceEqDiff, if_true, if_false])
      exact ⟨_, _, Forgets.refl _ _ _, true, h, rfl, rfl⟩
    · obtain ⟨r_8, hr_8, h⟩ := Option.bind_eq_some_iff.1 h
      refine runH 4 [(1, .eq (.bool false))] [1, 9, 11] [AV.bool (!r_6) = AV.bool false] (mkS 81 [(1, .ptr 0 0), (9, .bool false), (11, .int .i64 f_1.Width)]) (⟨[(C_api_Float f_1)], []⟩) (by kernel_rfl) ⟨congrArg AV.bool hc_7, trivial⟩ ?_
      refine ExO.callL [] [.int .i64 f_1.Width, .int .i64 1, .int .i64 1000] rfl rfl (a_bateriaref02_within f_1.Width 1 1000) rfl rfl (d_bateriaref02_within N f_1.Width 1 1000 r_8 hr_8) (b_bateriaref02_within _ _ _ _) rfl ?_
      rcases condI h with ⟨hc_9, h⟩ | ⟨hc_9, h⟩
      · refine runH 18 [(2, .eq (.bool true))] [1, 30] [AV.bool (!r_8) = AV.bool true] (mkS 81 [(1, .ptr 0 0), (30, .bool true)]) (⟨[(C_api_Float f_1)], []⟩) (by kernel_rfl) ⟨congrArg AV.bool hc_9, trivial⟩ ?_
        refine ExO.nil ?_
        (try simp only [reduceCtorEq, AEx.ex.injEq, Nat.reduceEqDiff, if_true, if_false])
        exact ⟨_, _, Forgets.refl _ _ _, true, h, rfl, rfl⟩
      · obtain ⟨r_10, hr_10, h⟩ := Option.bind_eq_some_iff.1 h
        refine runH 7 [(2, .eq (.bool false))] [1, 15, 17, 19] [AV.bool (!r_8) = AV.bool false] (mkS 81 [(1, .ptr 0 0), (15, .bool false), (17, .int .i64 f_1.Front), (19, .int .i64 f_1.Length)]) (⟨[(C_api_Float f_1)], []⟩) (by kernel_rfl) ⟨congrArg AV.bool hc_9, trivial⟩ ?_
        refine ExO.callL [] [.int .i64 f_1.Front, .int .i64 0, .int .i64 f_1.Length] rfl rfl (a_bateriaref02_within f_1.Front 0 f_1.Length) rfl rfl (d_bateriaref02_within N f_1.Front 0 f_1.Length r_10 hr_10) (b_bateriaref02_within _ _ _ _) rfl ?_
        rcases condI h with ⟨hc_11, h⟩ | ⟨hc_11, h⟩
        · refine runH 10 [(2, .eq (.bool true))] [1, 30] [AV.bool (!r_10) = AV.bool true] (mkS 81 [(1, .ptr 0 0), (30, .bool true)]) (⟨[(C_api_Float f_1)], []⟩) (by kernel_rfl) ⟨congrArg AV.bool hc_11, trivial⟩ ?_
          refine ExO.nil ?_
          (try simp only [reduceCtorEq, AEx.ex.injEq, Nat.reduceEqDiff, if_true, if_false])
          exact ⟨_, _, Forgets.refl _ _ _, true, h, rfl, rfl⟩
        · obtain ⟨r_12, hr_12, h⟩ := Option.bind_eq_some_iff.1 h
          refine runH 7 [(2, .eq (.bool false))] [1, 23, 25, 27] [AV.bool (!r_10) = AV.bool false] (mkS 81 [(1, .ptr 0 0), (23, .bool false), (25, .int .i64 f_1.Rear), (27, .int .i64 f_1.Length)]) (⟨[(C_api_Float f_1)], []⟩) (by kernel_rfl) ⟨congrArg AV.bool hc_11, trivial⟩ ?_
          refine ExO.callL [] [.int .i64 f_1.Rear, .int .i64 0, .int .i64 f_1.Length] rfl rfl (a_bateriaref02_within f_1.Rear 0 f_1.Length) rfl rfl (d_bateriaref02_within N f_1.Rear 0 f_1.Length r_12 hr_12) (b_bateriaref02_within _ _ _ _) rfl ?_
          refine runH 2 [] [1, 30] [] (mkS 81 [(1, .ptr 0 0), (30, .bool (!r_12))]) (⟨[(C_api_Float f_1)], []⟩) (by kernel_rfl) trivial ?_
          refine ExO.nil ?_
          (try simp only [reduceCtorEq, AEx.ex.injEq, Nat.reduceEqDiff, if_true, if_false])
          exact ⟨_, _, Forgets.refl _ _ _, (!r_12), h, rfl, rfl⟩
  · rintro a S ⟨y_2, h, rfl, rfl⟩
    subst hK_5
    rcases condI h with ⟨hc_13, h⟩ | ⟨hc_13, h⟩
    · refine Ex.condT _ rfl hc_13 ?_
      refine Ex.seq ?_
      refine regH 1 [] [2] [] (mkS 81 [(2, .int .i64 2)]) (⟨[(C_api_Float f_1)], []⟩) (by kernel_rfl) trivial rfl ?_
      refine Ex.ret ?_
      obtain rfl := Option.some.inj h
      exact ⟨.inr rfl, .int .i64 2, by kernel_rfl, by kernel_rfl, by kernel_rfl, by kernel_rfl⟩
    · refine Ex.condF _ rfl hc_13 ?_
      refine Ex.skip ?_
      refine Ex.seq ?_
      refine Ex.seq ?_
      refine regH 5 [] [1, 35] [] (mkS 81 [(1, .ptr 0 0), (35, .bool (decide (f_1.Front ≥ f_1.Rear)))]) (⟨[(C_api_Float f_1)], []⟩) (by kernel_rfl) trivial rfl ?_
      rcases condI h with ⟨hc_14, h⟩ | ⟨hc_14, h⟩
      · refine Ex.condT _ rfl hc_14 ?_
        refine Ex.seq ?_
        refine regH 1 [] [2] [] (mkS 81 [(2, .int .i64 9)]) (⟨[(C_api_Float f_1)], []⟩) (by kernel_rfl) trivial rfl ?_
        refine Ex.ret ?_
        obtain rfl := Option.some.inj h
        exact ⟨.inr rfl, .int .i64 9, by kernel_rfl, by kernel_rfl, by kernel_rfl, by kernel_rfl⟩
      · refine Ex.condF _ rfl hc_14 ?_
        refine Ex.skip ?_
        refine Ex.seq ?_
        obtain ⟨K_17, hK_18, h⟩ := letE h
        refine Ex.seqJ (fun a S => ∃ (y_15 : Bool), K_17 y_15 = some r ∧ a = mkS 81 [(1, .ptr 0 0), (59, .bool y_15)] ∧ S = ⟨[(C_api_Float f_1)], []⟩) ?_ ?_
        · obtain ⟨r_19, hr_19, h⟩ := Option.bind_eq_some_iff.1 h
          refine Ex.reg ?_
          refine runH 2 [] [1, 37] [] (mkS 81 [(1, .ptr 0 0), (37, .int .i64 f_1.Turn)]) (⟨[(C_api_Float f_1)], []⟩) (by kernel_rfl) trivial ?_
          refine ExO.callL [] [.int .i64 f_1.Turn, .int .i64 0, .int .i64 20000] rfl rfl (a_bateriaref02_within f_1.Turn 0 20000) rfl rfl (d_bateriaref02_within N f_1.Turn 0 20000 r_19 hr_19) (b_bateriaref02_within _ _ _ _) rfl ?_
          rcases condI h with ⟨hc_20, h⟩ | ⟨hc_20, h⟩
          · refine runH 21 [(1, .eq (.bool true))] [1, 59] [AV.bool (!r_19) = AV.bool true] (mkS 81 [(1, .ptr 0 0), (59, .bool true)]) (⟨[(C_api_Float f_1)], []⟩) (by kernel_rfl) ⟨congrArg AV.bool hc_20, trivial⟩ ?_
            refine ExO.nil ?_
            (try simp only [reduceCtorEq, AEx.ex.injEq, Nat.reduceEqDiff, if_true, if_false])
            exact ⟨_, _, Forgets.refl _ _ _, true, h, rfl, rfl⟩
          · obtain ⟨r_21, hr_21, h⟩ := Option.bind_eq_some_iff.1 h
            refine runH 4 [(1, .eq (.bool false))] [1, 40, 42] [AV.bool (!r_19) = AV.bool false] (mkS 81 [(1, .ptr 0 0), (40, .bool false), (42, .int .i64 f_1.Kilos)]) (⟨[(C_api_Float f_1)], []⟩) (by kernel_rfl) ⟨congrArg AV.bool hc_20, trivial⟩ ?_
            refine ExO.callL [] [.int .i64 f_1.Kilos, .int .i64 0, .int .i64 100000] rfl rfl (a_bateriaref02_within f_1.Kilos 0 100000) rfl rfl (d_bateriaref02_within N f_1.Kilos 0 100000 r_21 hr_21) (b_bateriaref02_within _ _ _ _) rfl ?_
            rcases condI h with ⟨hc_22, h⟩ | ⟨hc_22, h⟩
            · refine runH 16 [(2, .eq (.bool true))] [1, 59] [AV.bool (!r_21) = AV.bool true] (mkS 81 [(1, .ptr 0 0), (59, .bool true)]) (⟨[(C_api_Float f_1)], []⟩) (by kernel_rfl) ⟨congrArg AV.bool hc_22, trivial⟩ ?_
              refine ExO.nil ?_
              (try simp only [reduceCtorEq, AEx.ex.injEq, Nat.reduceEqDiff, if_true, if_false])
              exact ⟨_, _, Forgets.refl _ _ _, true, h, rfl, rfl⟩
            · obtain ⟨r_23, hr_23, h⟩ := Option.bind_eq_some_iff.1 h
              refine runH 7 [(2, .eq (.bool false))] [1, 46, 48, 50] [AV.bool (!r_21) = AV.bool false] (mkS 81 [(1, .ptr 0 0), (46, .bool false), (48, .int .i64 f_1.Middle), (50, .int .i64 f_1.Length)]) (⟨[(C_api_Float f_1)], []⟩) (by kernel_rfl) ⟨congrArg AV.bool hc_22, trivial⟩ ?_
              refine ExO.callL [] [.int .i64 f_1.Middle, .int .i64 0, .int .i64 f_1.Length] rfl rfl (a_bateriaref02_within f_1.Middle 0 f_1.Length) rfl rfl (d_bateriaref02_within N f_1.Middle 0 f_1.Length r_23 hr_23) (b_bateriaref02_within _ _ _ _) rfl ?_
              rcases condI h with ⟨hc_24, h⟩ | ⟨hc_24, h⟩
              · refine runH 8 [(2, .eq (.bool true))] [1, 59] [AV.bool (!r_23) = AV.bool true] (mkS 81 [(1, .ptr 0 0), (59, .bool true)]) (⟨[(C_api_Float f_1)], []⟩) (by kernel_rfl) ⟨congrArg AV.bool hc_24, trivial⟩ ?_
                refine ExO.nil ?_
                (try simp only [reduceCtorEq, AEx.ex.injEq, Nat.reduceEqDiff, if_true, if_false])
                exact ⟨_, _, Forgets.refl _ _ _, true, h, rfl, rfl⟩
              · obtain ⟨r_25, hr_25, h⟩ := Option.bind_eq_some_iff.1 h
                refine runH 5 [(2, .eq (.bool false))] [1, 54, 56] [AV.bool (!r_23) = AV.bool false] (mkS 81 [(1, .ptr 0 0), (54, .bool false), (56, .int .i64 f_1.High)]) (⟨[(C_api_Float f_1)], []⟩) (by kernel_rfl) ⟨congrArg AV.bool hc_24, trivial⟩ ?_
                refine ExO.callL [] [.int .i64 f_1.High, .int .i64 0, .int .i64 2000] rfl rfl (a_bateriaref02_within f_1.High 0 2000) rfl rfl (d_bateriaref02_within N f_1.High 0 2000 r_25 hr_25) (b_bateriaref02_within _ _ _ _) rfl ?_
                refine runH 2 [] [1, 59] [] (mkS 81 [(1, .ptr 0 0), (59, .bool (!r_25))]) (⟨[(C_api_Float f_1)], []⟩) (by kernel_rfl) trivial ?_
                refine ExO.nil ?_
                (try simp only [reduceCtorEq, AEx.ex.injEq, Nat.reduceEqDiff, if_true, if_false])
                exact ⟨_, _, Forgets.refl _ _ _, (!r_25), h, rfl, rfl⟩
        · rintro a S ⟨y_15, h, rfl, rfl⟩
          subst hK_18
          rcases condI h with ⟨hc_26, h⟩ | ⟨hc_26, h⟩
          · refine Ex.condT _ rfl hc_26 ?_
            refine Ex.seq ?_
            refine regH 1 [] [2] [] (mkS 81 [(2, .int .i64 2)]) (⟨[(C_api_Float f_1)], []⟩) (by kernel_rfl) trivial rfl ?_
            refine Ex.ret ?_
            obtain rfl := Option.some.inj h
            exact ⟨.inr rfl, .int .i64 2, by kernel_rfl, by kernel_rfl, by kernel_rfl, by kernel_rfl⟩
          · refine Ex.condF _ rfl hc_26 ?_
            refine Ex.skip ?_
            refine Ex.seq ?_
            refine Ex.seq ?_
            refine regH 4 [(2, .eq (.int .i64 ((f_1.Loads.length : Nat) : Int)))] [1, 63] [AV.int .i64 (((f_1.Loads.map A_api_Load).length : Nat) : Int) = AV.int .i64 ((f_1.Loads.length : Nat) : Int)] (mkS 81 [(1, .ptr 0 0), (63, .bool (decide (((f_1.Loads.length : Nat) : Int) > 20)))]) (⟨[(C_api_Float f_1)], []⟩) (by kernel_rfl) ⟨lenM _ _, trivial⟩ rfl ?_
            rcases condI h with ⟨hc_27, h⟩ | ⟨hc_27, h⟩
            · refine Ex.condT _ rfl hc_27 ?_
              refine Ex.seq ?_
              refine regH 1 [] [2] [] (mkS 81 [(2, .int .i64 5)]) (⟨[(C_api_Float f_1)], []⟩) (by kernel_rfl) trivial rfl ?_
              refine Ex.ret ?_
              obtain rfl := Option.some.inj h
              exact ⟨.inr rfl, .int .i64 5, by kernel_rfl, by kernel_rfl, by kernel_rfl, by kernel_rfl⟩
            · refine Ex.condF _ rfl hc_27 ?_
              refine Ex.skip ?_
              refine Ex.seq ?_
              refine Ex.seq ?_
              refine regH 1 [] [1, 3] [] (mkS 81 [(1, .ptr 0 0), (3, .int .i64 0)]) (⟨[(C_api_Float f_1)], []⟩) (by kernel_rfl) trivial rfl ?_
              obtain ⟨K_29, hK_30, h⟩ := letE h
              refine Ex.blockJ (fun a S => K_29 () = some r ∧ a = mkS 81 [] ∧ S = ⟨[], []⟩) ?_ ?_
              · obtain ⟨B_33, hB_34, h⟩ := loop1I h
                refine Ex.loopF (fun k a S => ∃ (i_31 : Int), loop1 B_33 k i_31 = some r ∧ a = mkS 81 [(1, .ptr 0 0), (3, .int .i64 i_31)] ∧ S = ⟨[(C_api_Float f_1)], []⟩) N ⟨_, _, Forgets.refl _ _ _, 0, h, rfl, rfl⟩ ?_
                rintro k a S ⟨i_31, h, rfl, rfl⟩
                cases k with
                | zero => exact (loop1Z h).elim
                | succ k =>
                  replace h := loop1S h hB_34
                  refine Ex.seq ?_
                  refine Ex.seq ?_
                  refine regH 5 [(3, .eq (.int .i64 ((f_1.Loads.length : Nat) : Int)))] [1, 3, 68] [AV.int .i64 (((f_1.Loads.map A_api_Load).length : Nat) : Int) = AV.int .i64 ((f_1.Loads.length : Nat) : Int)] (mkS 81 [(1, .ptr 0 0), (3, .int .i64 i_31), (68, .bool (decide (i_31 < ((f_1.Loads.length : Nat) : Int))))]) (⟨[(C_api_Float f_1)], []⟩) (by kernel_rfl) ⟨lenM _ _, trivial⟩ rfl ?_
                  rcases condI h with ⟨hc_35, h⟩ | ⟨hc_35, h⟩
                  · refine Ex.condT _ rfl hc_35 ?_
                    refine Ex.skip ?_
                    refine Ex.seq ?_
                    refine Ex.blockK ?_
                    refine Ex.seq ?_
                    obtain ⟨x_36, hx_36, h⟩ := Option.bind_eq_some_iff.1 h
                    refine Ex.drawE (a1 := mkS 81 [(1, .ptr 0 0), (3, .int .i64 i_31), (68, .bool (decide (i_31 < ((f_1.Loads.length : Nat) : Int)))), (71, (A_api_Float f_1)), (72, .ptr 0 8), (73, .sl (f_1.Loads.map A_api_Load) none), (74, .int .i64 i_31), (75, .rop (C_api_Load x_36)), (76, (A_api_Load x_36))]) (noClr_ok _) [] [] [] ?_ ?_
                    · refine drS [0] 6 [(4, .rop (C_api_Load x_36))] [LGet (f_1.Loads.map A_api_Load) i_31 7 (C_api_Load x_36)] (mkS 81 [(1, .ptr 0 0), (3, .int .i64 i_31), (68, .bool (decide (i_31 < ((f_1.Loads.length : Nat) : Int)))), (71, (A_api_Float f_1)), (72, .ptr 0 8), (73, .sl (f_1.Loads.map A_api_Load) none), (74, .int .i64 i_31), (75, .rop (C_api_Load x_36)), (76, (A_api_Load x_36))]) (by simp) (by kernel_rfl) ⟨LGet.of hx_36 rfl, trivial⟩ (by kernel_rfl) ?_
                      exact DrO.nil rfl
                    · dsimp only [List.getLastD_cons, List.getLastD_nil]
                      obtain ⟨r_37, hr_37, h⟩ := Option.bind_eq_some_iff.1 h
                      refine ExO.callL [] [(A_api_Float f_1), (A_api_Load x_36)] rfl rfl (a_bateriaref02_checkLoad f_1 x_36) rfl rfl (d_bateriaref02_checkLoad N f_1 x_36 r_37 hr_37) (b_bateriaref02_checkLoad _ _ _ _) rfl ?_
                      refine runH 1 [] [1, 3, 4] [] (mkS 81 [(1, .ptr 0 0), (3, .int .i64 i_31), (4, .int .i64 r_37)]) (⟨[(C_api_Float f_1)], []⟩) (by kernel_rfl) trivial ?_
                      refine ExO.nil ?_
                      refine Ex.seq ?_
                      refine regH 2 [] [1, 3, 4, 79] [] (mkS 81 [(1, .ptr 0 0), (3, .int .i64 i_31), (4, .int .i64 r_37), (79, .bool (r_37 != 0))]) (⟨[(C_api_Float f_1)], []⟩) (by kernel_rfl) trivial rfl ?_
                      rcases condI h with ⟨hc_38, h⟩ | ⟨hc_38, h⟩
                      · refine Ex.condT _ rfl hc_38 ?_
                        refine Ex.seq ?_
                        refine regH 2 [] [2] [] (mkS 81 [(2, .int .i64 r_37)]) (⟨[(C_api_Float f_1)], []⟩) (by kernel_rfl) trivial rfl ?_
                        refine Ex.ret ?_
                        obtain rfl := Option.some.inj h
                        exact ⟨.inr rfl, .int .i64 r_37, by kernel_rfl, by kernel_rfl, by kernel_rfl, by kernel_rfl⟩
                      · refine Ex.condF _ rfl hc_38 ?_
                        refine Ex.skip ?_
                        refine regH 3 [] [1, 3] [] (mkS 81 [(1, .ptr 0 0), (3, .int .i64 (IntKind.i64.wrap (i_31 + 1)))]) (⟨[(C_api_Float f_1)], []⟩) (by kernel_rfl) trivial rfl ?_
                        dsimp only
                        exact ⟨_, _, Forgets.refl _ _ _, k, Nat.lt_succ_self k, (IntKind.i64.wrap (i_31 + 1)), h, rfl, rfl⟩
                  · refine Ex.condF _ rfl hc_35 ?_
                    refine Ex.exit ?_
                    (try simp only [reduceCtorEq, AEx.ex.injEq, Nat.reduceEqDiff, if_true, if_false])
                    exact ⟨_, _, forgetA (m := 81) 0 [] [] [] [] (by simp) (by simp) trivial (by simp [re, re1, AV.clean, List.idxOf?, List.findIdx?, List.findIdx?.go, cleanL, cleanI, cleanBo, cleanSt, cleanII, KL_bateriakit_Drum, KL_api_Span, KL_api_Load, KL_api_Float, KB_bateriakit_Drum, KB_api_Span, KB_api_Load, KB_api_Float]) rfl (by decide), h, rfl, rfl⟩
              · rintro a S ⟨h, rfl, rfl⟩
                subst hK_30
                refine Ex.seq ?_
                refine regH 1 [] [2] [] (mkS 81 [(2, .int .i64 0)]) (⟨[], []⟩) (by kernel_rfl) trivial rfl ?_
                refine Ex.ret ?_
                obtain rfl := Option.some.inj h
                exact ⟨.inr rfl, .int .i64 0, by kernel_rfl, by kernel_rfl, by kernel_rfl, by kernel_rfl⟩
structure T_api_Near where
  Power : Int
  Fire : Int
  deriving Inhabited
def C_api_Near (x : T_api_Near) : List AV := [.int .i64 x.Power, .int .i64 x.Fire]
def A_api_Near (x : T_api_Near) : AV := .agg (C_api_Near x)
theorem KC_api_Near (x : T_api_Near) : cleanL (C_api_Near x) = true := by simp [C_api_Near, cleanL, AV.clean, KL_bateriakit_Drum, KL_api_Span, KL_api_Load, KL_api_Float, cleanI, cleanBo, cleanSt, cleanII]
theorem KA_api_Near (x : T_api_Near) : (A_api_Near x).clean = true := KC_api_Near x
theorem KL_api_Near (l : List T_api_Near) : cleanL (l.map A_api_Near) = true := cleanM KA_api_Near l
theorem KB_api_Near (x : T_api_Near) (n : Nat) (σ : List Nat) : (C_api_Near x).mapM (re n σ) = some (C_api_Near x) := by simp [C_api_Near, re, re1, AV.clean, KL_bateriakit_Drum, KL_api_Span, KL_api_Load, KL_api_Float, cleanI, cleanBo, cleanSt, cleanII]
def p_bateriaref02_Fire (N : Nat) (f_1 : T_api_Float) (apart_2 : Int) : Option ((List T_api_Near) × Int × Int) := ((p_bateriaref02_Check N f_1).bind fun r_3 => (bif (r_3 != 0) then some ([], 0, r_3) else ((p_bateriaref02_within N apart_2 0 3000).bind fun r_5 => (bif (!r_5) then some ([], 0, 2) else (letJ (fun (near_7 : List T_api_Near) (spare_8 : Int) => some (near_7, spare_8, 0)) (fun k_9 => (loop3 (fun rec_15 (near_12 : List T_api_Near) (spare_13 : Int) (i_14 : Int) => (bif (decide (i_14 < ((f_1.Loads.length : Nat) : Int))) then ((getI f_1.Loads i_14).bind fun x_19 => (letJ (fun (near_20 : List T_api_Near) (spare_21 : Int) => (rec_15 near_20 spare_21 (IntKind.i64.wrap (i_14 + 1)))) (fun k_22 => (bif (x_19.Kind == 3) then ((getI f_1.Loads i_14).bind fun x_26 => (k_22 near_12 (IntKind.i64.wrap (spare_13 - x_26.Watts)))) else (bif (x_19.Kind == 2) then ((getI f_1.Loads i_14).bind fun x_28 => (letJ (fun (near_29 : List T_api_Near) => (k_22 near_29 (IntKind.i64.wrap (spare_13 + x_28.Watts)))) (fun k_30 => (loop2 (fun rec_35 (near_33 : List T_api_Near) (k_34 : Int) => (bif (decide (k_34 < ((f_1.Loads.length : Nat) : Int))) then (letJ (fun (near_39 : List T_api_Near) => (rec_35 near_39 (IntKind.i64.wrap (k_34 + 1)))) (fun k_40 => ((getI f_1.Loads i_14).bind fun x_43 => ((getI f_1.Loads k_34).bind fun x_44 => (letJ (fun (y_45 : Bool) => (bif y_45 then ((pushI near_33 ([(⟨i_14, k_34⟩ : T_api_Near)] : List T_api_Near)).bind fun l_52 => (k_40 l_52)) else (k_40 near_33))) (fun k_46 => ((getI f_1.Loads k_34).bind fun x_49 => (bif (x_49.Kind == 4) then (k_46 (decide ((if (IntKind.i64.wrap (0 - (IntKind.i64.wrap (x_43.At - x_44.At)))) > (IntKind.i64.wrap (x_43.At - x_44.At)) then (IntKind.i64.wrap (0 - (IntKind.i64.wrap (x_43.At - x_44.At)))) else (IntKind.i64.wrap (x_43.At - x_44.At))) < apart_2))) else (k_46 false))))))))) else (k_30 near_33))) N near_12 0)))) else (k_22 near_12 spare_13)))))) else (k_9 near_12 spare_13))) N [] 0 0)))))))
def v_bateriaref02_Fire (r : (List T_api_Near) × Int × Int) : AV := .tup [.sl (r.1.map A_api_Near) none, .int .i64 r.2.1, .int .i64 r.2.2]
theorem b_bateriaref02_Fire (r : (List T_api_Near) × Int × Int) (n n2 m : Nat) : back n n2 m (v_bateriaref02_Fire r) = some (v_bateriaref02_Fire r) := by simp [v_bateriaref02_Fire, back, back1, AV.plain, AV.plain1, AV.clean, cleanL, cleanI, cleanBo, cleanSt, cleanII, KL_bateriakit_Drum, KL_api_Span, KL_api_Load, KL_api_Float, KL_api_Near, A_bateriakit_Drum, C_bateriakit_Drum, A_api_Span, C_api_Span, A_api_Load, C_api_Load, A_api_Float, C_api_Float, A_api_Near, C_api_Near]
theorem d_bateriaref02_Fire (N : Nat) (f_1 : T_api_Float) (apart_2 : Int) (r : (List T_api_Near) × Int × Int) (h : p_bateriaref02_Fire N f_1 apart_2 = some r) : Does Try.prog 40 [(A_api_Float f_1), .int .i64 apart_2] [] fun v c => v = v_bateriaref02_Fire r ∧ c = [] := by
  unfold p_bateriaref02_Fire at h
  refine Does.ofL comp40 _ _ rfl rfl ?_
  refine Ex.seq ?_
  refine regH 4 [] [1, 2] [] (mkS 97 [(1, .int .i64 apart_2), (2, .ptr 0 0)]) (⟨[(C_api_Float f_1)], []⟩) (by kernel_rfl) trivial rfl ?_
  refine Ex.seq ?_
  refine Ex.seq ?_
  obtain ⟨r_3, hr_3, h⟩ := Option.bind_eq_some_iff.1 h
  refine Ex.reg ?_
  refine runH 1 [] [1, 2, 13] [] (mkS 97 [(1, .int .i64 apart_2), (2, .ptr 0 0), (13, (A_api_Float f_1))]) (⟨[(C_api_Float f_1)], []⟩) (by kernel_rfl) trivial ?_
  refine ExO.callL [] [(A_api_Float f_1)] rfl rfl (a_bateriaref02_Check f_1) rfl rfl (d_bateriaref02_Check N f_1 r_3 hr_3) (b_bateriaref02_Check _ _ _ _) rfl ?_
  refine runH 1 [] [1, 2, 7] [] (mkS 97 [(1, .int .i64 apart_2), (2, .ptr 0 0), (7, .int .i64 r_3)]) (⟨[(C_api_Float f_1)], []⟩) (by kernel_rfl) trivial ?_
  refine ExO.nil ?_
  refine Ex.seq ?_
  refine regH 2 [] [1, 2, 7, 16] [] (mkS 97 [(1, .int .i64 apart_2), (2, .ptr 0 0), (7, .int .i64 r_3), (16, .bool (r_3 != 0))]) (⟨[(C_api_Float f_1)], []⟩) (by kernel_rfl) trivial rfl ?_
  rcases condI h with ⟨hc_4, h⟩ | ⟨hc_4, h⟩
  · refine Ex.condT _ rfl hc_4 ?_
    refine Ex.seq ?_
    refine regH 4 [] [4, 5, 6] [] (mkS 97 [(4, .nils), (5, .int .i64 0), (6, .int .i64 r_3)]) (⟨[(C_api_Float f_1)], []⟩) (by kernel_rfl) trivial rfl ?_
    refine Ex.ret ?_
    obtain rfl := Option.some.inj h
    exact ⟨.inr rfl, .tup [.nils, .int .i64 0, .int .i64 r_3], by kernel_rfl, by kernel_rfl, by kernel_rfl, by kernel_rfl⟩
  · refine Ex.condF _ rfl hc_4 ?_
    refine Ex.skip ?_
    refine Ex.seq ?_
    refine Ex.seq ?_
    obtain ⟨r_5, hr_5, h⟩ := Option.bind_eq_some_iff.1 h
    refine Ex.reg ?_
    refine runH 1 [] [1, 2, 18] [] (mkS 97 [(1, .int .i64 apart_2), (2, .ptr 0 0), (18, .int .i64 apart_2)]) (⟨[(C_api_Float f_1)], []⟩) (by kernel_rfl) trivial ?_
    refine ExO.callL [] [.int .i64 apart_2, .int .i64 0, .int .i64 3000] rfl rfl (a_bateriaref02_within apart_2 0 3000) rfl rfl (d_bateriaref02_within N apart_2 0 3000 r_5 hr_5) (b_bateriaref02_within _ _ _ _) rfl ?_
    refine runH 1 [] [1, 2, 20] [] (mkS 97 [(1, .int .i64 apart_2), (2, .ptr 0 0), (20, .bool (!r_5))]) (⟨[(C_api_Float f_1)], []⟩) (by kernel_rfl) trivial ?_
    refine ExO.nil ?_
    rcases condI h with ⟨hc_6, h⟩ | ⟨hc_6, h⟩
    · refine Ex.condT _ rfl hc_6 ?_
      refine Ex.seq ?_
      refine regH 3 [] [4, 5, 6] [] (mkS 97 [(4, .nils), (5, .int .i64 0), (6, .int .i64 2)]) (⟨[(C_api_Float f_1)], []⟩) (by kernel_rfl) trivial rfl ?_
      refine Ex.ret ?_
      obtain rfl := Option.some.inj h
      exact ⟨.inr rfl, .tup [.nils, .int .i64 0, .int .i64 2], by kernel_rfl, by kernel_rfl, by kernel_rfl, by kernel_rfl⟩
    · refine Ex.condF _ rfl hc_6 ?_
      refine Ex.skip ?_
      refine Ex.seq ?_
      refine regH 1 [] [1, 2, 8] [] (mkS 97 [(1, .int .i64 apart_2), (2, .ptr 0 0), (8, .nils)]) (⟨[(C_api_Float f_1)], []⟩) (by kernel_rfl) trivial rfl ?_
      refine Ex.seq ?_
      refine regH 1 [] [1, 2, 8, 9] [] (mkS 97 [(1, .int .i64 apart_2), (2, .ptr 0 0), (8, .nils), (9, .int .i64 0)]) (⟨[(C_api_Float f_1)], []⟩) (by kernel_rfl) trivial rfl ?_
      refine Ex.seq ?_
      refine Ex.seq ?_
      refine regH 1 [] [1, 2, 8, 9, 10] [] (mkS 97 [(1, .int .i64 apart_2), (2, .ptr 0 0), (8, .nils), (9, .int .i64 0), (10, .int .i64 0)]) (⟨[(C_api_Float f_1)], []⟩) (by kernel_rfl) trivial rfl ?_
      obtain ⟨K_10, hK_11, h⟩ := letE h
      refine Ex.blockJ (fun a S => ∃ (near_7 : List T_api_Near), ∃ (spare_8 : Int), K_10 near_7 spare_8 = some r ∧ a = mkS 97 [(8, .sl (near_7.map A_api_Near) (some 0)), (9, .int .i64 spare_8)] ∧ S = ⟨[], [(near_7.length, 2)]⟩) ?_ ?_
      · refine Ex.forget (nilK 8 2 rfl) ?_
        refine Ex.castA (a2 := mkS 97 [(1, .int .i64 apart_2), (2, .ptr 0 0), (8, .sl (([] : List T_api_Near).map A_api_Near) (some 0)), (9, .int .i64 0), (10, .int .i64 0)]) (S2 := ⟨[(C_api_Float f_1)], [(0, 2)]⟩) (by kernel_rfl) (by kernel_rfl) ?_
        obtain ⟨B_16, hB_17, h⟩ := loop3I h
        refine Ex.loopF (fun k a S => ∃ (near_12 : List T_api_Near), ∃ (spare_13 : Int), ∃ (i_14 : Int), loop3 B_16 k near_12 spare_13 i_14 = some r ∧ a = mkS 97 [(1, .int .i64 apart_2), (2, .ptr 0 0), (8, .sl (near_12.map A_api_Near) (some 0)), (9, .int .i64 spare_13), (10, .int .i64 i_14)] ∧ S = ⟨[(C_api_Float f_1)], [(near_12.length, 2)]⟩) N ⟨_, _, Forgets.refl _ _ _, [], 0, 0, h, rfl, rfl⟩ ?_
        rintro k a S ⟨near_12, spare_13, i_14, h, rfl, rfl⟩
        cases k with
        | zero => exact (loop3Z h).elim
        | succ k =>
          replace h := loop3S h hB_17
          refine Ex.seq ?_
          refine Ex.seq ?_
          refine regH 5 [(3, .eq (.int .i64 ((f_1.Loads.length : Nat) : Int)))] [1, 2, 8, 9, 10, 25] [AV.int .i64 (((f_1.Loads.map A_api_Load).length : Nat) : Int) = AV.int .i64 ((f_1.Loads.length : Nat) : Int)] (mkS 97 [(1, .int .i64 apart_2), (2, .ptr 0 0), (8, .sl (near_12.map A_api_Near) (some 0)), (9, .int .i64 spare_13), (10, .int .i64 i_14), (25, .bool (decide (i_14 < ((f_1.Loads.length : Nat) : Int))))]) (⟨[(C_api_Float f_1)], [(near_12.length, 2)]⟩) (by kernel_rfl) ⟨lenM _ _, trivial⟩ rfl ?_
          rcases condI h with ⟨hc_18, h⟩ | ⟨hc_18, h⟩
          · refine Ex.condT _ rfl hc_18 ?_
            refine Ex.skip ?_
            refine Ex.seq ?_
            refine Ex.blockK ?_
            refine Ex.seq ?_
            obtain ⟨x_19, hx_19, h⟩ := Option.bind_eq_some_iff.1 h
            refine regH 6 [(3, .rop (C_api_Load x_19))] [1, 2, 8, 9, 10, 33] [LGet (f_1.Loads.map A_api_Load) i_14 7 (C_api_Load x_19)] (mkS 97 [(1, .int .i64 apart_2), (2, .ptr 0 0), (8, .sl (near_12.map A_api_Near) (some 0)), (9, .int .i64 spare_13), (10, .int .i64 i_14), (33, .int .i64 x_19.Kind)]) (⟨[(C_api_Float f_1)], [(near_12.length, 2)]⟩) (by kernel_rfl) ⟨LGet.of hx_19 rfl, trivial⟩ rfl ?_
            obtain ⟨K_23, hK_24, h⟩ := letE h
            refine Ex.blockJ (fun a S => ∃ (near_20 : List T_api_Near), ∃ (spare_21 : Int), K_23 near_20 spare_21 = some r ∧ a = mkS 97 [(1, .int .i64 apart_2), (2, .ptr 0 0), (8, .sl (near_20.map A_api_Near) (some 0)), (9, .int .i64 spare_21), (10, .int .i64 i_14)] ∧ S = ⟨[(C_api_Float f_1)], [(near_20.length, 2)]⟩) ?_ ?_
            · refine Ex.seq ?_
              refine regH 2 [] [1, 2, 8, 9, 10, 33, 34] [] (mkS 97 [(1, .int .i64 apart_2), (2, .ptr 0 0), (8, .sl (near_12.map A_api_Near) (some 0)), (9, .int .i64 spare_13), (10, .int .i64 i_14), (33, .int .i64 x_19.Kind), (34, .bool (x_19.Kind == 3))]) (⟨[(C_api_Float f_1)], [(near_12.length, 2)]⟩) (by kernel_rfl) trivial rfl ?_
              rcases condI h with ⟨hc_25, h⟩ | ⟨hc_25, h⟩
              · refine Ex.condT _ rfl hc_25 ?_
                obtain ⟨x_26, hx_26, h⟩ := Option.bind_eq_some_iff.1 h
                refine regH 9 [(4, .rop (C_api_Load x_26))] [1, 2, 8, 9, 10] [LGet (f_1.Loads.map A_api_Load) i_14 7 (C_api_Load x_26)] (mkS 97 [(1, .int .i64 apart_2), (2, .ptr 0 0), (8, .sl (near_12.map A_api_Near) (some 0)), (9, .int .i64 (IntKind.i64.wrap (spare_13 - x_26.Watts))), (10, .int .i64 i_14)]) (⟨[(C_api_Float f_1)], [(near_12.length, 2)]⟩) (by kernel_rfl) ⟨LGet.of hx_26 rfl, trivial⟩ rfl ?_
                (try simp only [reduceCtorEq, AEx.ex.injEq, Nat.reduceEqDiff, if_true, if_false])
                exact ⟨_, _, Forgets.refl _ _ _, near_12, (IntKind.i64.wrap (spare_13 - x_26.Watts)), h, rfl, rfl⟩
              · refine Ex.condF _ rfl hc_25 ?_
                refine Ex.seq ?_
                refine regH 2 [] [1, 2, 8, 9, 10, 44] [] (mkS 97 [(1, .int .i64 apart_2), (2, .ptr 0 0), (8, .sl (near_12.map A_api_Near) (some 0)), (9, .int .i64 spare_13), (10, .int .i64 i_14), (44, .bool (x_19.Kind == 2))]) (⟨[(C_api_Float f_1)], [(near_12.length, 2)]⟩) (by kernel_rfl) trivial rfl ?_
                rcases condI h with ⟨hc_27, h⟩ | ⟨hc_27, h⟩
                · refine Ex.condT _ rfl hc_27 ?_
                  refine Ex.seq ?_
                  obtain ⟨x_28, hx_28, h⟩ := Option.bind_eq_some_iff.1 h
                  refine regH 9 [(4, .rop (C_api_Load x_28))] [1, 2, 8, 9, 10] [LGet (f_1.Loads.map A_api_Load) i_14 7 (C_api_Load x_28)] (mkS 97 [(1, .int .i64 apart_2), (2, .ptr 0 0), (8, .sl (near_12.map A_api_Near) (some 0)), (9, .int .i64 (IntKind.i64.wrap (spare_13 + x_28.Watts))), (10, .int .i64 i_14)]) (⟨[(C_api_Float f_1)], [(near_12.length, 2)]⟩) (by kernel_rfl) ⟨LGet.of hx_28 rfl, trivial⟩ rfl ?_
                  refine Ex.seq ?_
                  refine regH 1 [] [1, 2, 8, 9, 10, 11] [] (mkS 97 [(1, .int .i64 apart_2), (2, .ptr 0 0), (8, .sl (near_12.map A_api_Near) (some 0)), (9, .int .i64 (IntKind.i64.wrap (spare_13 + x_28.Watts))), (10, .int .i64 i_14), (11, .int .i64 0)]) (⟨[(C_api_Float f_1)], [(near_12.length, 2)]⟩) (by kernel_rfl) trivial rfl ?_
                  obtain ⟨K_31, hK_32, h⟩ := letE h
                  refine Ex.blockJ (fun a S => ∃ (near_29 : List T_api_Near), K_31 near_29 = some r ∧ a = mkS 97 [(1, .int .i64 apart_2), (2, .ptr 0 0), (8, .sl (near_29.map A_api_Near) (some 0)), (9, .int .i64 (IntKind.i64.wrap (spare_13 + x_28.Watts))), (10, .int .i64 i_14)] ∧ S = ⟨[(C_api_Float f_1)], [(near_29.length, 2)]⟩) ?_ ?_
                  · obtain ⟨B_36, hB_37, h⟩ := loop2I h
                    refine Ex.loopF (fun k a S => ∃ (near_33 : List T_api_Near), ∃ (k_34 : Int), loop2 B_36 k near_33 k_34 = some r ∧ a = mkS 97 [(1, .int .i64 apart_2), (2, .ptr 0 0), (8, .sl (near_33.map A_api_Near) (some 0)), (9, .int .i64 (IntKind.i64.wrap (spare_13 + x_28.Watts))), (10, .int .i64 i_14), (11, .int .i64 k_34)] ∧ S = ⟨[(C_api_Float f_1)], [(near_33.length, 2)]⟩) N ⟨_, _, Forgets.refl _ _ _, near_12, 0, h, rfl, rfl⟩ ?_
                    rintro k a S ⟨near_33, k_34, h, rfl, rfl⟩
                    cases k with
                    | zero => exact (loop2Z h).elim
                    | succ k =>
                      replace h := loop2S h hB_37
                      refine Ex.seq ?_
                      refine Ex.seq ?_
                      refine regH 5 [(3, .eq (.int .i64 ((f_1.Loads.length : Nat) : Int)))] [1, 2, 8, 9, 10, 11, 58] [AV.int .i64 (((f_1.Loads.map A_api_Load).length : Nat) : Int) = AV.int .i64 ((f_1.Loads.length : Nat) : Int)] (mkS 97 [(1, .int .i64 apart_2), (2, .ptr 0 0), (8, .sl (near_33.map A_api_Near) (some 0)), (9, .int .i64 (IntKind.i64.wrap (spare_13 + x_28.Watts))), (10, .int .i64 i_14), (11, .int .i64 k_34), (58, .bool (decide (k_34 < ((f_1.Loads.length : Nat) : Int))))]) (⟨[(C_api_Float f_1)], [(near_33.length, 2)]⟩) (by kernel_rfl) ⟨lenM _ _, trivial⟩ rfl ?_
                      rcases condI h with ⟨hc_38, h⟩ | ⟨hc_38, h⟩
                      · refine Ex.condT _ rfl hc_38 ?_
                        refine Ex.skip ?_
                        refine Ex.seq ?_
                        obtain ⟨K_41, hK_42, h⟩ := letE h
                        refine Ex.blockJ (fun a S => ∃ (near_39 : List T_api_Near), K_41 near_39 = some r ∧ a = mkS 97 [(1, .int .i64 apart_2), (2, .ptr 0 0), (8, .sl (near_39.map A_api_Near) (some 0)), (9, .int .i64 (IntKind.i64.wrap (spare_13 + x_28.Watts))), (10, .int .i64 i_14), (11, .int .i64 k_34)] ∧ S = ⟨[(C_api_Float f_1)], [(near_39.length, 2)]⟩) ?_ ?_
                        · refine Ex.seq ?_
                          obtain ⟨x_43, hx_43, h⟩ := Option.bind_eq_some_iff.1 h
                          obtain ⟨x_44, hx_44, h⟩ := Option.bind_eq_some_iff.1 h
                          refine Ex.drawE (a1 := mkS 97 [(1, .int .i64 apart_2), (2, .ptr 0 0), (8, .sl (near_33.map A_api_Near) (some 0)), (9, .int .i64 (IntKind.i64.wrap (spare_13 + x_28.Watts))), (10, .int .i64 i_14), (11, .int .i64 k_34), (58, .bool (decide (k_34 < ((f_1.Loads.length : Nat) : Int)))), (61, .ptr 0 8), (62, .sl (f_1.Loads.map A_api_Load) none), (63, .int .i64 i_14), (64, .rop (C_api_Load x_43)), (65, .rop (C_api_Load x_43)), (66, .int .i64 x_43.At), (67, .ptr 0 8), (68, .sl (f_1.Loads.map A_api_Load) none), (69, .int .i64 k_34), (70, .rop (C_api_Load x_44)), (71, .rop (C_api_Load x_44)), (72, .int .i64 x_44.At)]) (noClr_ok _) [] [] [] ?_ ?_
                          · refine drS [0] 12 [(3, .rop (C_api_Load x_43)), (9, .rop (C_api_Load x_44))] [LGet (f_1.Loads.map A_api_Load) i_14 7 (C_api_Load x_43), LGet (f_1.Loads.map A_api_Load) k_34 7 (C_api_Load x_44)] (mkS 97 [(1, .int .i64 apart_2), (2, .ptr 0 0), (8, .sl (near_33.map A_api_Near) (some 0)), (9, .int .i64 (IntKind.i64.wrap (spare_13 + x_28.Watts))), (10, .int .i64 i_14), (11, .int .i64 k_34), (58, .bool (decide (k_34 < ((f_1.Loads.length : Nat) : Int)))), (61, .ptr 0 8), (62, .sl (f_1.Loads.map A_api_Load) none), (63, .int .i64 i_14), (64, .rop (C_api_Load x_43)), (65, .rop (C_api_Load x_43)), (66, .int .i64 x_43.At), (67, .ptr 0 8), (68, .sl (f_1.Loads.map A_api_Load) none), (69, .int .i64 k_34), (70, .rop (C_api_Load x_44)), (71, .rop (C_api_Load x_44)), (72, .int .i64 x_44.At)]) (by simp) (by kernel_rfl) ⟨LGet.of hx_43 rfl, LGet.of hx_44 rfl, trivial⟩ (by kernel_rfl) ?_
                            exact DrO.nil rfl
                          · dsimp only [List.getLastD_cons, List.getLastD_nil]
                            refine runH 2 [] [1, 2, 8, 9, 10, 11, 12] [] (mkS 97 [(1, .int .i64 apart_2), (2, .ptr 0 0), (8, .sl (near_33.map A_api_Near) (some 0)), (9, .int .i64 (IntKind.i64.wrap (spare_13 + x_28.Watts))), (10, .int .i64 i_14), (11, .int .i64 k_34), (12, .int .i64 (IntKind.i64.wrap (x_43.At - x_44.At)))]) (⟨[(C_api_Float f_1)], [(near_33.length, 2)]⟩) (by kernel_rfl) trivial ?_
                            refine ExO.nil ?_
                            obtain ⟨K_47, hK_48, h⟩ := letE h
                            refine Ex.seqJ (fun a S => ∃ (y_45 : Bool), K_47 y_45 = some r ∧ a = mkS 97 [(1, .int .i64 apart_2), (2, .ptr 0 0), (8, .sl (near_33.map A_api_Near) (some 0)), (9, .int .i64 (IntKind.i64.wrap (spare_13 + x_28.Watts))), (10, .int .i64 i_14), (11, .int .i64 k_34), (88, .bool y_45)] ∧ S = ⟨[(C_api_Float f_1)], [(near_33.length, 2)]⟩) ?_ ?_
                            · obtain ⟨x_49, hx_49, h⟩ := Option.bind_eq_some_iff.1 h
                              rcases condI h with ⟨hc_50, h⟩ | ⟨hc_50, h⟩
                              · refine regH 15 [(3, .rop (C_api_Load x_49)), (7, .eq (.bool true))] [1, 2, 8, 9, 10, 11, 88] [LGet (f_1.Loads.map A_api_Load) k_34 7 (C_api_Load x_49), AV.bool (x_49.Kind == 4) = AV.bool true] (mkS 97 [(1, .int .i64 apart_2), (2, .ptr 0 0), (8, .sl (near_33.map A_api_Near) (some 0)), (9, .int .i64 (IntKind.i64.wrap (spare_13 + x_28.Watts))), (10, .int .i64 i_14), (11, .int .i64 k_34), (88, .bool (decide ((if (IntKind.i64.wrap (0 - (IntKind.i64.wrap (x_43.At - x_44.At)))) > (IntKind.i64.wrap (x_43.At - x_44.At)) then (IntKind.i64.wrap (0 - (IntKind.i64.wrap (x_43.At - x_44.At)))) else (IntKind.i64.wrap (x_43.At - x_44.At))) < apart_2)))]) (⟨[(C_api_Float f_1)], [(near_33.length, 2)]⟩) (by kernel_rfl) ⟨LGet.of hx_49 rfl, congrArg AV.bool hc_50, trivial⟩ rfl ?_
                                (try simp only [reduceCtorEq, AEx.ex.injEq, Nat.reduceEqDiff, if_true, if_false])
                                exact ⟨_, _, Forgets.refl _ _ _, (decide ((if (IntKind.i64.wrap (0 - (IntKind.i64.wrap (x_43.At - x_44.At)))) > (IntKind.i64.wrap (x_43.At - x_44.At)) then (IntKind.i64.wrap (0 - (IntKind.i64.wrap (x_43.At - x_44.At)))) else (IntKind.i64.wrap (x_43.At - x_44.At))) < apart_2)), h, rfl, rfl⟩
                              · refine regH 15 [(3, .rop (C_api_Load x_49)), (7, .eq (.bool false))] [1, 2, 8, 9, 10, 11, 88] [LGet (f_1.Loads.map A_api_Load) k_34 7 (C_api_Load x_49), AV.bool (x_49.Kind == 4) = AV.bool false] (mkS 97 [(1, .int .i64 apart_2), (2, .ptr 0 0), (8, .sl (near_33.map A_api_Near) (some 0)), (9, .int .i64 (IntKind.i64.wrap (spare_13 + x_28.Watts))), (10, .int .i64 i_14), (11, .int .i64 k_34), (88, .bool false)]) (⟨[(C_api_Float f_1)], [(near_33.length, 2)]⟩) (by kernel_rfl) ⟨LGet.of hx_49 rfl, congrArg AV.bool hc_50, trivial⟩ rfl ?_
                                (try simp only [reduceCtorEq, AEx.ex.injEq, Nat.reduceEqDiff, if_true, if_false])
                                exact ⟨_, _, Forgets.refl _ _ _, false, h, rfl, rfl⟩
                            · rintro a S ⟨y_45, h, rfl, rfl⟩
                              subst hK_48
                              rcases condI h with ⟨hc_51, h⟩ | ⟨hc_51, h⟩
                              · refine Ex.condT _ rfl hc_51 ?_
                                obtain ⟨l_52, hl_52, h⟩ := Option.bind_eq_some_iff.1 h
                                refine regH 7 [(5, .app (l_52.map A_api_Near) l_52.length)] [1, 2, 8, 9, 10, 11] [LApp near_33.length (near_33.map A_api_Near) (([(⟨i_14, k_34⟩ : T_api_Near)] : List T_api_Near).map A_api_Near) 2 (l_52.map A_api_Near) l_52.length] (mkS 97 [(1, .int .i64 apart_2), (2, .ptr 0 0), (8, .sl (l_52.map A_api_Near) (some 0)), (9, .int .i64 (IntKind.i64.wrap (spare_13 + x_28.Watts))), (10, .int .i64 i_14), (11, .int .i64 k_34)]) (⟨[(C_api_Float f_1)], [(l_52.length, 2), (1, 2)]⟩) (by kernel_rfl) ⟨LApp.of hl_52 (fun _ => rfl), trivial⟩ rfl ?_
                                (try simp only [reduceCtorEq, AEx.ex.injEq, Nat.reduceEqDiff, if_true, if_false])
                                exact ⟨_, _, forgetA (m := 97) 1 [0] [(1, .int .i64 apart_2), (2, .ptr 0 0), (8, .sl (l_52.map A_api_Near) (some 0)), (9, .int .i64 (IntKind.i64.wrap (spare_13 + x_28.Watts))), (10, .int .i64 i_14), (11, .int .i64 k_34)] [(C_api_Float f_1)] [(l_52.length, 2)] (by simp) (by simp) ⟨rfl, rfl, (reT (KL_api_Near _) rfl), rfl, rfl, rfl, trivial⟩ (by simp [re, re1, AV.clean, List.idxOf?, List.findIdx?, List.findIdx?.go, cleanL, cleanI, cleanBo, cleanSt, cleanII, KL_bateriakit_Drum, KL_api_Span, KL_api_Load, KL_api_Float, KL_api_Near, KB_bateriakit_Drum, KB_api_Span, KB_api_Load, KB_api_Float, KB_api_Near]) rfl (by decide), l_52, h, rfl, rfl⟩
                              · refine Ex.condF _ rfl hc_51 ?_
                                refine Ex.skip ?_
                                (try simp only [reduceCtorEq, AEx.ex.injEq, Nat.reduceEqDiff, if_true, if_false])
                                exact ⟨_, _, forgetK [1, 2, 8, 9, 10, 11], near_33, h, rfl, rfl⟩
                        · rintro a S ⟨near_39, h, rfl, rfl⟩
                          subst hK_42
                          refine regH 3 [] [1, 2, 8, 9, 10, 11] [] (mkS 97 [(1, .int .i64 apart_2), (2, .ptr 0 0), (8, .sl (near_39.map A_api_Near) (some 0)), (9, .int .i64 (IntKind.i64.wrap (spare_13 + x_28.Watts))), (10, .int .i64 i_14), (11, .int .i64 (IntKind.i64.wrap (k_34 + 1)))]) (⟨[(C_api_Float f_1)], [(near_39.length, 2)]⟩) (by kernel_rfl) trivial rfl ?_
                          dsimp only
                          exact ⟨_, _, Forgets.refl _ _ _, k, Nat.lt_succ_self k, near_39, (IntKind.i64.wrap (k_34 + 1)), h, rfl, rfl⟩
                      · refine Ex.condF _ rfl hc_38 ?_
                        refine Ex.exit ?_
                        (try simp only [reduceCtorEq, AEx.ex.injEq, Nat.reduceEqDiff, if_true, if_false])
                        exact ⟨_, _, forgetK [1, 2, 8, 9, 10], near_33, h, rfl, rfl⟩
                  · rintro a S ⟨near_29, h, rfl, rfl⟩
                    subst hK_32
                    (try simp only [reduceCtorEq, AEx.ex.injEq, Nat.reduceEqDiff, if_true, if_false])
                    exact ⟨_, _, Forgets.refl _ _ _, near_29, (IntKind.i64.wrap (spare_13 + x_28.Watts)), h, rfl, rfl⟩
                · refine Ex.condF _ rfl hc_27 ?_
                  refine Ex.skip ?_
                  (try simp only [reduceCtorEq, AEx.ex.injEq, Nat.reduceEqDiff, if_true, if_false])
                  exact ⟨_, _, forgetK [1, 2, 8, 9, 10], near_12, spare_13, h, rfl, rfl⟩
            · rintro a S ⟨near_20, spare_21, h, rfl, rfl⟩
              subst hK_24
              refine regH 3 [] [1, 2, 8, 9, 10] [] (mkS 97 [(1, .int .i64 apart_2), (2, .ptr 0 0), (8, .sl (near_20.map A_api_Near) (some 0)), (9, .int .i64 spare_21), (10, .int .i64 (IntKind.i64.wrap (i_14 + 1)))]) (⟨[(C_api_Float f_1)], [(near_20.length, 2)]⟩) (by kernel_rfl) trivial rfl ?_
              dsimp only
              exact ⟨_, _, Forgets.refl _ _ _, k, Nat.lt_succ_self k, near_20, spare_21, (IntKind.i64.wrap (i_14 + 1)), h, rfl, rfl⟩
          · refine Ex.condF _ rfl hc_18 ?_
            refine Ex.exit ?_
            (try simp only [reduceCtorEq, AEx.ex.injEq, Nat.reduceEqDiff, if_true, if_false])
            exact ⟨_, _, forgetA (m := 97) 0 [0] [(8, .sl (near_12.map A_api_Near) (some 0)), (9, .int .i64 spare_13)] [] [(near_12.length, 2)] (by simp) (by simp) ⟨(reT (KL_api_Near _) rfl), rfl, trivial⟩ (by simp [re, re1, AV.clean, List.idxOf?, List.findIdx?, List.findIdx?.go, cleanL, cleanI, cleanBo, cleanSt, cleanII, KL_bateriakit_Drum, KL_api_Span, KL_api_Load, KL_api_Float, KL_api_Near, KB_bateriakit_Drum, KB_api_Span, KB_api_Load, KB_api_Float, KB_api_Near]) rfl (by decide), near_12, spare_13, h, rfl, rfl⟩
      · rintro a S ⟨near_7, spare_8, h, rfl, rfl⟩
        subst hK_11
        refine Ex.seq ?_
        refine regH 5 [] [4, 5, 6] [] (mkS 97 [(4, .sl (near_7.map A_api_Near) (some 0)), (5, .int .i64 spare_8), (6, .int .i64 0)]) (⟨[], [(near_7.length, 2)]⟩) (by kernel_rfl) trivial rfl ?_
        refine Ex.ret ?_
        obtain rfl := Option.some.inj h
        exact ⟨.inr rfl, .tup [.sl (near_7.map A_api_Near) (some 0), .int .i64 spare_8, .int .i64 0], by kernel_rfl, by kernel_rfl, by kernel_rfl, by kernel_rfl⟩
def p_bateriakit_EqFloats (N : Nat) (a_1 : T_api_Float) (b_2 : T_api_Float) : Option (Bool) := (letJ (fun (same_3 : Bool) => (letJ (fun (same_15 : Bool) => some same_15) (fun k_16 => (loop2 (fun rec_21 (same_19 : Bool) (i_20 : Int) => (letJ (fun (y_24 : Bool) => (bif y_24 then ((getI a_1.Loads i_20).bind fun x_30 => ((getI b_2.Loads i_20).bind fun x_31 => (rec_21 ((x_30.At == x_31.At) && (((x_30.Kilos.Lo == x_31.Kilos.Lo) && ((x_30.Kilos.Hi == x_31.Kilos.Hi) && true)) && (((x_30.Top.Lo == x_31.Top.Lo) && ((x_30.Top.Hi == x_31.Top.Hi) && true)) && ((x_30.Kind == x_31.Kind) && ((x_30.Watts == x_31.Watts) && true))))) (IntKind.i64.wrap (i_20 + 1))))) else (k_16 same_19))) (fun k_25 => (bif same_19 then (k_25 (decide (i_20 < ((a_1.Loads.length : Nat) : Int)))) else (k_25 false))))) N same_3 0)))) (fun k_4 => (bif (a_1.Length == b_2.Length) then (bif (a_1.Width == b_2.Width) then (bif (a_1.Front == b_2.Front) then (bif (a_1.Rear == b_2.Rear) then (bif (a_1.Turn == b_2.Turn) then (bif (a_1.Kilos == b_2.Kilos) then (bif (a_1.Middle == b_2.Middle) then (bif (a_1.High == b_2.High) then (k_4 (((a_1.Loads.length : Nat) : Int) == ((b_2.Loads.length : Nat) : Int))) else (k_4 false)) else (k_4 false)) else (k_4 false)) else (k_4 false)) else (k_4 false)) else (k_4 false)) else (k_4 false)) else (k_4 false))))
def v_bateriakit_EqFloats (r : Bool) : AV := .bool r
theorem a_bateriakit_EqFloats (a_1 : T_api_Float) (b_2 : T_api_Float) : [(A_api_Float a_1), (A_api_Float b_2)].mapM (ren []) = some [(A_api_Float a_1), (A_api_Float b_2)] := by simp [ren, ren1, AV.plain, AV.plain1, AV.clean, cleanL, cleanI, cleanBo, cleanSt, cleanII, KL_bateriakit_Drum, KL_api_Span, KL_api_Load, KL_api_Float, KL_api_Near, A_bateriakit_Drum, C_bateriakit_Drum, A_api_Span, C_api_Span, A_api_Load, C_api_Load, A_api_Float, C_api_Float, A_api_Near, C_api_Near]
theorem b_bateriakit_EqFloats (r : Bool) (n n2 m : Nat) : back n n2 m (v_bateriakit_EqFloats r) = some (v_bateriakit_EqFloats r) := by simp [v_bateriakit_EqFloats, back, back1, AV.plain, AV.plain1, AV.clean, cleanL, cleanI, cleanBo, cleanSt, cleanII, KL_bateriakit_Drum, KL_api_Span, KL_api_Load, KL_api_Float, KL_api_Near, A_bateriakit_Drum, C_bateriakit_Drum, A_api_Span, C_api_Span, A_api_Load, C_api_Load, A_api_Float, C_api_Float, A_api_Near, C_api_Near]
theorem d_bateriakit_EqFloats (N : Nat) (a_1 : T_api_Float) (b_2 : T_api_Float) (r : Bool) (h : p_bateriakit_EqFloats N a_1 b_2 = some r) : Does Try.prog 24 [(A_api_Float a_1), (A_api_Float b_2)] [] fun v c => v = v_bateriakit_EqFloats r ∧ c = [] := by
  unfold p_bateriakit_EqFloats at h
  refine Does.ofL comp24 _ _ rfl rfl ?_
  refine Ex.seq ?_
  refine regH 3 [] [2, 3] [] (mkS 92 [(2, .ptr 0 0), (3, .ptr 1 0)]) (⟨[(C_api_Float a_1), (C_api_Float b_2)], []⟩) (by kernel_rfl) trivial rfl ?_
  obtain ⟨K_5, hK_6, h⟩ := letE h
  refine Ex.seqJ (fun a S => ∃ (same_3 : Bool), K_5 same_3 = some r ∧ a = mkS 92 [(2, .ptr 0 0), (3, .ptr 1 0), (5, .bool same_3)] ∧ S = ⟨[(C_api_Float a_1), (C_api_Float b_2)], []⟩) ?_ ?_
  · rcases condI h with ⟨hc_7, h⟩ | ⟨hc_7, h⟩
    · rcases condI h with ⟨hc_8, h⟩ | ⟨hc_8, h⟩
      · rcases condI h with ⟨hc_9, h⟩ | ⟨hc_9, h⟩
        · rcases condI h with ⟨hc_10, h⟩ | ⟨hc_10, h⟩
          · rcases condI h with ⟨hc_11, h⟩ | ⟨hc_11, h⟩
            · rcases condI h with ⟨hc_12, h⟩ | ⟨hc_12, h⟩
              · rcases condI h with ⟨hc_13, h⟩ | ⟨hc_13, h⟩
                · rcases condI h with ⟨hc_14, h⟩ | ⟨hc_14, h⟩
                  · refine regH 64 [(5, .eq (.bool true)), (12, .eq (.bool true)), (19, .eq (.bool true)), (26, .eq (.bool true)), (33, .eq (.bool true)), (40, .eq (.bool true)), (47, .eq (.bool true)), (54, .eq (.bool true)), (57, .eq (.int .i64 ((a_1.Loads.length : Nat) : Int))), (60, .eq (.int .i64 ((b_2.Loads.length : Nat) : Int)))] [2, 3, 5] [AV.bool (a_1.Length == b_2.Length) = AV.bool true, AV.bool (a_1.Width == b_2.Width) = AV.bool true, AV.bool (a_1.Front == b_2.Front) = AV.bool true, AV.bool (a_1.Rear == b_2.Rear) = AV.bool true, AV.bool (a_1.Turn == b_2.Turn) = AV.bool true, AV.bool (a_1.Kilos == b_2.Kilos) = AV.bool true, AV.bool (a_1.Middle == b_2.Middle) = AV.bool true, AV.bool (a_1.High == b_2.High) = AV.bool true, AV.int .i64 (((a_1.Loads.map A_api_Load).length : Nat) : Int) = AV.int .i64 ((a_1.Loads.length : Nat) : Int), AV.int .i64 (((b_2.Loads.map A_api_Load).length : Nat) : Int) = AV.int .i64 ((b_2.Loads.length : Nat) : Int)] (mkS 92 [(2, .ptr 0 0), (3, .ptr 1 0), (5, .bool (((a_1.Loads.length : Nat) : Int) == ((b_2.Loads.length : Nat) : Int)))]) (⟨[(C_api_Float a_1), (C_api_Float b_2)], []⟩) (by kernel_rfl) ⟨congrArg AV.bool hc_7, congrArg AV.bool hc_8, congrArg AV.bool hc_9, congrArg AV.bool hc_10, congrArg AV.bool hc_11, congrArg AV.bool hc_12, congrArg AV.bool hc_13, congrArg AV.bool hc_14, lenM _ _, lenM _ _, trivial⟩ rfl ?_
                    (try simp only [reduceCtorEq, AEx.ex.injEq, Nat.reduceEqDiff, if_true, if_false])
                    exact ⟨_, _, Forgets.refl _ _ _, (((a_1.Loads.length : Nat) : Int) == ((b_2.Loads.length : Nat) : Int)), h, rfl, rfl⟩
                  · refine regH 64 [(5, .eq (.bool true)), (12, .eq (.bool true)), (19, .eq (.bool true)), (26, .eq (.bool true)), (33, .eq (.bool true)), (40, .eq (.bool true)), (47, .eq (.bool true)), (54, .eq (.bool false))] [2, 3, 5] [AV.bool (a_1.Length == b_2.Length) = AV.bool true, AV.bool (a_1.Width == b_2.Width) = AV.bool true, AV.bool (a_1.Front == b_2.Front) = AV.bool true, AV.bool (a_1.Rear == b_2.Rear) = AV.bool true, AV.bool (a_1.Turn == b_2.Turn) = AV.bool true, AV.bool (a_1.Kilos == b_2.Kilos) = AV.bool true, AV.bool (a_1.Middle == b_2.Middle) = AV.bool true, AV.bool (a_1.High == b_2.High) = AV.bool false] (mkS 92 [(2, .ptr 0 0), (3, .ptr 1 0), (5, .bool false)]) (⟨[(C_api_Float a_1), (C_api_Float b_2)], []⟩) (by kernel_rfl) ⟨congrArg AV.bool hc_7, congrArg AV.bool hc_8, congrArg AV.bool hc_9, congrArg AV.bool hc_10, congrArg AV.bool hc_11, congrArg AV.bool hc_12, congrArg AV.bool hc_13, congrArg AV.bool hc_14, trivial⟩ rfl ?_
                    (try simp only [reduceCtorEq, AEx.ex.injEq, Nat.reduceEqDiff, if_true, if_false])
                    exact ⟨_, _, Forgets.refl _ _ _, false, h, rfl, rfl⟩
                · refine regH 64 [(5, .eq (.bool true)), (12, .eq (.bool true)), (19, .eq (.bool true)), (26, .eq (.bool true)), (33, .eq (.bool true)), (40, .eq (.bool true)), (47, .eq (.bool false))] [2, 3, 5] [AV.bool (a_1.Length == b_2.Length) = AV.bool true, AV.bool (a_1.Width == b_2.Width) = AV.bool true, AV.bool (a_1.Front == b_2.Front) = AV.bool true, AV.bool (a_1.Rear == b_2.Rear) = AV.bool true, AV.bool (a_1.Turn == b_2.Turn) = AV.bool true, AV.bool (a_1.Kilos == b_2.Kilos) = AV.bool true, AV.bool (a_1.Middle == b_2.Middle) = AV.bool false] (mkS 92 [(2, .ptr 0 0), (3, .ptr 1 0), (5, .bool false)]) (⟨[(C_api_Float a_1), (C_api_Float b_2)], []⟩) (by kernel_rfl) ⟨congrArg AV.bool hc_7, congrArg AV.bool hc_8, congrArg AV.bool hc_9, congrArg AV.bool hc_10, congrArg AV.bool hc_11, congrArg AV.bool hc_12, congrArg AV.bool hc_13, trivial⟩ rfl ?_
                  (try simp only [reduceCtorEq, AEx.ex.injEq, Nat.reduceEqDiff, if_true, if_false])
                  exact ⟨_, _, Forgets.refl _ _ _, false, h, rfl, rfl⟩
              · refine regH 64 [(5, .eq (.bool true)), (12, .eq (.bool true)), (19, .eq (.bool true)), (26, .eq (.bool true)), (33, .eq (.bool true)), (40, .eq (.bool false))] [2, 3, 5] [AV.bool (a_1.Length == b_2.Length) = AV.bool true, AV.bool (a_1.Width == b_2.Width) = AV.bool true, AV.bool (a_1.Front == b_2.Front) = AV.bool true, AV.bool (a_1.Rear == b_2.Rear) = AV.bool true, AV.bool (a_1.Turn == b_2.Turn) = AV.bool true, AV.bool (a_1.Kilos == b_2.Kilos) = AV.bool false] (mkS 92 [(2, .ptr 0 0), (3, .ptr 1 0), (5, .bool false)]) (⟨[(C_api_Float a_1), (C_api_Float b_2)], []⟩) (by kernel_rfl) ⟨congrArg AV.bool hc_7, congrArg AV.bool hc_8, congrArg AV.bool hc_9, congrArg AV.bool hc_10, congrArg AV.bool hc_11, congrArg AV.bool hc_12, trivial⟩ rfl ?_
                (try simp only [reduceCtorEq, AEx.ex.injEq, Nat.reduceEqDiff, if_true, if_false])
                exact ⟨_, _, Forgets.refl _ _ _, false, h, rfl, rfl⟩
            · refine regH 64 [(5, .eq (.bool true)), (12, .eq (.bool true)), (19, .eq (.bool true)), (26, .eq (.bool true)), (33, .eq (.bool false))] [2, 3, 5] [AV.bool (a_1.Length == b_2.Length) = AV.bool true, AV.bool (a_1.Width == b_2.Width) = AV.bool true, AV.bool (a_1.Front == b_2.Front) = AV.bool true, AV.bool (a_1.Rear == b_2.Rear) = AV.bool true, AV.bool (a_1.Turn == b_2.Turn) = AV.bool false] (mkS 92 [(2, .ptr 0 0), (3, .ptr 1 0), (5, .bool false)]) (⟨[(C_api_Float a_1), (C_api_Float b_2)], []⟩) (by kernel_rfl) ⟨congrArg AV.bool hc_7, congrArg AV.bool hc_8, congrArg AV.bool hc_9, congrArg AV.bool hc_10, congrArg AV.bool hc_11, trivial⟩ rfl ?_
              (try simp only [reduceCtorEq, AEx.ex.injEq, Nat.reduceEqDiff, if_true, if_false])
              exact ⟨_, _, Forgets.refl _ _ _, false, h, rfl, rfl⟩
          · refine regH 64 [(5, .eq (.bool true)), (12, .eq (.bool true)), (19, .eq (.bool true)), (26, .eq (.bool false))] [2, 3, 5] [AV.bool (a_1.Length == b_2.Length) = AV.bool true, AV.bool (a_1.Width == b_2.Width) = AV.bool true, AV.bool (a_1.Front == b_2.Front) = AV.bool true, AV.bool (a_1.Rear == b_2.Rear) = AV.bool false] (mkS 92 [(2, .ptr 0 0), (3, .ptr 1 0), (5, .bool false)]) (⟨[(C_api_Float a_1), (C_api_Float b_2)], []⟩) (by kernel_rfl) ⟨congrArg AV.bool hc_7, congrArg AV.bool hc_8, congrArg AV.bool hc_9, congrArg AV.bool hc_10, trivial⟩ rfl ?_
            (try simp only [reduceCtorEq, AEx.ex.injEq, Nat.reduceEqDiff, if_true, if_false])
            exact ⟨_, _, Forgets.refl _ _ _, false, h, rfl, rfl⟩
        · refine regH 64 [(5, .eq (.bool true)), (12, .eq (.bool true)), (19, .eq (.bool false))] [2, 3, 5] [AV.bool (a_1.Length == b_2.Length) = AV.bool true, AV.bool (a_1.Width == b_2.Width) = AV.bool true, AV.bool (a_1.Front == b_2.Front) = AV.bool false] (mkS 92 [(2, .ptr 0 0), (3, .ptr 1 0), (5, .bool false)]) (⟨[(C_api_Float a_1), (C_api_Float b_2)], []⟩) (by kernel_rfl) ⟨congrArg AV.bool hc_7, congrArg AV.bool hc_8, congrArg AV.bool hc_9, trivial⟩ rfl ?_
          (try simp only [reduceCtorEq, AEx.ex.injEq, Nat.reduceEqDiff, if_true, if_false])
          exact ⟨_, _, Forgets.refl _ _ _, false, h, rfl, rfl⟩
      · refine regH 64 [(5, .eq (.bool true)), (12, .eq (.bool false))] [2, 3, 5] [AV.bool (a_1.Length == b_2.Length) = AV.bool true, AV.bool (a_1.Width == b_2.Width) = AV.bool false] (mkS 92 [(2, .ptr 0 0), (3, .ptr 1 0), (5, .bool false)]) (⟨[(C_api_Float a_1), (C_api_Float b_2)], []⟩) (by kernel_rfl) ⟨congrArg AV.bool hc_7, congrArg AV.bool hc_8, trivial⟩ rfl ?_
        (try simp only [reduceCtorEq, AEx.ex.injEq, Nat.reduceEqDiff, if_true, if_false])
        exact ⟨_, _, Forgets.refl _ _ _, false, h, rfl, rfl⟩
    · refine regH 64 [(5, .eq (.bool false))] [2, 3, 5] [AV.bool (a_1.Length == b_2.Length) = AV.bool false] (mkS 92 [(2, .ptr 0 0), (3, .ptr 1 0), (5, .bool false)]) (⟨[(C_api_Float a_1), (C_api_Float b_2)], []⟩) (by kernel_rfl) ⟨congrArg AV.bool hc_7, trivial⟩ rfl ?_
      (try simp only [reduceCtorEq, AEx.ex.injEq, Nat.reduceEqDiff, if_true, if_false])
      exact ⟨_, _, Forgets.refl _ _ _, false, h, rfl, rfl⟩
  · rintro a S ⟨same_3, h, rfl, rfl⟩
    subst hK_6
    refine Ex.seq ?_
    refine Ex.seq ?_
    refine regH 1 [] [2, 3, 5, 6] [] (mkS 92 [(2, .ptr 0 0), (3, .ptr 1 0), (5, .bool same_3), (6, .int .i64 0)]) (⟨[(C_api_Float a_1), (C_api_Float b_2)], []⟩) (by kernel_rfl) trivial rfl ?_
    obtain ⟨K_17, hK_18, h⟩ := letE h
    refine Ex.blockJ (fun a S => ∃ (same_15 : Bool), K_17 same_15 = some r ∧ a = mkS 92 [(5, .bool same_15)] ∧ S = ⟨[], []⟩) ?_ ?_
    · obtain ⟨B_22, hB_23, h⟩ := loop2I h
      refine Ex.loopF (fun k a S => ∃ (same_19 : Bool), ∃ (i_20 : Int), loop2 B_22 k same_19 i_20 = some r ∧ a = mkS 92 [(2, .ptr 0 0), (3, .ptr 1 0), (5, .bool same_19), (6, .int .i64 i_20)] ∧ S = ⟨[(C_api_Float a_1), (C_api_Float b_2)], []⟩) N ⟨_, _, Forgets.refl _ _ _, same_3, 0, h, rfl, rfl⟩ ?_
      rintro k a S ⟨same_19, i_20, h, rfl, rfl⟩
      cases k with
      | zero => exact (loop2Z h).elim
      | succ k =>
        replace h := loop2S h hB_23
        refine Ex.seq ?_
        obtain ⟨K_26, hK_27, h⟩ := letE h
        refine Ex.seqJ (fun a S => ∃ (y_24 : Bool), K_26 y_24 = some r ∧ a = mkS 92 [(2, .ptr 0 0), (3, .ptr 1 0), (5, .bool same_19), (6, .int .i64 i_20), (77, .bool y_24)] ∧ S = ⟨[(C_api_Float a_1), (C_api_Float b_2)], []⟩) ?_ ?_
        · rcases condI h with ⟨hc_28, h⟩ | ⟨hc_28, h⟩
          · refine regH 8 [(1, .eq (.bool true)), (5, .eq (.int .i64 ((a_1.Loads.length : Nat) : Int)))] [2, 3, 5, 6, 77] [AV.bool same_19 = AV.bool true, AV.int .i64 (((a_1.Loads.map A_api_Load).length : Nat) : Int) = AV.int .i64 ((a_1.Loads.length : Nat) : Int)] (mkS 92 [(2, .ptr 0 0), (3, .ptr 1 0), (5, .bool same_19), (6, .int .i64 i_20), (77, .bool (decide (i_20 < ((a_1.Loads.length : Nat) : Int))))]) (⟨[(C_api_Float a_1), (C_api_Float b_2)], []⟩) (by kernel_rfl) ⟨congrArg AV.bool hc_28, lenM _ _, trivial⟩ rfl ?_
            (try simp only [reduceCtorEq, AEx.ex.injEq, Nat.reduceEqDiff, if_true, if_false])
            exact ⟨_, _, Forgets.refl _ _ _, (decide (i_20 < ((a_1.Loads.length : Nat) : Int))), h, rfl, rfl⟩
          · refine regH 8 [(1, .eq (.bool false))] [2, 3, 5, 6, 77] [AV.bool same_19 = AV.bool false] (mkS 92 [(2, .ptr 0 0), (3, .ptr 1 0), (5, .bool same_19), (6, .int .i64 i_20), (77, .bool false)]) (⟨[(C_api_Float a_1), (C_api_Float b_2)], []⟩) (by kernel_rfl) ⟨congrArg AV.bool hc_28, trivial⟩ rfl ?_
            (try simp only [reduceCtorEq, AEx.ex.injEq, Nat.reduceEqDiff, if_true, if_false])
            exact ⟨_, _, Forgets.refl _ _ _, false, h, rfl, rfl⟩
        · rintro a S ⟨y_24, h, rfl, rfl⟩
          subst hK_27
          rcases condI h with ⟨hc_29, h⟩ | ⟨hc_29, h⟩
          · refine Ex.condT _ rfl hc_29 ?_
            refine Ex.skip ?_
            refine Ex.seq ?_
            refine Ex.blockK ?_
            obtain ⟨x_30, hx_30, h⟩ := Option.bind_eq_some_iff.1 h
            obtain ⟨x_31, hx_31, h⟩ := Option.bind_eq_some_iff.1 h
            refine Ex.drawE (a1 := mkS 92 [(2, .ptr 0 0), (3, .ptr 1 0), (5, .bool same_19), (6, .int .i64 i_20), (77, .bool y_24), (80, .ptr 0 8), (81, .sl (a_1.Loads.map A_api_Load) none), (82, .int .i64 i_20), (83, .rop (C_api_Load x_30)), (84, (A_api_Load x_30)), (85, .ptr 1 8), (86, .sl (b_2.Loads.map A_api_Load) none), (87, .int .i64 i_20), (88, .rop (C_api_Load x_31)), (89, (A_api_Load x_31))]) (noClr_ok _) [] [] [] ?_ ?_
            · refine drS [0, 1] 10 [(3, .rop (C_api_Load x_30)), (8, .rop (C_api_Load x_31))] [LGet (a_1.Loads.map A_api_Load) i_20 7 (C_api_Load x_30), LGet (b_2.Loads.map A_api_Load) i_20 7 (C_api_Load x_31)] (mkS 92 [(2, .ptr 0 0), (3, .ptr 1 0), (5, .bool same_19), (6, .int .i64 i_20), (77, .bool y_24), (80, .ptr 0 8), (81, .sl (a_1.Loads.map A_api_Load) none), (82, .int .i64 i_20), (83, .rop (C_api_Load x_30)), (84, (A_api_Load x_30)), (85, .ptr 1 8), (86, .sl (b_2.Loads.map A_api_Load) none), (87, .int .i64 i_20), (88, .rop (C_api_Load x_31)), (89, (A_api_Load x_31))]) (by simp) (by kernel_rfl) ⟨LGet.of hx_30 rfl, LGet.of hx_31 rfl, trivial⟩ (by kernel_rfl) ?_
              exact DrO.nil rfl
            · dsimp only [List.getLastD_cons, List.getLastD_nil]
              refine runH 2 [] [2, 3, 5, 6] [] (mkS 92 [(2, .ptr 0 0), (3, .ptr 1 0), (5, .bool ((x_30.At == x_31.At) && (((x_30.Kilos.Lo == x_31.Kilos.Lo) && ((x_30.Kilos.Hi == x_31.Kilos.Hi) && true)) && (((x_30.Top.Lo == x_31.Top.Lo) && ((x_30.Top.Hi == x_31.Top.Hi) && true)) && ((x_30.Kind == x_31.Kind) && ((x_30.Watts == x_31.Watts) && true)))))), (6, .int .i64 i_20)]) (⟨[(C_api_Float a_1), (C_api_Float b_2)], []⟩) (by kernel_rfl) trivial ?_
              refine ExO.nil ?_
              refine regH 3 [] [2, 3, 5, 6] [] (mkS 92 [(2, .ptr 0 0), (3, .ptr 1 0), (5, .bool ((x_30.At == x_31.At) && (((x_30.Kilos.Lo == x_31.Kilos.Lo) && ((x_30.Kilos.Hi == x_31.Kilos.Hi) && true)) && (((x_30.Top.Lo == x_31.Top.Lo) && ((x_30.Top.Hi == x_31.Top.Hi) && true)) && ((x_30.Kind == x_31.Kind) && ((x_30.Watts == x_31.Watts) && true)))))), (6, .int .i64 (IntKind.i64.wrap (i_20 + 1)))]) (⟨[(C_api_Float a_1), (C_api_Float b_2)], []⟩) (by kernel_rfl) trivial rfl ?_
              dsimp only
              exact ⟨_, _, Forgets.refl _ _ _, k, Nat.lt_succ_self k, ((x_30.At == x_31.At) && (((x_30.Kilos.Lo == x_31.Kilos.Lo) && ((x_30.Kilos.Hi == x_31.Kilos.Hi) && true)) && (((x_30.Top.Lo == x_31.Top.Lo) && ((x_30.Top.Hi == x_31.Top.Hi) && true)) && ((x_30.Kind == x_31.Kind) && ((x_30.Watts == x_31.Watts) && true))))), (IntKind.i64.wrap (i_20 + 1)), h, rfl, rfl⟩
          · refine Ex.condF _ rfl hc_29 ?_
            refine Ex.exit ?_
            (try simp only [reduceCtorEq, AEx.ex.injEq, Nat.reduceEqDiff, if_true, if_false])
            exact ⟨_, _, forgetA (m := 92) 0 [] [(5, .bool same_19)] [] [] (by simp) (by simp) ⟨rfl, trivial⟩ (by simp [re, re1, AV.clean, List.idxOf?, List.findIdx?, List.findIdx?.go, cleanL, cleanI, cleanBo, cleanSt, cleanII, KL_bateriakit_Drum, KL_api_Span, KL_api_Load, KL_api_Float, KL_api_Near, KB_bateriakit_Drum, KB_api_Span, KB_api_Load, KB_api_Float, KB_api_Near]) rfl (by decide), same_19, h, rfl, rfl⟩
    · rintro a S ⟨same_15, h, rfl, rfl⟩
      subst hK_18
      refine Ex.seq ?_
      refine regH 2 [] [4] [] (mkS 92 [(4, .bool same_15)]) (⟨[], []⟩) (by kernel_rfl) trivial rfl ?_
      refine Ex.ret ?_
      obtain rfl := Option.some.inj h
      exact ⟨.inr rfl, .bool same_15, by kernel_rfl, by kernel_rfl, by kernel_rfl, by kernel_rfl⟩
def p_bateriakit_EqNears (N : Nat) (a_1 : (List T_api_Near)) (b_2 : (List T_api_Near)) : Option (Bool) := (letJ (fun (same_3 : Bool) => some same_3) (fun k_4 => (loop2 (fun rec_9 (same_7 : Bool) (i_8 : Int) => (letJ (fun (y_12 : Bool) => (bif y_12 then ((getI a_1 i_8).bind fun x_18 => ((getI b_2 i_8).bind fun x_19 => (rec_9 ((x_18.Power == x_19.Power) && ((x_18.Fire == x_19.Fire) && true)) (IntKind.i64.wrap (i_8 + 1))))) else (k_4 same_7))) (fun k_13 => (bif same_7 then (k_13 (decide (i_8 < ((a_1.length : Nat) : Int)))) else (k_13 false))))) N (((a_1.length : Nat) : Int) == ((b_2.length : Nat) : Int)) 0)))
def v_bateriakit_EqNears (r : Bool) : AV := .bool r
theorem b_bateriakit_EqNears (r : Bool) (n n2 m : Nat) : back n n2 m (v_bateriakit_EqNears r) = some (v_bateriakit_EqNears r) := by simp [v_bateriakit_EqNears, back, back1, AV.plain, AV.plain1, AV.clean, cleanL, cleanI, cleanBo, cleanSt, cleanII, KL_bateriakit_Drum, KL_api_Span, KL_api_Load, KL_api_Float, KL_api_Near, A_bateriakit_Drum, C_bateriakit_Drum, A_api_Span, C_api_Span, A_api_Load, C_api_Load, A_api_Float, C_api_Float, A_api_Near, C_api_Near]
theorem d_bateriakit_EqNears (N : Nat) (a_1 : (List T_api_Near)) (b_2 : (List T_api_Near)) (r : Bool) (h : p_bateriakit_EqNears N a_1 b_2 = some r) : Does Try.prog 41 [.sl (a_1.map A_api_Near) none, .sl (b_2.map A_api_Near) none] [] fun v c => v = v_bateriakit_EqNears r ∧ c = [] := by
  unfold p_bateriakit_EqNears at h
  refine Does.ofL comp41 _ _ rfl rfl ?_
  refine Ex.seq ?_
  refine regH 1 [] [0, 1] [] (mkS 31 [(0, .sl (a_1.map A_api_Near) none), (1, .sl (b_2.map A_api_Near) none)]) (⟨[], []⟩) (by kernel_rfl) trivial rfl ?_
  refine Ex.seq ?_
  refine regH 6 [(1, .eq (.int .i64 ((a_1.length : Nat) : Int))), (3, .eq (.int .i64 ((b_2.length : Nat) : Int)))] [0, 1, 5] [AV.int .i64 (((a_1.map A_api_Near).length : Nat) : Int) = AV.int .i64 ((a_1.length : Nat) : Int), AV.int .i64 (((b_2.map A_api_Near).length : Nat) : Int) = AV.int .i64 ((b_2.length : Nat) : Int)] (mkS 31 [(0, .sl (a_1.map A_api_Near) none), (1, .sl (b_2.map A_api_Near) none), (5, .bool (((a_1.length : Nat) : Int) == ((b_2.length : Nat) : Int)))]) (⟨[], []⟩) (by kernel_rfl) ⟨lenM _ _, lenM _ _, trivial⟩ rfl ?_
  refine Ex.seq ?_
  refine Ex.seq ?_
  refine regH 1 [] [0, 1, 5, 6] [] (mkS 31 [(0, .sl (a_1.map A_api_Near) none), (1, .sl (b_2.map A_api_Near) none), (5, .bool (((a_1.length : Nat) : Int) == ((b_2.length : Nat) : Int))), (6, .int .i64 0)]) (⟨[], []⟩) (by kernel_rfl) trivial rfl ?_
  obtain ⟨K_5, hK_6, h⟩ := letE h
  refine Ex.blockJ (fun a S => ∃ (same_3 : Bool), K_5 same_3 = some r ∧ a = mkS 31 [(5, .bool same_3)] ∧ S = ⟨[], []⟩) ?_ ?_
  · obtain ⟨B_10, hB_11, h⟩ := loop2I h
    refine Ex.loopF (fun k a S => ∃ (same_7 : Bool), ∃ (i_8 : Int), loop2 B_10 k same_7 i_8 = some r ∧ a = mkS 31 [(0, .sl (a_1.map A_api_Near) none), (1, .sl (b_2.map A_api_Near) none), (5, .bool same_7), (6, .int .i64 i_8)] ∧ S = ⟨[], []⟩) N ⟨_, _, Forgets.refl _ _ _, (((a_1.length : Nat) : Int) == ((b_2.length : Nat) : Int)), 0, h, rfl, rfl⟩ ?_
    rintro k a S ⟨same_7, i_8, h, rfl, rfl⟩
    cases k with
    | zero => exact (loop2Z h).elim
    | succ k =>
      replace h := loop2S h hB_11
      refine Ex.seq ?_
      obtain ⟨K_14, hK_15, h⟩ := letE h
      refine Ex.seqJ (fun a S => ∃ (y_12 : Bool), K_14 y_12 = some r ∧ a = mkS 31 [(0, .sl (a_1.map A_api_Near) none), (1, .sl (b_2.map A_api_Near) none), (5, .bool same_7), (6, .int .i64 i_8), (18, .bool y_12)] ∧ S = ⟨[], []⟩) ?_ ?_
      · rcases condI h with ⟨hc_16, h⟩ | ⟨hc_16, h⟩
        · refine regH 7 [(1, .eq (.bool true)), (4, .eq (.int .i64 ((a_1.length : Nat) : Int)))] [0, 1, 5, 6, 18] [AV.bool same_7 = AV.bool true, AV.int .i64 (((a_1.map A_api_Near).length : Nat) : Int) = AV.int .i64 ((a_1.length : Nat) : Int)] (mkS 31 [(0, .sl (a_1.map A_api_Near) none), (1, .sl (b_2.map A_api_Near) none), (5, .bool same_7), (6, .int .i64 i_8), (18, .bool (decide (i_8 < ((a_1.length : Nat) : Int))))]) (⟨[], []⟩) (by kernel_rfl) ⟨congrArg AV.bool hc_16, lenM _ _, trivial⟩ rfl ?_
          (try simp only [reduceCtorEq, AEx.ex.injEq, Nat.reduceEqDiff, if_true, if_false])
          exact ⟨_, _, Forgets.refl _ _ _, (decide (i_8 < ((a_1.length : Nat) : Int))), h, rfl, rfl⟩
        · refine regH 7 [(1, .eq (.bool false))] [0, 1, 5, 6, 18] [AV.bool same_7 = AV.bool false] (mkS 31 [(0, .sl (a_1.map A_api_Near) none), (1, .sl (b_2.map A_api_Near) none), (5, .bool same_7), (6, .int .i64 i_8), (18, .bool false)]) (⟨[], []⟩) (by kernel_rfl) ⟨congrArg AV.bool hc_16, trivial⟩ rfl ?_
          (try simp only [reduceCtorEq, AEx.ex.injEq, Nat.reduceEqDiff, if_true, if_false])
          exact ⟨_, _, Forgets.refl _ _ _, false, h, rfl, rfl⟩
      · rintro a S ⟨y_12, h, rfl, rfl⟩
        subst hK_15
        rcases condI h with ⟨hc_17, h⟩ | ⟨hc_17, h⟩
        · refine Ex.condT _ rfl hc_17 ?_
          refine Ex.skip ?_
          refine Ex.seq ?_
          refine Ex.blockK ?_
          obtain ⟨x_18, hx_18, h⟩ := Option.bind_eq_some_iff.1 h
          obtain ⟨x_19, hx_19, h⟩ := Option.bind_eq_some_iff.1 h
          refine Ex.drawE (a1 := mkS 31 [(0, .sl (a_1.map A_api_Near) none), (1, .sl (b_2.map A_api_Near) none), (5, .bool same_7), (6, .int .i64 i_8), (18, .bool y_12), (21, .sl (a_1.map A_api_Near) none), (22, .int .i64 i_8), (23, .rop (C_api_Near x_18)), (24, (A_api_Near x_18)), (25, .sl (b_2.map A_api_Near) none), (26, .int .i64 i_8), (27, .rop (C_api_Near x_19)), (28, (A_api_Near x_19))]) (noClr_ok _) [] [] [] ?_ ?_
          · refine drS [] 8 [(2, .rop (C_api_Near x_18)), (6, .rop (C_api_Near x_19))] [LGet (a_1.map A_api_Near) i_8 2 (C_api_Near x_18), LGet (b_2.map A_api_Near) i_8 2 (C_api_Near x_19)] (mkS 31 [(0, .sl (a_1.map A_api_Near) none), (1, .sl (b_2.map A_api_Near) none), (5, .bool same_7), (6, .int .i64 i_8), (18, .bool y_12), (21, .sl (a_1.map A_api_Near) none), (22, .int .i64 i_8), (23, .rop (C_api_Near x_18)), (24, (A_api_Near x_18)), (25, .sl (b_2.map A_api_Near) none), (26, .int .i64 i_8), (27, .rop (C_api_Near x_19)), (28, (A_api_Near x_19))]) (by simp) (by kernel_rfl) ⟨LGet.of hx_18 rfl, LGet.of hx_19 rfl, trivial⟩ (by kernel_rfl) ?_
            exact DrO.nil rfl
          · dsimp only [List.getLastD_cons, List.getLastD_nil]
            refine runH 2 [] [0, 1, 5, 6] [] (mkS 31 [(0, .sl (a_1.map A_api_Near) none), (1, .sl (b_2.map A_api_Near) none), (5, .bool ((x_18.Power == x_19.Power) && ((x_18.Fire == x_19.Fire) && true))), (6, .int .i64 i_8)]) (⟨[], []⟩) (by kernel_rfl) trivial ?_
            refine ExO.nil ?_
            refine regH 3 [] [0, 1, 5, 6] [] (mkS 31 [(0, .sl (a_1.map A_api_Near) none), (1, .sl (b_2.map A_api_Near) none), (5, .bool ((x_18.Power == x_19.Power) && ((x_18.Fire == x_19.Fire) && true))), (6, .int .i64 (IntKind.i64.wrap (i_8 + 1)))]) (⟨[], []⟩) (by kernel_rfl) trivial rfl ?_
            dsimp only
            exact ⟨_, _, Forgets.refl _ _ _, k, Nat.lt_succ_self k, ((x_18.Power == x_19.Power) && ((x_18.Fire == x_19.Fire) && true)), (IntKind.i64.wrap (i_8 + 1)), h, rfl, rfl⟩
        · refine Ex.condF _ rfl hc_17 ?_
          refine Ex.exit ?_
          (try simp only [reduceCtorEq, AEx.ex.injEq, Nat.reduceEqDiff, if_true, if_false])
          exact ⟨_, _, forgetK [5], same_7, h, rfl, rfl⟩
  · rintro a S ⟨same_3, h, rfl, rfl⟩
    subst hK_6
    refine Ex.seq ?_
    refine regH 2 [] [4] [] (mkS 31 [(4, .bool same_3)]) (⟨[], []⟩) (by kernel_rfl) trivial rfl ?_
    refine Ex.ret ?_
    obtain rfl := Option.some.inj h
    exact ⟨.inr rfl, .bool same_3, by kernel_rfl, by kernel_rfl, by kernel_rfl, by kernel_rfl⟩
end Go.Proofs.Ytfcjcjncfniclaa
end
section
namespace Go.Proofs.Ytfcjcjncfniclaa
open Go.RowKit
set_option linter.unusedVariables false
set_option linter.unusedSimpArgs false
set_option maxRecDepth 10000
set_option maxHeartbeats 4000000

structure LdOk (fr re : Int) (l : T_api_Load) : Prop where
  a1 : fr ≤ l.At
  a2 : l.At ≤ re
  k1 : 0 ≤ l.Kilos.Lo
  k2 : l.Kilos.Lo ≤ l.Kilos.Hi
  k3 : l.Kilos.Hi ≤ 100000
  t1 : 0 ≤ l.Top.Lo
  t2 : l.Top.Lo ≤ l.Top.Hi
  t3 : l.Top.Hi ≤ 2000
  d1 : 1 ≤ l.Kind
  d2 : l.Kind ≤ 4
  w1 : 0 ≤ l.Watts
  w2 : l.Watts ≤ 1000000
  w3 : l.Watts = 0 ∨ l.Kind = 2 ∨ l.Kind = 3
structure FlOk (f : T_api_Float) : Prop where
  l1 : 1 ≤ f.Length
  l2 : f.Length ≤ 3000
  w1 : 1 ≤ f.Width
  w2 : f.Width ≤ 1000
  f1 : 0 ≤ f.Front
  f2 : f.Front < f.Rear
  f3 : f.Rear ≤ f.Length
  t1 : 0 ≤ f.Turn
  t2 : f.Turn ≤ 20000
  k1 : 0 ≤ f.Kilos
  k2 : f.Kilos ≤ 100000
  m1 : 0 ≤ f.Middle
  m2 : f.Middle ≤ f.Length
  h1 : 0 ≤ f.High
  h2 : f.High ≤ 2000
  n : f.Loads.length ≤ 20
  all : ∀ l ∈ f.Loads, LdOk f.Front f.Rear l
structure FlMade (f : T_api_Float) (n : Int) : Prop where
  ok : FlOk f
  n : (f.Loads.length : Int) ≤ n
  k : f.Kilos ≤ 5000
  l : f.Length ≤ 1200
  a : ∀ l ∈ f.Loads, l.Kilos.Hi ≤ 900

theorem floatOf_p (N : Nat) (d : T_bateriakit_Drum) (n : Int) (h0 : 0 ≤ n) (h1 : n ≤ 20) (hN : 30 < N) : ∃ f d', p_bateriakit_FloatOf N d n = some (f, d') ∧ FlMade f n := by
  unfold p_bateriakit_FloatOf
  obtain ⟨r3, d3, e, m3⟩ := any_p N d [20, 1200] (by simp) (by simp)
  rw [e, Option.bind_some]; clear e
  have m3 : r3 = 20 ∨ r3 = 1200 := by simpa using m3
  obtain ⟨r4, d4, e, a4, b4, _⟩ := mid_p N d3 2 r3 (by omega) (by omega) (by omega) (by omega)
  rw [e, Option.bind_some]; clear e
  have b4 := b4 (by omega)
  obtain ⟨r5, d5, e, a5, b5, _⟩ := mid_p N d4 1 400 (by omega) (by omega) (by omega) (by omega)
  rw [e, Option.bind_some]; clear e
  have b5 := b5 (by omega)
  obtain ⟨r6, d6, e, a6, _, b6⟩ := roll_p N d5 1500 (by omega)
  rw [e, Option.bind_some]; clear e
  have b6 := b6 (by omega)
  obtain ⟨r7, d7, e, m7⟩ := any_p N d6 [0, r6] (by simp) (by simp)
  rw [e, Option.bind_some]; clear e
  have m7 : r7 = 0 ∨ r7 = r6 := by simpa using m7
  obtain ⟨r8, d8, e, a8, _, b8⟩ := roll_p N d7 5000 (by omega)
  rw [e, Option.bind_some]; clear e
  have b8 := b8 (by omega)
  obtain ⟨r9, d9, e, m9⟩ := any_p N d8 [0, r8] (by simp) (by simp)
  rw [e, Option.bind_some]; clear e
  have m9 : r9 = 0 ∨ r9 = r8 := by simpa using m9
  obtain ⟨r10, d10, e, a10, _, b10⟩ := roll_p N d9 500 (by omega)
  rw [e, Option.bind_some]; clear e
  have b10 := b10 (by omega)
  obtain ⟨r11, d11, e, a11, c11, b11⟩ := roll_p N d10 r4 (by omega)
  rw [e, Option.bind_some]; clear e
  have b11 := b11 (by omega)
  show ∃ f d', ((p_bateriakit_Drum_Mid N d11 (IntKind.i64.wrap (r11 + 1)) r4).bind _) = some (f, d') ∧ _
  rw [w64 (x := r11 + 1) (by omega) (by omega)]
  obtain ⟨r12, d12, e, a12, b12, _⟩ := mid_p N d11 (r11 + 1) r4 (by omega) (by omega) (by omega) (by omega)
  rw [e, Option.bind_some]; clear e
  have b12 := b12 (by omega)
  obtain ⟨r13, d13, e, a13, b13, _⟩ := mid_p N d12 0 r4 (by omega) (by omega) (by omega) (by omega)
  rw [e, Option.bind_some]; clear e
  have b13 := b13 (by omega)
  show ∃ f d', ((p_bateriakit_Drum_Roll N d13 (IntKind.i64.wrap (n + 1))).bind _) = some (f, d') ∧ _
  rw [w64 (x := n + 1) (by omega) (by omega)]
  obtain ⟨r14, d14, e, a14, c14, b14⟩ := roll_p N d13 (n + 1) (by omega)
  rw [e, Option.bind_some, letJ_eq]; clear e
  have hr14 : r14 ≤ n := by
    by_cases hc : n + 1 < 2
    · have := c14 hc; omega
    · have := b14 (by omega); omega
  refine loop3_T (fun x => ∃ f d', x = some (f, d') ∧ FlMade f n) (fun i b ls => 0 ≤ i ∧ (ls.length : Int) + i ≤ n ∧ ∀ l ∈ ls, LdOk r11 r12 l ∧ l.Kilos.Hi ≤ 900) (fun i b ls => i.toNat) ?_ N r14 _ [] ⟨a14, by simpa using hr14, by simp⟩ (by omega)
  rintro rec i b ls ⟨hi0, hi1, hall⟩ ih
  by_cases hc : i > 0
  · rw [show decide (i > 0) = true from decide_eq_true hc, cond_true]
    obtain ⟨r27, d27, e, a27, b27, _⟩ := mid_p N ⟨b⟩ r11 r12 (by omega) (by omega) (by omega) (by omega)
    rw [e, Option.bind_some]; clear e
    have b27 := b27 (by omega)
    obtain ⟨r28, d28, e, m28⟩ := any_p N d27 [5, 900] (by simp) (by simp)
    rw [e, Option.bind_some]; clear e
    have m28 : r28 = 5 ∨ r28 = 900 := by simpa using m28
    obtain ⟨x29, d29, e, a29, b29, c29⟩ := span_p N d28 0 r28 (by omega) (by omega) (by omega)
    rw [e, Option.bind_some]; clear e
    obtain ⟨r30, d30, e, m30⟩ := any_p N d29 [20, 700] (by simp) (by simp)
    rw [e, Option.bind_some]; clear e
    have m30 : r30 = 20 ∨ r30 = 700 := by simpa using m30
    obtain ⟨x31, d31, e, a31, b31, c31⟩ := span_p N d30 0 r30 (by omega) (by omega) (by omega)
    rw [e, Option.bind_some]; clear e
    obtain ⟨r32, d32, e, a32, b32, _⟩ := mid_p N d31 1 4 (by omega) (by omega) (by omega) (by omega)
    rw [e, Option.bind_some]; clear e
    have b32 := b32 (by omega)
    have key : ∀ (b' wt : Int), 0 ≤ wt → wt ≤ 1000000 → (wt = 0 ∨ r32 = 2 ∨ r32 = 3) → ∃ f d', ((pushI ls ([(⟨r27, x29, x31, r32, wt⟩ : T_api_Load)] : List T_api_Load)).bind fun l_45 => (rec (IntKind.i64.wrap (i - 1)) b' l_45)) = some (f, d') ∧ FlMade f n := by
      intro b' wt g0 g1 g2
      rw [pushI_ok (by simp; omega), Option.bind_some, w64 (x := i - 1) (by omega) (by omega)]
      refine ih _ _ _ ⟨by omega, by simp; omega, ?_⟩ (by omega)
      intro l hl
      rcases List.mem_append.1 hl with hl | hl
      · exact hall l hl
      · have : l = ⟨r27, x29, x31, r32, wt⟩ := by simpa using hl
        subst this
        exact ⟨⟨a27, b27, a29, b29, by show x29.Hi ≤ 100000; omega, a31, b31, by show x31.Hi ≤ 2000; omega, a32, b32, g0, g1, g2⟩, by show x29.Hi ≤ 900; omega⟩
    rw [letJ_eq, letJ_eq]
    dsimp only
    by_cases h2 : r32 = 2
    · rw [show (r32 == 2) = true by simp [h2], cond_true, cond_true]
      obtain ⟨r44, d44, e, a44, _, b44⟩ := roll_p N d32 3000 (by omega)
      have b44 := b44 (by omega)
      rw [e, Option.bind_some]
      exact key _ _ a44 (by omega) (.inr (.inl h2))
    · rw [show (r32 == 2) = false by simp [h2], cond_false]
      by_cases h3 : r32 = 3
      · rw [show (r32 == 3) = true by simp [h3], cond_true]
        obtain ⟨r44, d44, e, a44, _, b44⟩ := roll_p N d32 3000 (by omega)
        have b44 := b44 (by omega)
        rw [e, Option.bind_some]
        exact key _ _ a44 (by omega) (.inr (.inr h3))
      · rw [show (r32 == 3) = false by simp [h3], cond_false]
        exact key _ _ (by omega) (by omega) (.inl rfl)
  · rw [show decide (i > 0) = false from decide_eq_false hc, cond_false]
    refine ⟨_, _, rfl, ⟨?_, ?_, ?_, ?_, ?_⟩⟩
    · exact ⟨by show 1 ≤ r4; omega, by show r4 ≤ 3000; omega, by show 1 ≤ r5; omega, by show r5 ≤ 1000; omega, by show 0 ≤ r11; omega, by show r11 < r12; omega, by show r12 ≤ r4; omega, by show 0 ≤ r7; omega, by show r7 ≤ 20000; omega, by show 0 ≤ r9; omega, by show r9 ≤ 100000; omega, by show 0 ≤ r13; omega, by show r13 ≤ r4; omega, by show 0 ≤ r10; omega, by show r10 ≤ 2000; omega, by show ls.length ≤ 20; omega, fun l hl => (hall l hl).1⟩
    · show (ls.length : Int) ≤ n; omega
    · show r9 ≤ 5000; omega
    · show r4 ≤ 1200; omega
    · exact fun l hl => (hall l hl).2
end Go.Proofs.Ytfcjcjncfniclaa
end
section
namespace Go.Proofs.Ytfcjcjncfniclaa
open Go.RowKit
set_option linter.unusedVariables false
set_option linter.unusedSimpArgs false
set_option maxRecDepth 10000
set_option maxHeartbeats 4000000
def p_float_within (N : Nat) (n_1 : Int) (least_2 : Int) (most_3 : Int) : Option (Bool) := (bif (decide (n_1 ≥ least_2)) then some (decide (n_1 ≤ most_3)) else some false)
def v_float_within (r : Bool) : AV := .bool r
theorem a_float_within (n_1 : Int) (least_2 : Int) (most_3 : Int) : [.int .i64 n_1, .int .i64 least_2, .int .i64 most_3].mapM (ren []) = some [.int .i64 n_1, .int .i64 least_2, .int .i64 most_3] := by simp [ren, ren1, AV.plain, AV.plain1, AV.clean, cleanL, cleanI, cleanBo, cleanSt, cleanII, KL_bateriakit_Drum, KL_api_Span, KL_api_Load, KL_api_Float, KL_api_Near, A_bateriakit_Drum, C_bateriakit_Drum, A_api_Span, C_api_Span, A_api_Load, C_api_Load, A_api_Float, C_api_Float, A_api_Near, C_api_Near]
theorem b_float_within (r : Bool) (n n2 m : Nat) : back n n2 m (v_float_within r) = some (v_float_within r) := by simp [v_float_within, back, back1, AV.plain, AV.plain1, AV.clean, cleanL, cleanI, cleanBo, cleanSt, cleanII, KL_bateriakit_Drum, KL_api_Span, KL_api_Load, KL_api_Float, KL_api_Near, A_bateriakit_Drum, C_bateriakit_Drum, A_api_Span, C_api_Span, A_api_Load, C_api_Load, A_api_Float, C_api_Float, A_api_Near, C_api_Near]
theorem d_float_within (N : Nat) (n_1 : Int) (least_2 : Int) (most_3 : Int) (r : Bool) (h : p_float_within N n_1 least_2 most_3 = some r) : Does Try.prog 83 [.int .i64 n_1, .int .i64 least_2, .int .i64 most_3] [] fun v c => v = v_float_within r ∧ c = [] := by
  unfold p_float_within at h
  refine Does.ofL comp83 _ _ rfl rfl ?_
  refine Ex.seq ?_
  refine regH 1 [] [0, 1, 2] [] (mkS 15 [(0, .int .i64 n_1), (1, .int .i64 least_2), (2, .int .i64 most_3)]) (⟨[], []⟩) (by kernel_rfl) trivial rfl ?_
  refine Ex.seq ?_
  rcases condI h with ⟨hc_4, h⟩ | ⟨hc_4, h⟩
  · refine regH 9 [(3, .eq (.bool true))] [6] [AV.bool (decide (n_1 ≥ least_2)) = AV.bool true] (mkS 15 [(6, .bool (decide (n_1 ≤ most_3)))]) (⟨[], []⟩) (by kernel_rfl) ⟨congrArg AV.bool hc_4, trivial⟩ rfl ?_
    refine Ex.ret ?_
    obtain rfl := Option.some.inj h
    exact ⟨.inr rfl, .bool (decide (n_1 ≤ most_3)), by kernel_rfl, by kernel_rfl, by kernel_rfl, by kernel_rfl⟩
  · refine regH 9 [(3, .eq (.bool false))] [6] [AV.bool (decide (n_1 ≥ least_2)) = AV.bool false] (mkS 15 [(6, .bool false)]) (⟨[], []⟩) (by kernel_rfl) ⟨congrArg AV.bool hc_4, trivial⟩ rfl ?_
    refine Ex.ret ?_
    obtain rfl := Option.some.inj h
    exact ⟨.inr rfl, .bool false, by kernel_rfl, by kernel_rfl, by kernel_rfl, by kernel_rfl⟩
def p_float_checkFrame (N : Nat) (f_1 : T_api_Float) : Option (Int) := (letJ (fun (y_2 : Bool) => (bif y_2 then some 2 else (letJ (fun (y_10 : Bool) => (bif y_10 then some 2 else (bif (decide (f_1.Front ≥ f_1.Rear)) then some 9 else (letJ (fun (y_19 : Bool) => (bif y_19 then some 2 else (letJ (fun (y_27 : Bool) => (bif y_27 then some 2 else some 0)) (fun k_28 => ((p_float_within N f_1.Middle 0 f_1.Length).bind fun r_31 => (bif (!r_31) then (k_28 true) else ((p_float_within N f_1.High 0 2000).bind fun r_33 => (k_28 (!r_33))))))))) (fun k_20 => ((p_float_within N f_1.Turn 0 20000).bind fun r_23 => (bif (!r_23) then (k_20 true) else ((p_float_within N f_1.Kilos 0 100000).bind fun r_25 => (k_20 (!r_25)))))))))) (fun k_11 => ((p_float_within N f_1.Front 0 f_1.Length).bind fun r_14 => (bif (!r_14) then (k_11 true) else ((p_float_within N f_1.Rear 0 f_1.Length).bind fun r_16 => (k_11 (!r_16))))))))) (fun k_3 => ((p_float_within N f_1.Length 1 3000).bind fun r_6 => (bif (!r_6) then (k_3 true) else ((p_float_within N f_1.Width 1 1000).bind fun r_8 => (k_3 (!r_8)))))))
def v_float_checkFrame (r : Int) : AV := .int .i64 r
theorem a_float_checkFrame (f_1 : T_api_Float) : [(A_api_Float f_1)].mapM (ren []) = some [(A_api_Float f_1)] := by simp [ren, ren1, AV.plain, AV.plain1, AV.clean, cleanL, cleanI, cleanBo, cleanSt, cleanII, KL_bateriakit_Drum, KL_api_Span, KL_api_Load, KL_api_Float, KL_api_Near, A_bateriakit_Drum, C_bateriakit_Drum, A_api_Span, C_api_Span, A_api_Load, C_api_Load, A_api_Float, C_api_Float, A_api_Near, C_api_Near]
theorem b_float_checkFrame (r : Int) (n n2 m : Nat) : back n n2 m (v_float_checkFrame r) = some (v_float_checkFrame r) := by simp [v_float_checkFrame, back, back1, AV.plain, AV.plain1, AV.clean, cleanL, cleanI, cleanBo, cleanSt, cleanII, KL_bateriakit_Drum, KL_api_Span, KL_api_Load, KL_api_Float, KL_api_Near, A_bateriakit_Drum, C_bateriakit_Drum, A_api_Span, C_api_Span, A_api_Load, C_api_Load, A_api_Float, C_api_Float, A_api_Near, C_api_Near]
theorem d_float_checkFrame (N : Nat) (f_1 : T_api_Float) (r : Int) (h : p_float_checkFrame N f_1 = some r) : Does Try.prog 72 [(A_api_Float f_1)] [] fun v c => v = v_float_checkFrame r ∧ c = [] := by
  unfold p_float_checkFrame at h
  refine Does.ofL comp72 _ _ rfl rfl ?_
  refine Ex.seq ?_
  refine regH 2 [] [1] [] (mkS 59 [(1, .ptr 0 0)]) (⟨[(C_api_Float f_1)], []⟩) (by kernel_rfl) trivial rfl ?_
  refine Ex.seq ?_
  refine Ex.blockK ?_
  obtain ⟨K_4, hK_5, h⟩ := letE h
  refine Ex.seqJ (fun a S => ∃ (y_2 : Bool), K_4 y_2 = some r ∧ a = mkS 59 [(1, .ptr 0 0), (3, .bool y_2)] ∧ S = ⟨[(C_api_Float f_1)], []⟩) ?_ ?_
  · obtain ⟨r_6, hr_6, h⟩ := Option.bind_eq_some_iff.1 h
    refine Ex.reg ?_
    refine runH 2 [] [1, 5] [] (mkS 59 [(1, .ptr 0 0), (5, .int .i64 f_1.Length)]) (⟨[(C_api_Float f_1)], []⟩) (by kernel_rfl) trivial ?_
    refine ExO.callL [] [.int .i64 f_1.Length, .int .i64 1, .int .i64 3000] rfl rfl (a_float_within f_1.Length 1 3000) rfl rfl (d_float_within N f_1.Length 1 3000 r_6 hr_6) (b_float_within _ _ _ _) rfl ?_
    rcases condI h with ⟨hc_7, h⟩ | ⟨hc_7, h⟩
    · refine runH 8 [(1, .eq (.bool true))] [1, 3] [AV.bool (!r_6) = AV.bool true] (mkS 59 [(1, .ptr 0 0), (3, .bool true)]) (⟨[(C_api_Float f_1)], []⟩) (by kernel_rfl) ⟨congrArg AV.bool hc_7, trivial⟩ ?_
      refine ExO.nil ?_
      (try simp only [reduceCtorEq, AEx.ex.injEq, Nat.reduceEqDiff, if_true, if_false])
      exact ⟨_, _, Forgets.refl _ _ _, true, h, rfl, rfl⟩
    · obtain ⟨r_8, hr_8, h⟩ := Option.bind_eq_some_iff.1 h
      refine runH 4 [(1, .eq (.bool false))] [1, 8, 10] [AV.bool (!r_6) = AV.bool false] (mkS 59 [(1, .ptr 0 0), (8, .bool false), (10, .int .i64 f_1.Width)]) (⟨[(C_api_Float f_1)], []⟩) (by kernel_rfl) ⟨congrArg AV.bool hc_7, trivial⟩ ?_
      refine ExO.callL [] [.int .i64 f_1.Width, .int .i64 1, .int .i64 1000] rfl rfl (a_float_within f_1.Width 1 1000) rfl rfl (d_float_within N f_1.Width 1 1000 r_8 hr_8) (b_float_within _ _ _ _) rfl ?_
      refine runH 3 [] [1, 3] [] (mkS 59 [(1, .ptr 0 0), (3, .bool (!r_8))]) (⟨[(C_api_Float f_1)], []⟩) (by kernel_rfl) trivial ?_
      refine ExO.nil ?_
      (try simp only [reduceCtorEq, AEx.ex.injEq, Nat.reduceEqDiff, if_true, if_false])
      exact ⟨_, _, Forgets.refl _ _ _, (!r_8), h, rfl, rfl⟩
  · rintro a S ⟨y_2, h, rfl, rfl⟩
    subst hK_5
    rcases condI h with ⟨hc_9, h⟩ | ⟨hc_9, h⟩
    · refine Ex.condT _ rfl hc_9 ?_
      refine Ex.seq ?_
      refine regH 1 [] [2] [] (mkS 59 [(2, .int .i64 2)]) (⟨[(C_api_Float f_1)], []⟩) (by kernel_rfl) trivial rfl ?_
      refine Ex.ret ?_
      obtain rfl := Option.some.inj h
      exact ⟨.inr rfl, .int .i64 2, by kernel_rfl, by kernel_rfl, by kernel_rfl, by kernel_rfl⟩
    · refine Ex.condF _ rfl hc_9 ?_
      obtain ⟨K_12, hK_13, h⟩ := letE h
      refine Ex.seqJ (fun a S => ∃ (y_10 : Bool), K_12 y_10 = some r ∧ a = mkS 59 [(1, .ptr 0 0), (14, .bool y_10)] ∧ S = ⟨[(C_api_Float f_1)], []⟩) ?_ ?_
      · obtain ⟨r_14, hr_14, h⟩ := Option.bind_eq_some_iff.1 h
        refine Ex.reg ?_
        refine runH 4 [] [1, 16, 18] [] (mkS 59 [(1, .ptr 0 0), (16, .int .i64 f_1.Front), (18, .int .i64 f_1.Length)]) (⟨[(C_api_Float f_1)], []⟩) (by kernel_rfl) trivial ?_
        refine ExO.callL [] [.int .i64 f_1.Front, .int .i64 0, .int .i64 f_1.Length] rfl rfl (a_float_within f_1.Front 0 f_1.Length) rfl rfl (d_float_within N f_1.Front 0 f_1.Length r_14 hr_14) (b_float_within _ _ _ _) rfl ?_
        rcases condI h with ⟨hc_15, h⟩ | ⟨hc_15, h⟩
        · refine runH 10 [(1, .eq (.bool true))] [1, 14] [AV.bool (!r_14) = AV.bool true] (mkS 59 [(1, .ptr 0 0), (14, .bool true)]) (⟨[(C_api_Float f_1)], []⟩) (by kernel_rfl) ⟨congrArg AV.bool hc_15, trivial⟩ ?_
          refine ExO.nil ?_
          (try simp only [reduceCtorEq, AEx.ex.injEq, Nat.reduceEqDiff, if_true, if_false])
          exact ⟨_, _, Forgets.refl _ _ _, true, h, rfl, rfl⟩
        · obtain ⟨r_16, hr_16, h⟩ := Option.bind_eq_some_iff.1 h
          refine runH 6 [(1, .eq (.bool false))] [1, 21, 23, 25] [AV.bool (!r_14) = AV.bool false] (mkS 59 [(1, .ptr 0 0), (21, .bool false), (23, .int .i64 f_1.Rear), (25, .int .i64 f_1.Length)]) (⟨[(C_api_Float f_1)], []⟩) (by kernel_rfl) ⟨congrArg AV.bool hc_15, trivial⟩ ?_
          refine ExO.callL [] [.int .i64 f_1.Rear, .int .i64 0, .int .i64 f_1.Length] rfl rfl (a_float_within f_1.Rear 0 f_1.Length) rfl rfl (d_float_within N f_1.Rear 0 f_1.Length r_16 hr_16) (b_float_within _ _ _ _) rfl ?_
          refine runH 3 [] [1, 14] [] (mkS 59 [(1, .ptr 0 0), (14, .bool (!r_16))]) (⟨[(C_api_Float f_1)], []⟩) (by kernel_rfl) trivial ?_
          refine ExO.nil ?_
          (try simp only [reduceCtorEq, AEx.ex.injEq, Nat.reduceEqDiff, if_true, if_false])
          exact ⟨_, _, Forgets.refl _ _ _, (!r_16), h, rfl, rfl⟩
      · rintro a S ⟨y_10, h, rfl, rfl⟩
        subst hK_13
        rcases condI h with ⟨hc_17, h⟩ | ⟨hc_17, h⟩
        · refine Ex.condT _ rfl hc_17 ?_
          refine Ex.seq ?_
          refine regH 1 [] [2] [] (mkS 59 [(2, .int .i64 2)]) (⟨[(C_api_Float f_1)], []⟩) (by kernel_rfl) trivial rfl ?_
          refine Ex.ret ?_
          obtain rfl := Option.some.inj h
          exact ⟨.inr rfl, .int .i64 2, by kernel_rfl, by kernel_rfl, by kernel_rfl, by kernel_rfl⟩
        · refine Ex.condF _ rfl hc_17 ?_
          refine Ex.seq ?_
          refine regH 6 [] [1, 29] [] (mkS 59 [(1, .ptr 0 0), (29, .bool (decide (f_1.Front ≥ f_1.Rear)))]) (⟨[(C_api_Float f_1)], []⟩) (by kernel_rfl) trivial rfl ?_
          rcases condI h with ⟨hc_18, h⟩ | ⟨hc_18, h⟩
          · refine Ex.condT _ rfl hc_18 ?_
            refine Ex.seq ?_
            refine regH 1 [] [2] [] (mkS 59 [(2, .int .i64 9)]) (⟨[(C_api_Float f_1)], []⟩) (by kernel_rfl) trivial rfl ?_
            refine Ex.ret ?_
            obtain rfl := Option.some.inj h
            exact ⟨.inr rfl, .int .i64 9, by kernel_rfl, by kernel_rfl, by kernel_rfl, by kernel_rfl⟩
          · refine Ex.condF _ rfl hc_18 ?_
            obtain ⟨K_21, hK_22, h⟩ := letE h
            refine Ex.seqJ (fun a S => ∃ (y_19 : Bool), K_21 y_19 = some r ∧ a = mkS 59 [(1, .ptr 0 0), (35, .bool y_19)] ∧ S = ⟨[(C_api_Float f_1)], []⟩) ?_ ?_
            · obtain ⟨r_23, hr_23, h⟩ := Option.bind_eq_some_iff.1 h
              refine Ex.reg ?_
              refine runH 2 [] [1, 37] [] (mkS 59 [(1, .ptr 0 0), (37, .int .i64 f_1.Turn)]) (⟨[(C_api_Float f_1)], []⟩) (by kernel_rfl) trivial ?_
              refine ExO.callL [] [.int .i64 f_1.Turn, .int .i64 0, .int .i64 20000] rfl rfl (a_float_within f_1.Turn 0 20000) rfl rfl (d_float_within N f_1.Turn 0 20000 r_23 hr_23) (b_float_within _ _ _ _) rfl ?_
              rcases condI h with ⟨hc_24, h⟩ | ⟨hc_24, h⟩
              · refine runH 8 [(1, .eq (.bool true))] [1, 35] [AV.bool (!r_23) = AV.bool true] (mkS 59 [(1, .ptr 0 0), (35, .bool true)]) (⟨[(C_api_Float f_1)], []⟩) (by kernel_rfl) ⟨congrArg AV.bool hc_24, trivial⟩ ?_
                refine ExO.nil ?_
                (try simp only [reduceCtorEq, AEx.ex.injEq, Nat.reduceEqDiff, if_true, if_false])
                exact ⟨_, _, Forgets.refl _ _ _, true, h, rfl, rfl⟩
              · obtain ⟨r_25, hr_25, h⟩ := Option.bind_eq_some_iff.1 h
                refine runH 4 [(1, .eq (.bool false))] [1, 40, 42] [AV.bool (!r_23) = AV.bool false] (mkS 59 [(1, .ptr 0 0), (40, .bool false), (42, .int .i64 f_1.Kilos)]) (⟨[(C_api_Float f_1)], []⟩) (by kernel_rfl) ⟨congrArg AV.bool hc_24, trivial⟩ ?_
                refine ExO.callL [] [.int .i64 f_1.Kilos, .int .i64 0, .int .i64 100000] rfl rfl (a_float_within f_1.Kilos 0 100000) rfl rfl (d_float_within N f_1.Kilos 0 100000 r_25 hr_25) (b_float_within _ _ _ _) rfl ?_
                refine runH 3 [] [1, 35] [] (mkS 59 [(1, .ptr 0 0), (35, .bool (!r_25))]) (⟨[(C_api_Float f_1)], []⟩) (by kernel_rfl) trivial ?_
                refine ExO.nil ?_
                (try simp only [reduceCtorEq, AEx.ex.injEq, Nat.reduceEqDiff, if_true, if_false])
                exact ⟨_, _, Forgets.refl _ _ _, (!r_25), h, rfl, rfl⟩
            · rintro a S ⟨y_19, h, rfl, rfl⟩
              subst hK_22
              rcases condI h with ⟨hc_26, h⟩ | ⟨hc_26, h⟩
              · refine Ex.condT _ rfl hc_26 ?_
                refine Ex.seq ?_
                refine regH 1 [] [2] [] (mkS 59 [(2, .int .i64 2)]) (⟨[(C_api_Float f_1)], []⟩) (by kernel_rfl) trivial rfl ?_
                refine Ex.ret ?_
                obtain rfl := Option.some.inj h
                exact ⟨.inr rfl, .int .i64 2, by kernel_rfl, by kernel_rfl, by kernel_rfl, by kernel_rfl⟩
              · refine Ex.condF _ rfl hc_26 ?_
                obtain ⟨K_29, hK_30, h⟩ := letE h
                refine Ex.seqJ (fun a S => ∃ (y_27 : Bool), K_29 y_27 = some r ∧ a = mkS 59 [(46, .bool y_27)] ∧ S = ⟨[], []⟩) ?_ ?_
                · obtain ⟨r_31, hr_31, h⟩ := Option.bind_eq_some_iff.1 h
                  refine Ex.reg ?_
                  refine runH 4 [] [1, 48, 50] [] (mkS 59 [(1, .ptr 0 0), (48, .int .i64 f_1.Middle), (50, .int .i64 f_1.Length)]) (⟨[(C_api_Float f_1)], []⟩) (by kernel_rfl) trivial ?_
                  refine ExO.callL [] [.int .i64 f_1.Middle, .int .i64 0, .int .i64 f_1.Length] rfl rfl (a_float_within f_1.Middle 0 f_1.Length) rfl rfl (d_float_within N f_1.Middle 0 f_1.Length r_31 hr_31) (b_float_within _ _ _ _) rfl ?_
                  rcases condI h with ⟨hc_32, h⟩ | ⟨hc_32, h⟩
                  · refine runH 8 [(1, .eq (.bool true))] [46] [AV.bool (!r_31) = AV.bool true] (mkS 59 [(46, .bool true)]) (⟨[(C_api_Float f_1)], []⟩) (by kernel_rfl) ⟨congrArg AV.bool hc_32, trivial⟩ ?_
                    refine ExO.nil ?_
                    (try simp only [reduceCtorEq, AEx.ex.injEq, Nat.reduceEqDiff, if_true, if_false])
                    exact ⟨_, _, forgetA (m := 59) 0 [] [(46, .bool true)] [] [] (by simp) (by simp) ⟨rfl, trivial⟩ (by simp [re, re1, AV.clean, List.idxOf?, List.findIdx?, List.findIdx?.go, cleanL, cleanI, cleanBo, cleanSt, cleanII, KL_bateriakit_Drum, KL_api_Span, KL_api_Load, KL_api_Float, KL_api_Near, KB_bateriakit_Drum, KB_api_Span, KB_api_Load, KB_api_Float, KB_api_Near]) rfl (by decide), true, h, rfl, rfl⟩
                  · obtain ⟨r_33, hr_33, h⟩ := Option.bind_eq_some_iff.1 h
                    refine runH 4 [(1, .eq (.bool false))] [53, 55] [AV.bool (!r_31) = AV.bool false] (mkS 59 [(53, .bool false), (55, .int .i64 f_1.High)]) (⟨[(C_api_Float f_1)], []⟩) (by kernel_rfl) ⟨congrArg AV.bool hc_32, trivial⟩ ?_
                    refine ExO.callL [] [.int .i64 f_1.High, .int .i64 0, .int .i64 2000] rfl rfl (a_float_within f_1.High 0 2000) rfl rfl (d_float_within N f_1.High 0 2000 r_33 hr_33) (b_float_within _ _ _ _) rfl ?_
                    refine runH 3 [] [46] [] (mkS 59 [(46, .bool (!r_33))]) (⟨[(C_api_Float f_1)], []⟩) (by kernel_rfl) trivial ?_
                    refine ExO.nil ?_
                    (try simp only [reduceCtorEq, AEx.ex.injEq, Nat.reduceEqDiff, if_true, if_false])
                    exact ⟨_, _, forgetA (m := 59) 0 [] [(46, .bool (!r_33))] [] [] (by simp) (by simp) ⟨rfl, trivial⟩ (by simp [re, re1, AV.clean, List.idxOf?, List.findIdx?, List.findIdx?.go, cleanL, cleanI, cleanBo, cleanSt, cleanII, KL_bateriakit_Drum, KL_api_Span, KL_api_Load, KL_api_Float, KL_api_Near, KB_bateriakit_Drum, KB_api_Span, KB_api_Load, KB_api_Float, KB_api_Near]) rfl (by decide), (!r_33), h, rfl, rfl⟩
                · rintro a S ⟨y_27, h, rfl, rfl⟩
                  subst hK_30
                  rcases condI h with ⟨hc_34, h⟩ | ⟨hc_34, h⟩
                  · refine Ex.condT _ rfl hc_34 ?_
                    refine Ex.seq ?_
                    refine regH 1 [] [2] [] (mkS 59 [(2, .int .i64 2)]) (⟨[], []⟩) (by kernel_rfl) trivial rfl ?_
                    refine Ex.ret ?_
                    obtain rfl := Option.some.inj h
                    exact ⟨.inr rfl, .int .i64 2, by kernel_rfl, by kernel_rfl, by kernel_rfl, by kernel_rfl⟩
                  · refine Ex.condF _ rfl hc_34 ?_
                    refine Ex.skip ?_
                    refine Ex.seq ?_
                    refine regH 1 [] [2] [] (mkS 59 [(2, .int .i64 0)]) (⟨[], []⟩) (by kernel_rfl) trivial rfl ?_
                    refine Ex.ret ?_
                    obtain rfl := Option.some.inj h
                    exact ⟨.inr rfl, .int .i64 0, by kernel_rfl, by kernel_rfl, by kernel_rfl, by kernel_rfl⟩
def p_float_checkSpan (N : Nat) (s_1 : T_api_Span) (most_2 : Int) : Option (Int) := (letJ (fun (y_3 : Bool) => (bif y_3 then some 2 else (bif (decide (s_1.Lo > s_1.Hi)) then some 9 else some 0))) (fun k_4 => ((p_float_within N s_1.Lo 0 most_2).bind fun r_7 => (bif (!r_7) then (k_4 true) else ((p_float_within N s_1.Hi 0 most_2).bind fun r_9 => (k_4 (!r_9)))))))
def v_float_checkSpan (r : Int) : AV := .int .i64 r
theorem a_float_checkSpan (s_1 : T_api_Span) (most_2 : Int) : [(A_api_Span s_1), .int .i64 most_2].mapM (ren []) = some [(A_api_Span s_1), .int .i64 most_2] := by simp [ren, ren1, AV.plain, AV.plain1, AV.clean, cleanL, cleanI, cleanBo, cleanSt, cleanII, KL_bateriakit_Drum, KL_api_Span, KL_api_Load, KL_api_Float, KL_api_Near, A_bateriakit_Drum, C_bateriakit_Drum, A_api_Span, C_api_Span, A_api_Load, C_api_Load, A_api_Float, C_api_Float, A_api_Near, C_api_Near]
theorem b_float_checkSpan (r : Int) (n n2 m : Nat) : back n n2 m (v_float_checkSpan r) = some (v_float_checkSpan r) := by simp [v_float_checkSpan, back, back1, AV.plain, AV.plain1, AV.clean, cleanL, cleanI, cleanBo, cleanSt, cleanII, KL_bateriakit_Drum, KL_api_Span, KL_api_Load, KL_api_Float, KL_api_Near, A_bateriakit_Drum, C_bateriakit_Drum, A_api_Span, C_api_Span, A_api_Load, C_api_Load, A_api_Float, C_api_Float, A_api_Near, C_api_Near]
theorem d_float_checkSpan (N : Nat) (s_1 : T_api_Span) (most_2 : Int) (r : Int) (h : p_float_checkSpan N s_1 most_2 = some r) : Does Try.prog 99 [(A_api_Span s_1), .int .i64 most_2] [] fun v c => v = v_float_checkSpan r ∧ c = [] := by
  unfold p_float_checkSpan at h
  refine Does.ofL comp99 _ _ rfl rfl ?_
  refine Ex.seq ?_
  refine regH 2 [] [1, 2] [] (mkS 24 [(1, .int .i64 most_2), (2, .ptr 0 0)]) (⟨[(C_api_Span s_1)], []⟩) (by kernel_rfl) trivial rfl ?_
  refine Ex.seq ?_
  refine Ex.blockK ?_
  obtain ⟨K_5, hK_6, h⟩ := letE h
  refine Ex.seqJ (fun a S => ∃ (y_3 : Bool), K_5 y_3 = some r ∧ a = mkS 24 [(2, .ptr 0 0), (5, .bool y_3)] ∧ S = ⟨[(C_api_Span s_1)], []⟩) ?_ ?_
  · obtain ⟨r_7, hr_7, h⟩ := Option.bind_eq_some_iff.1 h
    refine Ex.reg ?_
    refine runH 3 [] [1, 2, 7, 8] [] (mkS 24 [(1, .int .i64 most_2), (2, .ptr 0 0), (7, .int .i64 s_1.Lo), (8, .int .i64 most_2)]) (⟨[(C_api_Span s_1)], []⟩) (by kernel_rfl) trivial ?_
    refine ExO.callL [] [.int .i64 s_1.Lo, .int .i64 0, .int .i64 most_2] rfl rfl (a_float_within s_1.Lo 0 most_2) rfl rfl (d_float_within N s_1.Lo 0 most_2 r_7 hr_7) (b_float_within _ _ _ _) rfl ?_
    rcases condI h with ⟨hc_8, h⟩ | ⟨hc_8, h⟩
    · refine runH 9 [(1, .eq (.bool true))] [2, 5] [AV.bool (!r_7) = AV.bool true] (mkS 24 [(2, .ptr 0 0), (5, .bool true)]) (⟨[(C_api_Span s_1)], []⟩) (by kernel_rfl) ⟨congrArg AV.bool hc_8, trivial⟩ ?_
      refine ExO.nil ?_
      (try simp only [reduceCtorEq, AEx.ex.injEq, Nat.reduceEqDiff, if_true, if_false])
      exact ⟨_, _, Forgets.refl _ _ _, true, h, rfl, rfl⟩
    · obtain ⟨r_9, hr_9, h⟩ := Option.bind_eq_some_iff.1 h
      refine runH 5 [(1, .eq (.bool false))] [2, 11, 13, 14] [AV.bool (!r_7) = AV.bool false] (mkS 24 [(2, .ptr 0 0), (11, .bool false), (13, .int .i64 s_1.Hi), (14, .int .i64 most_2)]) (⟨[(C_api_Span s_1)], []⟩) (by kernel_rfl) ⟨congrArg AV.bool hc_8, trivial⟩ ?_
      refine ExO.callL [] [.int .i64 s_1.Hi, .int .i64 0, .int .i64 most_2] rfl rfl (a_float_within s_1.Hi 0 most_2) rfl rfl (d_float_within N s_1.Hi 0 most_2 r_9 hr_9) (b_float_within _ _ _ _) rfl ?_
      refine runH 3 [] [2, 5] [] (mkS 24 [(2, .ptr 0 0), (5, .bool (!r_9))]) (⟨[(C_api_Span s_1)], []⟩) (by kernel_rfl) trivial ?_
      refine ExO.nil ?_
      (try simp only [reduceCtorEq, AEx.ex.injEq, Nat.reduceEqDiff, if_true, if_false])
      exact ⟨_, _, Forgets.refl _ _ _, (!r_9), h, rfl, rfl⟩
  · rintro a S ⟨y_3, h, rfl, rfl⟩
    subst hK_6
    rcases condI h with ⟨hc_10, h⟩ | ⟨hc_10, h⟩
    · refine Ex.condT _ rfl hc_10 ?_
      refine Ex.seq ?_
      refine regH 1 [] [4] [] (mkS 24 [(4, .int .i64 2)]) (⟨[(C_api_Span s_1)], []⟩) (by kernel_rfl) trivial rfl ?_
      refine Ex.ret ?_
      obtain rfl := Option.some.inj h
      exact ⟨.inr rfl, .int .i64 2, by kernel_rfl, by kernel_rfl, by kernel_rfl, by kernel_rfl⟩
    · refine Ex.condF _ rfl hc_10 ?_
      refine Ex.seq ?_
      refine regH 6 [] [18] [] (mkS 24 [(18, .bool (decide (s_1.Lo > s_1.Hi)))]) (⟨[(C_api_Span s_1)], []⟩) (by kernel_rfl) trivial rfl ?_
      rcases condI h with ⟨hc_11, h⟩ | ⟨hc_11, h⟩
      · refine Ex.condT _ rfl hc_11 ?_
        refine Ex.seq ?_
        refine regH 1 [] [4] [] (mkS 24 [(4, .int .i64 9)]) (⟨[(C_api_Span s_1)], []⟩) (by kernel_rfl) trivial rfl ?_
        refine Ex.ret ?_
        obtain rfl := Option.some.inj h
        exact ⟨.inr rfl, .int .i64 9, by kernel_rfl, by kernel_rfl, by kernel_rfl, by kernel_rfl⟩
      · refine Ex.condF _ rfl hc_11 ?_
        refine Ex.skip ?_
        refine Ex.seq ?_
        refine regH 1 [] [4] [] (mkS 24 [(4, .int .i64 0)]) (⟨[(C_api_Span s_1)], []⟩) (by kernel_rfl) trivial rfl ?_
        refine Ex.ret ?_
        obtain rfl := Option.some.inj h
        exact ⟨.inr rfl, .int .i64 0, by kernel_rfl, by kernel_rfl, by kernel_rfl, by kernel_rfl⟩
def p_float_checkLoad (N : Nat) (f_1 : T_api_Float) (l_2 : T_api_Load) : Option (Int) := ((p_float_within N l_2.At f_1.Front f_1.Rear).bind fun r_3 => (bif (!r_3) then some 2 else ((p_float_checkSpan N l_2.Kilos 100000).bind fun r_5 => (bif (r_5 != 0) then some r_5 else ((p_float_checkSpan N l_2.Top 2000).bind fun r_7 => (bif (r_7 != 0) then some r_7 else ((p_float_within N l_2.Kind 1 4).bind fun r_9 => (bif (!r_9) then some 3 else ((p_float_within N l_2.Watts 0 1000000).bind fun r_11 => (bif (!r_11) then some 2 else (letJ (fun (y_13 : Bool) => (bif y_13 then some 1 else some 0)) (fun k_14 => (bif (decide (l_2.Watts > 0)) then (bif (l_2.Kind != 2) then (k_14 (l_2.Kind != 3)) else (k_14 false)) else (k_14 false))))))))))))))
def v_float_checkLoad (r : Int) : AV := .int .i64 r
theorem a_float_checkLoad (f_1 : T_api_Float) (l_2 : T_api_Load) : [(A_api_Float f_1), (A_api_Load l_2)].mapM (ren []) = some [(A_api_Float f_1), (A_api_Load l_2)] := by simp [ren, ren1, AV.plain, AV.plain1, AV.clean, cleanL, cleanI, cleanBo, cleanSt, cleanII, KL_bateriakit_Drum, KL_api_Span, KL_api_Load, KL_api_Float, KL_api_Near, A_bateriakit_Drum, C_bateriakit_Drum, A_api_Span, C_api_Span, A_api_Load, C_api_Load, A_api_Float, C_api_Float, A_api_Near, C_api_Near]
theorem b_float_checkLoad (r : Int) (n n2 m : Nat) : back n n2 m (v_float_checkLoad r) = some (v_float_checkLoad r) := by simp [v_float_checkLoad, back, back1, AV.plain, AV.plain1, AV.clean, cleanL, cleanI, cleanBo, cleanSt, cleanII, KL_bateriakit_Drum, KL_api_Span, KL_api_Load, KL_api_Float, KL_api_Near, A_bateriakit_Drum, C_bateriakit_Drum, A_api_Span, C_api_Span, A_api_Load, C_api_Load, A_api_Float, C_api_Float, A_api_Near, C_api_Near]
theorem d_float_checkLoad (N : Nat) (f_1 : T_api_Float) (l_2 : T_api_Load) (r : Int) (h : p_float_checkLoad N f_1 l_2 = some r) : Does Try.prog 73 [(A_api_Float f_1), (A_api_Load l_2)] [] fun v c => v = v_float_checkLoad r ∧ c = [] := by
  unfold p_float_checkLoad at h
  refine Does.ofL comp73 _ _ rfl rfl ?_
  refine Ex.seq ?_
  refine regH 3 [] [2, 3] [] (mkS 51 [(2, .ptr 0 0), (3, .ptr 1 0)]) (⟨[(C_api_Float f_1), (C_api_Load l_2)], []⟩) (by kernel_rfl) trivial rfl ?_
  refine Ex.seq ?_
  refine Ex.seq ?_
  obtain ⟨r_3, hr_3, h⟩ := Option.bind_eq_some_iff.1 h
  refine Ex.reg ?_
  refine runH 6 [] [3, 8, 10, 12] [] (mkS 51 [(3, .ptr 1 0), (8, .int .i64 l_2.At), (10, .int .i64 f_1.Front), (12, .int .i64 f_1.Rear)]) (⟨[(C_api_Float f_1), (C_api_Load l_2)], []⟩) (by kernel_rfl) trivial ?_
  refine ExO.callL [] [.int .i64 l_2.At, .int .i64 f_1.Front, .int .i64 f_1.Rear] rfl rfl (a_float_within l_2.At f_1.Front f_1.Rear) rfl rfl (d_float_within N l_2.At f_1.Front f_1.Rear r_3 hr_3) (b_float_within _ _ _ _) rfl ?_
  refine runH 1 [] [3, 14] [] (mkS 51 [(3, .ptr 1 0), (14, .bool (!r_3))]) (⟨[(C_api_Float f_1), (C_api_Load l_2)], []⟩) (by kernel_rfl) trivial ?_
  refine ExO.nil ?_
  rcases condI h with ⟨hc_4, h⟩ | ⟨hc_4, h⟩
  · refine Ex.condT _ rfl hc_4 ?_
    refine Ex.seq ?_
    refine regH 1 [] [4] [] (mkS 51 [(4, .int .i64 2)]) (⟨[(C_api_Float f_1), (C_api_Load l_2)], []⟩) (by kernel_rfl) trivial rfl ?_
    refine Ex.ret ?_
    obtain rfl := Option.some.inj h
    exact ⟨.inr rfl, .int .i64 2, by kernel_rfl, by kernel_rfl, by kernel_rfl, by kernel_rfl⟩
  · refine Ex.condF _ rfl hc_4 ?_
    refine Ex.skip ?_
    refine Ex.seq ?_
    refine Ex.seq ?_
    obtain ⟨r_5, hr_5, h⟩ := Option.bind_eq_some_iff.1 h
    refine Ex.reg ?_
    refine runH 2 [] [3, 16] [] (mkS 51 [(3, .ptr 1 0), (16, (A_api_Span l_2.Kilos))]) (⟨[(C_api_Float f_1), (C_api_Load l_2)], []⟩) (by kernel_rfl) trivial ?_
    refine ExO.callL [] [(A_api_Span l_2.Kilos), .int .i64 100000] rfl rfl (a_float_checkSpan l_2.Kilos 100000) rfl rfl (d_float_checkSpan N l_2.Kilos 100000 r_5 hr_5) (b_float_checkSpan _ _ _ _) rfl ?_
    refine runH 1 [] [3, 5] [] (mkS 51 [(3, .ptr 1 0), (5, .int .i64 r_5)]) (⟨[(C_api_Float f_1), (C_api_Load l_2)], []⟩) (by kernel_rfl) trivial ?_
    refine ExO.nil ?_
    refine Ex.seq ?_
    refine regH 2 [] [3, 5, 19] [] (mkS 51 [(3, .ptr 1 0), (5, .int .i64 r_5), (19, .bool (r_5 != 0))]) (⟨[(C_api_Float f_1), (C_api_Load l_2)], []⟩) (by kernel_rfl) trivial rfl ?_
    rcases condI h with ⟨hc_6, h⟩ | ⟨hc_6, h⟩
    · refine Ex.condT _ rfl hc_6 ?_
      refine Ex.seq ?_
      refine regH 2 [] [4] [] (mkS 51 [(4, .int .i64 r_5)]) (⟨[(C_api_Float f_1), (C_api_Load l_2)], []⟩) (by kernel_rfl) trivial rfl ?_
      refine Ex.ret ?_
      obtain rfl := Option.some.inj h
      exact ⟨.inr rfl, .int .i64 r_5, by kernel_rfl, by kernel_rfl, by kernel_rfl, by kernel_rfl⟩
    · refine Ex.condF _ rfl hc_6 ?_
      refine Ex.skip ?_
      refine Ex.seq ?_
      refine Ex.seq ?_
      obtain ⟨r_7, hr_7, h⟩ := Option.bind_eq_some_iff.1 h
      refine Ex.reg ?_
      refine runH 2 [] [3, 22] [] (mkS 51 [(3, .ptr 1 0), (22, (A_api_Span l_2.Top))]) (⟨[(C_api_Float f_1), (C_api_Load l_2)], []⟩) (by kernel_rfl) trivial ?_
      refine ExO.callL [] [(A_api_Span l_2.Top), .int .i64 2000] rfl rfl (a_float_checkSpan l_2.Top 2000) rfl rfl (d_float_checkSpan N l_2.Top 2000 r_7 hr_7) (b_float_checkSpan _ _ _ _) rfl ?_
      refine runH 1 [] [3, 6] [] (mkS 51 [(3, .ptr 1 0), (6, .int .i64 r_7)]) (⟨[(C_api_Float f_1), (C_api_Load l_2)], []⟩) (by kernel_rfl) trivial ?_
      refine ExO.nil ?_
      refine Ex.seq ?_
      refine regH 2 [] [3, 6, 25] [] (mkS 51 [(3, .ptr 1 0), (6, .int .i64 r_7), (25, .bool (r_7 != 0))]) (⟨[(C_api_Float f_1), (C_api_Load l_2)], []⟩) (by kernel_rfl) trivial rfl ?_
      rcases condI h with ⟨hc_8, h⟩ | ⟨hc_8, h⟩
      · refine Ex.condT _ rfl hc_8 ?_
        refine Ex.seq ?_
        refine regH 2 [] [4] [] (mkS 51 [(4, .int .i64 r_7)]) (⟨[(C_api_Float f_1), (C_api_Load l_2)], []⟩) (by kernel_rfl) trivial rfl ?_
        refine Ex.ret ?_
        obtain rfl := Option.some.inj h
        exact ⟨.inr rfl, .int .i64 r_7, by kernel_rfl, by kernel_rfl, by kernel_rfl, by kernel_rfl⟩
      · refine Ex.condF _ rfl hc_8 ?_
        refine Ex.skip ?_
        refine Ex.seq ?_
        refine Ex.blockK ?_
        refine Ex.seq ?_
        obtain ⟨r_9, hr_9, h⟩ := Option.bind_eq_some_iff.1 h
        refine Ex.reg ?_
        refine runH 2 [] [3, 29] [] (mkS 51 [(3, .ptr 1 0), (29, .int .i64 l_2.Kind)]) (⟨[(C_api_Float f_1), (C_api_Load l_2)], []⟩) (by kernel_rfl) trivial ?_
        refine ExO.callL [] [.int .i64 l_2.Kind, .int .i64 1, .int .i64 4] rfl rfl (a_float_within l_2.Kind 1 4) rfl rfl (d_float_within N l_2.Kind 1 4 r_9 hr_9) (b_float_within _ _ _ _) rfl ?_
        refine runH 2 [] [3, 27] [] (mkS 51 [(3, .ptr 1 0), (27, .bool (!r_9))]) (⟨[(C_api_Float f_1), (C_api_Load l_2)], []⟩) (by kernel_rfl) trivial ?_
        refine ExO.nil ?_
        rcases condI h with ⟨hc_10, h⟩ | ⟨hc_10, h⟩
        · refine Ex.condT _ rfl hc_10 ?_
          refine Ex.seq ?_
          refine regH 1 [] [4] [] (mkS 51 [(4, .int .i64 3)]) (⟨[(C_api_Float f_1), (C_api_Load l_2)], []⟩) (by kernel_rfl) trivial rfl ?_
          refine Ex.ret ?_
          obtain rfl := Option.some.inj h
          exact ⟨.inr rfl, .int .i64 3, by kernel_rfl, by kernel_rfl, by kernel_rfl, by kernel_rfl⟩
        · refine Ex.condF _ rfl hc_10 ?_
          refine Ex.seq ?_
          obtain ⟨r_11, hr_11, h⟩ := Option.bind_eq_some_iff.1 h
          refine Ex.reg ?_
          refine runH 2 [] [3, 34] [] (mkS 51 [(3, .ptr 1 0), (34, .int .i64 l_2.Watts)]) (⟨[(C_api_Float f_1), (C_api_Load l_2)], []⟩) (by kernel_rfl) trivial ?_
          refine ExO.callL [] [.int .i64 l_2.Watts, .int .i64 0, .int .i64 1000000] rfl rfl (a_float_within l_2.Watts 0 1000000) rfl rfl (d_float_within N l_2.Watts 0 1000000 r_11 hr_11) (b_float_within _ _ _ _) rfl ?_
          refine runH 2 [] [3, 32] [] (mkS 51 [(3, .ptr 1 0), (32, .bool (!r_11))]) (⟨[(C_api_Float f_1), (C_api_Load l_2)], []⟩) (by kernel_rfl) trivial ?_
          refine ExO.nil ?_
          rcases condI h with ⟨hc_12, h⟩ | ⟨hc_12, h⟩
          · refine Ex.condT _ rfl hc_12 ?_
            refine Ex.seq ?_
            refine regH 1 [] [4] [] (mkS 51 [(4, .int .i64 2)]) (⟨[(C_api_Float f_1), (C_api_Load l_2)], []⟩) (by kernel_rfl) trivial rfl ?_
            refine Ex.ret ?_
            obtain rfl := Option.some.inj h
            exact ⟨.inr rfl, .int .i64 2, by kernel_rfl, by kernel_rfl, by kernel_rfl, by kernel_rfl⟩
          · refine Ex.condF _ rfl hc_12 ?_
            obtain ⟨K_15, hK_16, h⟩ := letE h
            refine Ex.seqJ (fun a S => ∃ (y_13 : Bool), K_15 y_13 = some r ∧ a = mkS 51 [(37, .bool y_13)] ∧ S = ⟨[], []⟩) ?_ ?_
            · rcases condI h with ⟨hc_17, h⟩ | ⟨hc_17, h⟩
              · rcases condI h with ⟨hc_18, h⟩ | ⟨hc_18, h⟩
                · refine regH 14 [(3, .eq (.bool true)), (8, .eq (.bool true))] [37] [AV.bool (decide (l_2.Watts > 0)) = AV.bool true, AV.bool (l_2.Kind != 2) = AV.bool true] (mkS 51 [(37, .bool (l_2.Kind != 3))]) (⟨[(C_api_Float f_1), (C_api_Load l_2)], []⟩) (by kernel_rfl) ⟨congrArg AV.bool hc_17, congrArg AV.bool hc_18, trivial⟩ rfl ?_
                  (try simp only [reduceCtorEq, AEx.ex.injEq, Nat.reduceEqDiff, if_true, if_false])
                  exact ⟨_, _, forgetA (m := 51) 0 [] [(37, .bool (l_2.Kind != 3))] [] [] (by simp) (by simp) ⟨rfl, trivial⟩ (by simp [re, re1, AV.clean, List.idxOf?, List.findIdx?, List.findIdx?.go, cleanL, cleanI, cleanBo, cleanSt, cleanII, KL_bateriakit_Drum, KL_api_Span, KL_api_Load, KL_api_Float, KL_api_Near, KB_bateriakit_Drum, KB_api_Span, KB_api_Load, KB_api_Float, KB_api_Near]) rfl (by decide), (l_2.Kind != 3), h, rfl, rfl⟩
                · refine regH 14 [(3, .eq (.bool true)), (8, .eq (.bool false))] [37] [AV.bool (decide (l_2.Watts > 0)) = AV.bool true, AV.bool (l_2.Kind != 2) = AV.bool false] (mkS 51 [(37, .bool false)]) (⟨[(C_api_Float f_1), (C_api_Load l_2)], []⟩) (by kernel_rfl) ⟨congrArg AV.bool hc_17, congrArg AV.bool hc_18, trivial⟩ rfl ?_
                  (try simp only [reduceCtorEq, AEx.ex.injEq, Nat.reduceEqDiff, if_true, if_false])
                  exact ⟨_, _, forgetA (m := 51) 0 [] [(37, .bool false)] [] [] (by simp) (by simp) ⟨rfl, trivial⟩ (by simp [re, re1, AV.clean, List.idxOf?, List.findIdx?, List.findIdx?.go, cleanL, cleanI, cleanBo, cleanSt, cleanII, KL_bateriakit_Drum, KL_api_Span, KL_api_Load, KL_api_Float, KL_api_Near, KB_bateriakit_Drum, KB_api_Span, KB_api_Load, KB_api_Float, KB_api_Near]) rfl (by decide), false, h, rfl, rfl⟩
              · refine regH 14 [(3, .eq (.bool false))] [37] [AV.bool (decide (l_2.Watts > 0)) = AV.bool false] (mkS 51 [(37, .bool false)]) (⟨[(C_api_Float f_1), (C_api_Load l_2)], []⟩) (by kernel_rfl) ⟨congrArg AV.bool hc_17, trivial⟩ rfl ?_
                (try simp only [reduceCtorEq, AEx.ex.injEq, Nat.reduceEqDiff, if_true, if_false])
                exact ⟨_, _, forgetA (m := 51) 0 [] [(37, .bool false)] [] [] (by simp) (by simp) ⟨rfl, trivial⟩ (by simp [re, re1, AV.clean, List.idxOf?, List.findIdx?, List.findIdx?.go, cleanL, cleanI, cleanBo, cleanSt, cleanII, KL_bateriakit_Drum, KL_api_Span, KL_api_Load, KL_api_Float, KL_api_Near, KB_bateriakit_Drum, KB_api_Span, KB_api_Load, KB_api_Float, KB_api_Near]) rfl (by decide), false, h, rfl, rfl⟩
            · rintro a S ⟨y_13, h, rfl, rfl⟩
              subst hK_16
              rcases condI h with ⟨hc_19, h⟩ | ⟨hc_19, h⟩
              · refine Ex.condT _ rfl hc_19 ?_
                refine Ex.seq ?_
                refine regH 1 [] [4] [] (mkS 51 [(4, .int .i64 1)]) (⟨[], []⟩) (by kernel_rfl) trivial rfl ?_
                refine Ex.ret ?_
                obtain rfl := Option.some.inj h
                exact ⟨.inr rfl, .int .i64 1, by kernel_rfl, by kernel_rfl, by kernel_rfl, by kernel_rfl⟩
              · refine Ex.condF _ rfl hc_19 ?_
                refine Ex.skip ?_
                refine Ex.seq ?_
                refine regH 1 [] [4] [] (mkS 51 [(4, .int .i64 0)]) (⟨[], []⟩) (by kernel_rfl) trivial rfl ?_
                refine Ex.ret ?_
                obtain rfl := Option.some.inj h
                exact ⟨.inr rfl, .int .i64 0, by kernel_rfl, by kernel_rfl, by kernel_rfl, by kernel_rfl⟩
def p_float_Check (N : Nat) (f_1 : T_api_Float) : Option (Int) := ((p_float_checkFrame N f_1).bind fun r_2 => (bif (r_2 != 0) then some r_2 else (bif (decide (((f_1.Loads.length : Nat) : Int) > 20)) then some 5 else (letJ (fun (_ : Unit) => some 0) (fun k_5 => (loop1 (fun rec_9 (y_8 : Int) => (bif (decide (y_8 < ((f_1.Loads.length : Nat) : Int))) then ((getI f_1.Loads y_8).bind fun x_13 => ((p_float_checkLoad N f_1 x_13).bind fun r_14 => (bif (r_14 != 0) then some r_14 else (rec_9 (IntKind.i64.wrap (y_8 + 1)))))) else (k_5 ()))) N 0))))))
def v_float_Check (r : Int) : AV := .int .i64 r
theorem a_float_Check (f_1 : T_api_Float) : [(A_api_Float f_1)].mapM (ren []) = some [(A_api_Float f_1)] := by simp [ren, ren1, AV.plain, AV.plain1, AV.clean, cleanL, cleanI, cleanBo, cleanSt, cleanII, KL_bateriakit_Drum, KL_api_Span, KL_api_Load, KL_api_Float, KL_api_Near, A_bateriakit_Drum, C_bateriakit_Drum, A_api_Span, C_api_Span, A_api_Load, C_api_Load, A_api_Float, C_api_Float, A_api_Near, C_api_Near]
theorem b_float_Check (r : Int) (n n2 m : Nat) : back n n2 m (v_float_Check r) = some (v_float_Check r) := by simp [v_float_Check, back, back1, AV.plain, AV.plain1, AV.clean, cleanL, cleanI, cleanBo, cleanSt, cleanII, KL_bateriakit_Drum, KL_api_Span, KL_api_Load, KL_api_Float, KL_api_Near, A_bateriakit_Drum, C_bateriakit_Drum, A_api_Span, C_api_Span, A_api_Load, C_api_Load, A_api_Float, C_api_Float, A_api_Near, C_api_Near]
theorem d_float_Check (N : Nat) (f_1 : T_api_Float) (r : Int) (h : p_float_Check N f_1 = some r) : Does Try.prog 22 [(A_api_Float f_1)] [] fun v c => v = v_float_Check r ∧ c = [] := by
  unfold p_float_Check at h
  refine Does.ofL comp22 _ _ rfl rfl ?_
  refine Ex.seq ?_
  refine regH 2 [] [1] [] (mkS 30 [(1, .ptr 0 0)]) (⟨[(C_api_Float f_1)], []⟩) (by kernel_rfl) trivial rfl ?_
  refine Ex.seq ?_
  refine Ex.seq ?_
  obtain ⟨r_2, hr_2, h⟩ := Option.bind_eq_some_iff.1 h
  refine Ex.reg ?_
  refine runH 1 [] [1, 7] [] (mkS 30 [(1, .ptr 0 0), (7, (A_api_Float f_1))]) (⟨[(C_api_Float f_1)], []⟩) (by kernel_rfl) trivial ?_
  refine ExO.callL [] [(A_api_Float f_1)] rfl rfl (a_float_checkFrame f_1) rfl rfl (d_float_checkFrame N f_1 r_2 hr_2) (b_float_checkFrame _ _ _ _) rfl ?_
  refine runH 1 [] [1, 3] [] (mkS 30 [(1, .ptr 0 0), (3, .int .i64 r_2)]) (⟨[(C_api_Float f_1)], []⟩) (by kernel_rfl) trivial ?_
  refine ExO.nil ?_
  refine Ex.seq ?_
  refine regH 2 [] [1, 3, 10] [] (mkS 30 [(1, .ptr 0 0), (3, .int .i64 r_2), (10, .bool (r_2 != 0))]) (⟨[(C_api_Float f_1)], []⟩) (by kernel_rfl) trivial rfl ?_
  rcases condI h with ⟨hc_3, h⟩ | ⟨hc_3, h⟩
  · refine Ex.condT _ rfl hc_3 ?_
    refine Ex.seq ?_
    refine regH 2 [] [2] [] (mkS 30 [(2, .int .i64 r_2)]) (⟨[(C_api_Float f_1)], []⟩) (by kernel_rfl) trivial rfl ?_
    refine Ex.ret ?_
    obtain rfl := Option.some.inj h
    exact ⟨.inr rfl, .int .i64 r_2, by kernel_rfl, by kernel_rfl, by kernel_rfl, by kernel_rfl⟩
  · refine Ex.condF _ rfl hc_3 ?_
    refine Ex.skip ?_
    refine Ex.seq ?_
    refine Ex.seq ?_
    refine regH 4 [(2, .eq (.int .i64 ((f_1.Loads.length : Nat) : Int)))] [1, 15] [AV.int .i64 (((f_1.Loads.map A_api_Load).length : Nat) : Int) = AV.int .i64 ((f_1.Loads.length : Nat) : Int)] (mkS 30 [(1, .ptr 0 0), (15, .bool (decide (((f_1.Loads.length : Nat) : Int) > 20)))]) (⟨[(C_api_Float f_1)], []⟩) (by kernel_rfl) ⟨lenM _ _, trivial⟩ rfl ?_
    rcases condI h with ⟨hc_4, h⟩ | ⟨hc_4, h⟩
    · refine Ex.condT _ rfl hc_4 ?_
      refine Ex.seq ?_
      refine regH 1 [] [2] [] (mkS 30 [(2, .int .i64 5)]) (⟨[(C_api_Float f_1)], []⟩) (by kernel_rfl) trivial rfl ?_
      refine Ex.ret ?_
      obtain rfl := Option.some.inj h
      exact ⟨.inr rfl, .int .i64 5, by kernel_rfl, by kernel_rfl, by kernel_rfl, by kernel_rfl⟩
    · refine Ex.condF _ rfl hc_4 ?_
      refine Ex.skip ?_
      refine Ex.seq ?_
      refine Ex.seq ?_
      refine regH 4 [(2, .eq (.int .i64 ((f_1.Loads.length : Nat) : Int)))] [1, 17, 18, 19] [AV.int .i64 (((f_1.Loads.map A_api_Load).length : Nat) : Int) = AV.int .i64 ((f_1.Loads.length : Nat) : Int)] (mkS 30 [(1, .ptr 0 0), (17, .sl (f_1.Loads.map A_api_Load) none), (18, .int .i64 ((f_1.Loads.length : Nat) : Int)), (19, .int .i64 0)]) (⟨[(C_api_Float f_1)], []⟩) (by kernel_rfl) ⟨lenM _ _, trivial⟩ rfl ?_
      obtain ⟨K_6, hK_7, h⟩ := letE h
      refine Ex.blockJ (fun a S => K_6 () = some r ∧ a = mkS 30 [] ∧ S = ⟨[], []⟩) ?_ ?_
      · obtain ⟨B_10, hB_11, h⟩ := loop1I h
        refine Ex.loopF (fun k a S => ∃ (y_8 : Int), loop1 B_10 k y_8 = some r ∧ a = mkS 30 [(1, .ptr 0 0), (17, .sl (f_1.Loads.map A_api_Load) none), (18, .int .i64 ((f_1.Loads.length : Nat) : Int)), (19, .int .i64 y_8)] ∧ S = ⟨[(C_api_Float f_1)], []⟩) N ⟨_, _, Forgets.refl _ _ _, 0, h, rfl, rfl⟩ ?_
        rintro k a S ⟨y_8, h, rfl, rfl⟩
        cases k with
        | zero => exact (loop1Z h).elim
        | succ k =>
          replace h := loop1S h hB_11
          refine Ex.seq ?_
          refine regH 1 [] [1, 17, 18, 19, 20] [] (mkS 30 [(1, .ptr 0 0), (17, .sl (f_1.Loads.map A_api_Load) none), (18, .int .i64 ((f_1.Loads.length : Nat) : Int)), (19, .int .i64 y_8), (20, .bool (decide (y_8 < ((f_1.Loads.length : Nat) : Int))))]) (⟨[(C_api_Float f_1)], []⟩) (by kernel_rfl) trivial rfl ?_
          refine Ex.seq ?_
          rcases condI h with ⟨hc_12, h⟩ | ⟨hc_12, h⟩
          · refine Ex.condT _ rfl hc_12 ?_
            refine Ex.skip ?_
            refine Ex.seq ?_
            refine Ex.blockK ?_
            refine Ex.seq ?_
            obtain ⟨x_13, hx_13, h⟩ := Option.bind_eq_some_iff.1 h
            refine regH 4 [(0, .rop (C_api_Load x_13))] [1, 5, 17, 18, 19] [LGet (f_1.Loads.map A_api_Load) y_8 7 (C_api_Load x_13)] (mkS 30 [(1, .ptr 0 0), (5, .ptr 1 0), (17, .sl (f_1.Loads.map A_api_Load) none), (18, .int .i64 ((f_1.Loads.length : Nat) : Int)), (19, .int .i64 y_8)]) (⟨[(C_api_Float f_1), (C_api_Load x_13)], []⟩) (by kernel_rfl) ⟨LGet.of hx_13 rfl, trivial⟩ rfl ?_
            refine Ex.seq ?_
            obtain ⟨r_14, hr_14, h⟩ := Option.bind_eq_some_iff.1 h
            refine Ex.reg ?_
            refine runH 2 [] [1, 17, 18, 19, 23, 24] [] (mkS 30 [(1, .ptr 0 0), (17, .sl (f_1.Loads.map A_api_Load) none), (18, .int .i64 ((f_1.Loads.length : Nat) : Int)), (19, .int .i64 y_8), (23, (A_api_Float f_1)), (24, (A_api_Load x_13))]) (⟨[(C_api_Float f_1), (C_api_Load x_13)], []⟩) (by kernel_rfl) trivial ?_
            refine ExO.callL [] [(A_api_Float f_1), (A_api_Load x_13)] rfl rfl (a_float_checkLoad f_1 x_13) rfl rfl (d_float_checkLoad N f_1 x_13 r_14 hr_14) (b_float_checkLoad _ _ _ _) rfl ?_
            refine runH 1 [] [1, 6, 17, 18, 19] [] (mkS 30 [(1, .ptr 0 0), (6, .int .i64 r_14), (17, .sl (f_1.Loads.map A_api_Load) none), (18, .int .i64 ((f_1.Loads.length : Nat) : Int)), (19, .int .i64 y_8)]) (⟨[(C_api_Float f_1), (C_api_Load x_13)], []⟩) (by kernel_rfl) trivial ?_
            refine ExO.nil ?_
            refine Ex.seq ?_
            refine regH 2 [] [1, 6, 17, 18, 19, 27] [] (mkS 30 [(1, .ptr 0 0), (6, .int .i64 r_14), (17, .sl (f_1.Loads.map A_api_Load) none), (18, .int .i64 ((f_1.Loads.length : Nat) : Int)), (19, .int .i64 y_8), (27, .bool (r_14 != 0))]) (⟨[(C_api_Float f_1), (C_api_Load x_13)], []⟩) (by kernel_rfl) trivial rfl ?_
            rcases condI h with ⟨hc_15, h⟩ | ⟨hc_15, h⟩
            · refine Ex.condT _ rfl hc_15 ?_
              refine Ex.seq ?_
              refine regH 2 [] [2] [] (mkS 30 [(2, .int .i64 r_14)]) (⟨[(C_api_Float f_1), (C_api_Load x_13)], []⟩) (by kernel_rfl) trivial rfl ?_
              refine Ex.ret ?_
              obtain rfl := Option.some.inj h
              exact ⟨.inr rfl, .int .i64 r_14, by kernel_rfl, by kernel_rfl, by kernel_rfl, by kernel_rfl⟩
            · refine Ex.condF _ rfl hc_15 ?_
              refine Ex.skip ?_
              refine regH 2 [] [1, 17, 18, 19] [] (mkS 30 [(1, .ptr 0 0), (17, .sl (f_1.Loads.map A_api_Load) none), (18, .int .i64 ((f_1.Loads.length : Nat) : Int)), (19, .int .i64 (IntKind.i64.wrap (y_8 + 1)))]) (⟨[(C_api_Float f_1), (C_api_Load x_13)], []⟩) (by kernel_rfl) trivial rfl ?_
              dsimp only
              exact ⟨_, _, forgetA (m := 30) 1 [] [(1, .ptr 0 0), (17, .sl (f_1.Loads.map A_api_Load) none), (18, .int .i64 ((f_1.Loads.length : Nat) : Int)), (19, .int .i64 (IntKind.i64.wrap (y_8 + 1)))] [(C_api_Float f_1)] [] (by simp) (by simp) ⟨rfl, (reN (KL_api_Load _)), rfl, rfl, trivial⟩ (by simp [re, re1, AV.clean, List.idxOf?, List.findIdx?, List.findIdx?.go, cleanL, cleanI, cleanBo, cleanSt, cleanII, KL_bateriakit_Drum, KL_api_Span, KL_api_Load, KL_api_Float, KL_api_Near, KB_bateriakit_Drum, KB_api_Span, KB_api_Load, KB_api_Float, KB_api_Near]) rfl (by decide), k, Nat.lt_succ_self k, (IntKind.i64.wrap (y_8 + 1)), h, rfl, rfl⟩
          · refine Ex.condF _ rfl hc_12 ?_
            refine Ex.exit ?_
            (try simp only [reduceCtorEq, AEx.ex.injEq, Nat.reduceEqDiff, if_true, if_false])
            exact ⟨_, _, forgetA (m := 30) 0 [] [] [] [] (by simp) (by simp) trivial (by simp [re, re1, AV.clean, List.idxOf?, List.findIdx?, List.findIdx?.go, cleanL, cleanI, cleanBo, cleanSt, cleanII, KL_bateriakit_Drum, KL_api_Span, KL_api_Load, KL_api_Float, KL_api_Near, KB_bateriakit_Drum, KB_api_Span, KB_api_Load, KB_api_Float, KB_api_Near]) rfl (by decide), h, rfl, rfl⟩
      · rintro a S ⟨h, rfl, rfl⟩
        subst hK_7
        refine Ex.seq ?_
        refine regH 1 [] [2] [] (mkS 30 [(2, .int .i64 0)]) (⟨[], []⟩) (by kernel_rfl) trivial rfl ?_
        refine Ex.ret ?_
        obtain rfl := Option.some.inj h
        exact ⟨.inr rfl, .int .i64 0, by kernel_rfl, by kernel_rfl, by kernel_rfl, by kernel_rfl⟩
def p_float_distance (N : Nat) (a_1 : T_api_Load) (b_2 : T_api_Load) : Option (Int) := some (if (IntKind.i64.wrap (b_2.At - a_1.At)) > (IntKind.i64.wrap (a_1.At - b_2.At)) then (IntKind.i64.wrap (b_2.At - a_1.At)) else (IntKind.i64.wrap (a_1.At - b_2.At)))
def v_float_distance (r : Int) : AV := .int .i64 r
theorem b_float_distance (r : Int) (n n2 m : Nat) : back n n2 m (v_float_distance r) = some (v_float_distance r) := by simp [v_float_distance, back, back1, AV.plain, AV.plain1, AV.clean, cleanL, cleanI, cleanBo, cleanSt, cleanII, KL_bateriakit_Drum, KL_api_Span, KL_api_Load, KL_api_Float, KL_api_Near, A_bateriakit_Drum, C_bateriakit_Drum, A_api_Span, C_api_Span, A_api_Load, C_api_Load, A_api_Float, C_api_Float, A_api_Near, C_api_Near]
theorem d_float_distance (N : Nat) (a_1 : T_api_Load) (b_2 : T_api_Load) (r : Int) (h : p_float_distance N a_1 b_2 = some r) : Does Try.prog 92 [(A_api_Load a_1), (A_api_Load b_2)] [] fun v c => v = v_float_distance r ∧ c = [] := by
  unfold p_float_distance at h
  refine Does.ofL comp92 _ _ rfl rfl ?_
  refine Ex.seq ?_
  refine regH 3 [] [2, 3] [] (mkS 16 [(2, .ptr 0 0), (3, .ptr 1 0)]) (⟨[(C_api_Load a_1), (C_api_Load b_2)], []⟩) (by kernel_rfl) trivial rfl ?_
  refine Ex.seq ?_
  refine regH 12 [] [4] [] (mkS 16 [(4, .int .i64 (if (IntKind.i64.wrap (b_2.At - a_1.At)) > (IntKind.i64.wrap (a_1.At - b_2.At)) then (IntKind.i64.wrap (b_2.At - a_1.At)) else (IntKind.i64.wrap (a_1.At - b_2.At))))]) (⟨[(C_api_Load a_1), (C_api_Load b_2)], []⟩) (by kernel_rfl) trivial rfl ?_
  refine Ex.ret ?_
  obtain rfl := Option.some.inj h
  exact ⟨.inr rfl, .int .i64 (if (IntKind.i64.wrap (b_2.At - a_1.At)) > (IntKind.i64.wrap (a_1.At - b_2.At)) then (IntKind.i64.wrap (b_2.At - a_1.At)) else (IntKind.i64.wrap (a_1.At - b_2.At))), by kernel_rfl, by kernel_rfl, by kernel_rfl, by kernel_rfl⟩
def p_float_Fire (N : Nat) (f_1 : T_api_Float) (apart_2 : Int) : Option ((List T_api_Near) × Int × Int) := ((p_float_Check N f_1).bind fun r_3 => (bif (r_3 != 0) then some ([], 0, r_3) else ((p_float_within N apart_2 0 3000).bind fun r_5 => (bif (!r_5) then some ([], 0, 2) else (letJ (fun (b_18 : List T_api_Near) (b_19 : Int) => (letJ (fun (b_116 : Int) => some (b_18, b_116, 0)) (fun k_117 => (letJ (fun (b_120 : Int) => (k_117 b_120)) (fun k_121 => (loop2 (fun rec_126 (y_124 : Int) (b_125 : Int) => (bif (decide (y_124 < ((f_1.Loads.length : Nat) : Int))) then ((getI f_1.Loads y_124).bind fun x_130 => (letJ (fun (b_131 : Int) => (rec_126 (IntKind.i64.wrap (y_124 + 1)) b_131)) (fun k_132 => (bif (x_130.Kind == 3) then (letJ (fun (_ : Unit) => (k_132 (IntKind.i64.wrap (b_125 - x_130.Watts)))) (fun k_144 => (k_144 ()))) else (k_132 b_125))))) else (k_121 b_125))) N 0 b_19)))))) (fun k_20 => (letJ (fun (b_23 : List T_api_Near) (b_24 : Int) => (k_20 b_23 b_24)) (fun k_25 => (loop3 (fun rec_31 (y_28 : Int) (b_29 : List T_api_Near) (b_30 : Int) => (bif (decide (y_28 < ((f_1.Loads.length : Nat) : Int))) then ((getI f_1.Loads y_28).bind fun x_35 => (letJ (fun (b_36 : List T_api_Near) (b_37 : Int) => (rec_31 (IntKind.i64.wrap (y_28 + 1)) b_36 b_37)) (fun k_38 => (bif (x_35.Kind == 2) then (letJ (fun (b_50 : List T_api_Near) => (k_38 b_50 (IntKind.i64.wrap (b_30 + x_35.Watts)))) (fun k_51 => (letJ (fun (b_65 : List T_api_Near) => (k_51 b_65)) (fun k_66 => (letJ (fun (b_69 : List T_api_Near) => (k_66 b_69)) (fun k_70 => (loop2 (fun rec_75 (y_73 : Int) (b_74 : List T_api_Near) => (bif (decide (y_73 < ((f_1.Loads.length : Nat) : Int))) then ((getI f_1.Loads y_73).bind fun x_79 => (letJ (fun (b_80 : List T_api_Near) => (rec_75 (IntKind.i64.wrap (y_73 + 1)) b_80)) (fun k_81 => (bif (x_79.Kind == 4) then (letJ (fun (b_93 : List T_api_Near) => (k_81 b_93)) (fun k_94 => (letJ (fun (b_97 : List T_api_Near) => (k_94 b_97)) (fun k_98 => ((p_float_distance N x_35 x_79).bind fun r_101 => (bif (decide (r_101 < apart_2)) then ((pushI b_74 ([(⟨y_28, y_73⟩ : T_api_Near)] : List T_api_Near)).bind fun l_104 => (k_98 l_104)) else (k_98 b_74))))))) else (k_81 b_74))))) else (k_70 b_74))) N 0 b_29))))))) else (k_38 b_29 b_30))))) else (k_25 b_29 b_30))) N 0 [] 0)))))))))
def v_float_Fire (r : (List T_api_Near) × Int × Int) : AV := .tup [.sl (r.1.map A_api_Near) none, .int .i64 r.2.1, .int .i64 r.2.2]
theorem b_float_Fire (r : (List T_api_Near) × Int × Int) (n n2 m : Nat) : back n n2 m (v_float_Fire r) = some (v_float_Fire r) := by simp [v_float_Fire, back, back1, AV.plain, AV.plain1, AV.clean, cleanL, cleanI, cleanBo, cleanSt, cleanII, KL_bateriakit_Drum, KL_api_Span, KL_api_Load, KL_api_Float, KL_api_Near, A_bateriakit_Drum, C_bateriakit_Drum, A_api_Span, C_api_Span, A_api_Load, C_api_Load, A_api_Float, C_api_Float, A_api_Near, C_api_Near]
theorem d_float_Fire (N : Nat) (f_1 : T_api_Float) (apart_2 : Int) (r : (List T_api_Near) × Int × Int) (h : p_float_Fire N f_1 apart_2 = some r) : Does Try.prog 39 [(A_api_Float f_1), .int .i64 apart_2] [] fun v c => v = v_float_Fire r ∧ c = [] := by
  unfold p_float_Fire at h
  refine Does.ofL comp39 _ _ rfl rfl ?_
  refine Ex.seq ?_
  refine regH 5 [] [2, 3, 4, 5, 6] [] (mkS 58 [(2, .ptr 0 0), (3, .ptr 1 0), (4, .ptr 2 0), (5, .ptr 3 0), (6, .int .i64 0)]) (⟨[(C_api_Float f_1), [.int .i64 apart_2], [.nils], [.int .i64 0]], []⟩) (by kernel_rfl) trivial rfl ?_
  refine Ex.seq ?_
  refine Ex.seq ?_
  obtain ⟨r_3, hr_3, h⟩ := Option.bind_eq_some_iff.1 h
  refine Ex.reg ?_
  refine runH 1 [] [2, 3, 4, 5, 6, 14] [] (mkS 58 [(2, .ptr 0 0), (3, .ptr 1 0), (4, .ptr 2 0), (5, .ptr 3 0), (6, .int .i64 0), (14, (A_api_Float f_1))]) (⟨[(C_api_Float f_1), [.int .i64 apart_2], [.nils], [.int .i64 0]], []⟩) (by kernel_rfl) trivial ?_
  refine ExO.callL [] [(A_api_Float f_1)] rfl rfl (a_float_Check f_1) rfl rfl (d_float_Check N f_1 r_3 hr_3) (b_float_Check _ _ _ _) rfl ?_
  refine runH 1 [] [2, 3, 4, 5, 6, 7] [] (mkS 58 [(2, .ptr 0 0), (3, .ptr 1 0), (4, .ptr 2 0), (5, .ptr 3 0), (6, .int .i64 0), (7, .int .i64 r_3)]) (⟨[(C_api_Float f_1), [.int .i64 apart_2], [.nils], [.int .i64 0]], []⟩) (by kernel_rfl) trivial ?_
  refine ExO.nil ?_
  refine Ex.seq ?_
  refine regH 2 [] [2, 3, 4, 5, 6, 7, 17] [] (mkS 58 [(2, .ptr 0 0), (3, .ptr 1 0), (4, .ptr 2 0), (5, .ptr 3 0), (6, .int .i64 0), (7, .int .i64 r_3), (17, .bool (r_3 != 0))]) (⟨[(C_api_Float f_1), [.int .i64 apart_2], [.nils], [.int .i64 0]], []⟩) (by kernel_rfl) trivial rfl ?_
  rcases condI h with ⟨hc_4, h⟩ | ⟨hc_4, h⟩
  · refine Ex.condT _ rfl hc_4 ?_
    refine Ex.seq ?_
    refine regH 4 [] [4, 5, 6] [] (mkS 58 [(4, .ptr 2 0), (5, .ptr 3 0), (6, .int .i64 r_3)]) (⟨[(C_api_Float f_1), [.int .i64 apart_2], [.nils], [.int .i64 0]], []⟩) (by kernel_rfl) trivial rfl ?_
    refine Ex.ret ?_
    obtain rfl := Option.some.inj h
    exact ⟨.inr rfl, .tup [.nils, .int .i64 0, .int .i64 r_3], by kernel_rfl, by kernel_rfl, by kernel_rfl, by kernel_rfl⟩
  · refine Ex.condF _ rfl hc_4 ?_
    refine Ex.skip ?_
    refine Ex.seq ?_
    refine Ex.seq ?_
    obtain ⟨r_5, hr_5, h⟩ := Option.bind_eq_some_iff.1 h
    refine Ex.reg ?_
    refine runH 1 [] [2, 3, 4, 5, 6, 19] [] (mkS 58 [(2, .ptr 0 0), (3, .ptr 1 0), (4, .ptr 2 0), (5, .ptr 3 0), (6, .int .i64 0), (19, .int .i64 apart_2)]) (⟨[(C_api_Float f_1), [.int .i64 apart_2], [.nils], [.int .i64 0]], []⟩) (by kernel_rfl) trivial ?_
    refine ExO.callL [] [.int .i64 apart_2, .int .i64 0, .int .i64 3000] rfl rfl (a_float_within apart_2 0 3000) rfl rfl (d_float_within N apart_2 0 3000 r_5 hr_5) (b_float_within _ _ _ _) rfl ?_
    refine runH 1 [] [2, 3, 4, 5, 6, 21] [] (mkS 58 [(2, .ptr 0 0), (3, .ptr 1 0), (4, .ptr 2 0), (5, .ptr 3 0), (6, .int .i64 0), (21, .bool (!r_5))]) (⟨[(C_api_Float f_1), [.int .i64 apart_2], [.nils], [.int .i64 0]], []⟩) (by kernel_rfl) trivial ?_
    refine ExO.nil ?_
    rcases condI h with ⟨hc_6, h⟩ | ⟨hc_6, h⟩
    · refine Ex.condT _ rfl hc_6 ?_
      refine Ex.seq ?_
      refine regH 3 [] [4, 5, 6] [] (mkS 58 [(4, .ptr 2 0), (5, .ptr 3 0), (6, .int .i64 2)]) (⟨[(C_api_Float f_1), [.int .i64 apart_2], [.nils], [.int .i64 0]], []⟩) (by kernel_rfl) trivial rfl ?_
      refine Ex.ret ?_
      obtain rfl := Option.some.inj h
      exact ⟨.inr rfl, .tup [.nils, .int .i64 0, .int .i64 2], by kernel_rfl, by kernel_rfl, by kernel_rfl, by kernel_rfl⟩
    · refine Ex.condF _ rfl hc_6 ?_
      refine Ex.skip ?_
      refine Ex.seq ?_
      refine Ex.seq ?_
      refine Ex.reg ?_
      refine runH 2 [] [2, 3, 4, 5, 6, 23] [] (mkS 58 [(2, .ptr 0 0), (3, .ptr 1 0), (4, .ptr 2 0), (5, .ptr 3 0), (6, .int .i64 0), (23, .sl (f_1.Loads.map A_api_Load) none)]) (⟨[(C_api_Float f_1), [.int .i64 apart_2], [.nils], [.int .i64 0]], []⟩) (by kernel_rfl) trivial ?_
      refine ExO.inlC 91 [.sl (f_1.Loads.map A_api_Load) none, .int .i64 2] _ comp91 (by simp) rfl rfl ?_
      intro cx_7 hcn_8 hcm_9 hup_10
      refine Ex.castA (a2 := mkS 6 [(0, .sl (f_1.Loads.map A_api_Load) none), (1, .int .i64 2), (2, .tup []), (3, .tup []), (4, .tup []), (5, .tup [])]) (S2 := ⟨[(C_api_Float f_1), [.int .i64 apart_2], [.nils], [.int .i64 0]], []⟩) (by kernel_rfl) (by kernel_rfl) ?_
      refine Ex.seq ?_
      refine regH 3 [] [2, 3] [] (mkS 6 [(2, .ptr 4 0), (3, .ptr 5 0)]) (⟨[(C_api_Float f_1), [.int .i64 apart_2], [.nils], [.int .i64 0], [.sl (f_1.Loads.map A_api_Load) none], [.int .i64 2]], []⟩) (by kernel_rfl) trivial rfl ?_
      refine Ex.seq ?_
      refine regH 2 [] [4] [] (mkS 6 [(4, .fn 108 [] [.ptr 4 0, .ptr 5 0])]) (⟨[(C_api_Float f_1), [.int .i64 apart_2], [.nils], [.int .i64 0], [.sl (f_1.Loads.map A_api_Load) none], [.int .i64 2]], []⟩) (by kernel_rfl) trivial rfl ?_
      refine Ex.ret ?_
      refine ⟨.inr rfl, .fn 108 [] [.ptr 4 0, .ptr 5 0], by kernel_rfl, ?_⟩
      refine runH 0 [] [2, 3, 4, 5, 6, 24] [] (mkS 58 [(2, .ptr 0 0), (3, .ptr 1 0), (4, .ptr 2 0), (5, .ptr 3 0), (6, .int .i64 0), (24, .fn 108 [] [.ptr 4 0, .ptr 5 0])]) (⟨[(C_api_Float f_1), [.int .i64 apart_2], [.nils], [.int .i64 0], [.sl (f_1.Loads.map A_api_Load) none], [.int .i64 2]], []⟩) (by kernel_rfl) trivial ?_
      refine ExO.nil ?_
      refine Ex.blockK ?_
      obtain ⟨K_21, hK_22, h⟩ := letE h
      refine Ex.rangeJ (fun k S => (k = 0 ∧ ∃ (b_18 : List T_api_Near), ∃ (b_19 : Int), K_21 b_18 b_19 = some r ∧ S = ⟨[(C_api_Float f_1), [.int .i64 apart_2], [.sl (b_18.map A_api_Near) (some 1)], [.int .i64 b_19], [.sl (f_1.Loads.map A_api_Load) none], [.int .i64 2]], [(0, 0), (b_18.length, 2)]⟩)) 108 [.ptr 4 0, .ptr 5 0] _ rfl comp108 rfl (by simp) (by exact trivial) (mkS 25 [(1, .ptr 4 0), (2, .ptr 5 0), (3, .tup []), (4, .tup []), (5, .tup []), (6, .tup []), (7, .tup []), (8, .tup []), (9, .tup []), (10, .tup []), (11, .tup []), (12, .tup []), (13, .tup []), (14, .tup []), (15, .tup []), (16, .tup []), (17, .tup []), (18, .tup []), (19, .tup []), (20, .tup []), (21, .tup []), (22, .tup []), (23, .tup []), (24, .tup [])]) (⟨[(C_api_Float f_1), [.int .i64 apart_2], [.nils], [.int .i64 0], [.sl (f_1.Loads.map A_api_Load) none], [.int .i64 2]], [(0, 0)]⟩) (fun _ => by kernel_rfl) (by kernel_rfl) ?_ ?_
      · intro cx_12 Lp_11 hcn_13 hcm_14 hLt_15 hL_16 hup_17
        refine Ex.castA (a2 := mkS 25 [(0, .yld Lp_11.l 0), (1, .ptr 4 0), (2, .ptr 5 0), (3, .tup []), (4, .tup []), (5, .tup []), (6, .tup []), (7, .tup []), (8, .tup []), (9, .tup []), (10, .tup []), (11, .tup []), (12, .tup []), (13, .tup []), (14, .tup []), (15, .tup []), (16, .tup []), (17, .tup []), (18, .tup []), (19, .tup []), (20, .tup []), (21, .tup []), (22, .tup []), (23, .tup []), (24, .tup [])]) (S2 := ⟨[(C_api_Float f_1), [.int .i64 apart_2], [.nils], [.int .i64 0], [.sl (f_1.Loads.map A_api_Load) none], [.int .i64 2]], [(0, 0)]⟩) (by kernel_rfl) rfl ?_
        refine Ex.seq ?_
        refine regH 3 [(1, .eq (.int .i64 ((f_1.Loads.length : Nat) : Int)))] [0, 2, 6, 7, 8] [AV.int .i64 (((f_1.Loads.map A_api_Load).length : Nat) : Int) = AV.int .i64 ((f_1.Loads.length : Nat) : Int)] (mkS 25 [(0, .yld Lp_11.l 0), (2, .ptr 5 0), (6, .sl (f_1.Loads.map A_api_Load) none), (7, .int .i64 ((f_1.Loads.length : Nat) : Int)), (8, .int .i64 0)]) (⟨[(C_api_Float f_1), [.int .i64 apart_2], [.nils], [.int .i64 0], [.sl (f_1.Loads.map A_api_Load) none], [.int .i64 2]], [(0, 0)]⟩) (by kernel_rfl) ⟨lenM _ _, trivial⟩ rfl ?_
        obtain ⟨K_26, hK_27, h⟩ := letE h
        refine Ex.blockJ (fun a S => ∃ (b_23 : List T_api_Near), ∃ (b_24 : Int), K_26 b_23 b_24 = some r ∧ a = mkS 25 [] ∧ S = ⟨[(C_api_Float f_1), [.int .i64 apart_2], [.sl (b_23.map A_api_Near) (some 1)], [.int .i64 b_24], [.sl (f_1.Loads.map A_api_Load) none], [.int .i64 2]], [(0, 0), (b_23.length, 2)]⟩) ?_ ?_
        · refine Ex.forget (nilB 2 0 2 [.nils] rfl rfl) ?_
          refine Ex.castA (a2 := mkS 25 [(0, .yld Lp_11.l 0), (2, .ptr 5 0), (6, .sl (f_1.Loads.map A_api_Load) none), (7, .int .i64 ((f_1.Loads.length : Nat) : Int)), (8, .int .i64 0)]) (S2 := ⟨[(C_api_Float f_1), [.int .i64 apart_2], [.sl (([] : List T_api_Near).map A_api_Near) (some 1)], [.int .i64 0], [.sl (f_1.Loads.map A_api_Load) none], [.int .i64 2]], [(0, 0), (0, 2)]⟩) (by kernel_rfl) (by kernel_rfl) ?_
          obtain ⟨B_32, hB_33, h⟩ := loop3I h
          refine Ex.loopF (fun k a S => ∃ (y_28 : Int), ∃ (b_29 : List T_api_Near), ∃ (b_30 : Int), loop3 B_32 k y_28 b_29 b_30 = some r ∧ a = mkS 25 [(0, .yld Lp_11.l 0), (2, .ptr 5 0), (6, .sl (f_1.Loads.map A_api_Load) none), (7, .int .i64 ((f_1.Loads.length : Nat) : Int)), (8, .int .i64 y_28)] ∧ S = ⟨[(C_api_Float f_1), [.int .i64 apart_2], [.sl (b_29.map A_api_Near) (some 1)], [.int .i64 b_30], [.sl (f_1.Loads.map A_api_Load) none], [.int .i64 2]], [(0, 0), (b_29.length, 2)]⟩) N ⟨_, _, Forgets.refl _ _ _, 0, [], 0, h, rfl, rfl⟩ ?_
          rintro k a S ⟨y_28, b_29, b_30, h, rfl, rfl⟩
          cases k with
          | zero => exact (loop3Z h).elim
          | succ k =>
            replace h := loop3S h hB_33
            refine Ex.seq ?_
            refine regH 1 [] [0, 2, 6, 7, 8, 9] [] (mkS 25 [(0, .yld Lp_11.l 0), (2, .ptr 5 0), (6, .sl (f_1.Loads.map A_api_Load) none), (7, .int .i64 ((f_1.Loads.length : Nat) : Int)), (8, .int .i64 y_28), (9, .bool (decide (y_28 < ((f_1.Loads.length : Nat) : Int))))]) (⟨[(C_api_Float f_1), [.int .i64 apart_2], [.sl (b_29.map A_api_Near) (some 1)], [.int .i64 b_30], [.sl (f_1.Loads.map A_api_Load) none], [.int .i64 2]], [(0, 0), (b_29.length, 2)]⟩) (by kernel_rfl) trivial rfl ?_
            refine Ex.seq ?_
            rcases condI h with ⟨hc_34, h⟩ | ⟨hc_34, h⟩
            · refine Ex.condT _ rfl hc_34 ?_
              refine Ex.skip ?_
              refine Ex.seq ?_
              refine Ex.blockK ?_
              refine Ex.seq ?_
              obtain ⟨x_35, hx_35, h⟩ := Option.bind_eq_some_iff.1 h
              refine regH 6 [(1, .rop (C_api_Load x_35))] [0, 2, 4, 5, 6, 7, 8] [LGet (f_1.Loads.map A_api_Load) y_28 7 (C_api_Load x_35)] (mkS 25 [(0, .yld Lp_11.l 0), (2, .ptr 5 0), (4, .int .i64 y_28), (5, .ptr 6 0), (6, .sl (f_1.Loads.map A_api_Load) none), (7, .int .i64 ((f_1.Loads.length : Nat) : Int)), (8, .int .i64 y_28)]) (⟨[(C_api_Float f_1), [.int .i64 apart_2], [.sl (b_29.map A_api_Near) (some 1)], [.int .i64 b_30], [.sl (f_1.Loads.map A_api_Load) none], [.int .i64 2], (C_api_Load x_35)], [(0, 0), (b_29.length, 2)]⟩) (by kernel_rfl) ⟨LGet.of hx_35 rfl, trivial⟩ rfl ?_
              obtain ⟨K_39, hK_40, h⟩ := letE h
              refine Ex.seqJ (fun a S => ∃ (b_36 : List T_api_Near), ∃ (b_37 : Int), K_39 b_36 b_37 = some r ∧ a = mkS 25 [(0, .yld Lp_11.l 0), (2, .ptr 5 0), (6, .sl (f_1.Loads.map A_api_Load) none), (7, .int .i64 ((f_1.Loads.length : Nat) : Int)), (8, .int .i64 y_28), (23, .bool false)] ∧ S = ⟨[(C_api_Float f_1), [.int .i64 apart_2], [.sl (b_36.map A_api_Near) (some 1)], [.int .i64 b_37], [.sl (f_1.Loads.map A_api_Load) none], [.int .i64 2]], [(0, 0), (b_36.length, 2)]⟩) ?_ ?_
              · rcases condI h with ⟨hc_41, h⟩ | ⟨hc_41, h⟩
                · refine Ex.regI ?_
                  refine runI 8 [(4, .eq (.bool true))] [0, 2, 6, 7, 8, 17, 18, 19, 20] [AV.bool (x_35.Kind == 2) = AV.bool true] (mkS 25 [(0, .yld Lp_11.l 0), (2, .ptr 5 0), (6, .sl (f_1.Loads.map A_api_Load) none), (7, .int .i64 ((f_1.Loads.length : Nat) : Int)), (8, .int .i64 y_28), (17, .bool true), (18, .yld Lp_11.l 0), (19, .int .i64 y_28), (20, (A_api_Load x_35))]) (⟨[(C_api_Float f_1), [.int .i64 apart_2], [.sl (b_29.map A_api_Near) (some 1)], [.int .i64 b_30], [.sl (f_1.Loads.map A_api_Load) none], [.int .i64 2], (C_api_Load x_35)], [(0, 0), (b_29.length, 2)]⟩) (by kernel_rfl) ⟨congrArg AV.bool hc_41, trivial⟩ ?_
                  obtain ⟨K_52, hK_53, h⟩ := letE h
                  refine ExI.yieldT 0 hLt_15 hL_16 [.int .i64 y_28, (A_api_Load x_35)] rfl rfl rfl (by kernel_rfl) rfl rfl (leC hcn_13 (by simp)) ?_
                  intro ca_42 cb_43 ha_44 hb_45 hma_46 hmb_47 hup_48 hbz_49
                  refine Ex.castA (a2 := mkS 58 [(2, .ptr 0 0), (3, .ptr 1 0), (4, .ptr 2 0), (5, .ptr 3 0), (6, .int .i64 0), (24, .fn 108 [] [.ptr 4 0, .ptr 5 0]), (25, .int .i64 y_28), (26, (A_api_Load x_35))]) (S2 := ⟨[(C_api_Float f_1), [.int .i64 apart_2], [.sl (b_29.map A_api_Near) (some 1)], [.int .i64 b_30], [.sl (f_1.Loads.map A_api_Load) none], [.int .i64 2], (C_api_Load x_35)], [(0, 0), (b_29.length, 2)]⟩) (by kernel_rfl) (by kernel_rfl) ?_
                  refine Ex.two (fun z S => (z = AEx.norm ∧ ∃ (b_50 : List T_api_Near), K_52 b_50 = some r ∧ S = ⟨[(C_api_Float f_1), [.int .i64 apart_2], [.sl (b_50.map A_api_Near) (some 1)], [.int .i64 (IntKind.i64.wrap (b_30 + x_35.Watts))], [.sl (f_1.Loads.map A_api_Load) none], [.int .i64 2], (C_api_Load x_35)], [(0, 0), (b_50.length, 2)]⟩)) ?_ ?_
                  · refine Ex.seq ?_
                    refine regH 2 [] [2, 3, 4, 5, 8, 26] [] (mkS 58 [(2, .ptr 0 0), (3, .ptr 1 0), (4, .ptr 2 0), (5, .ptr 3 0), (8, .ptr 7 0), (26, (A_api_Load x_35))]) (⟨[(C_api_Float f_1), [.int .i64 apart_2], [.sl (b_29.map A_api_Near) (some 1)], [.int .i64 b_30], [.sl (f_1.Loads.map A_api_Load) none], [.int .i64 2], (C_api_Load x_35), [.int .i64 y_28]], [(0, 0), (b_29.length, 2)]⟩) (by kernel_rfl) trivial rfl ?_
                    refine regH 2 [] [2, 3, 4, 5, 8, 9] [] (mkS 58 [(2, .ptr 0 0), (3, .ptr 1 0), (4, .ptr 2 0), (5, .ptr 3 0), (8, .ptr 7 0), (9, .ptr 8 0)]) (⟨[(C_api_Float f_1), [.int .i64 apart_2], [.sl (b_29.map A_api_Near) (some 1)], [.int .i64 b_30], [.sl (f_1.Loads.map A_api_Load) none], [.int .i64 2], (C_api_Load x_35), [.int .i64 y_28], (C_api_Load x_35)], [(0, 0), (b_29.length, 2)]⟩) (by kernel_rfl) trivial rfl ?_
                    refine ⟨rfl, rfl, ?_⟩
                    refine Ex.blockK ?_
                    refine Ex.seq ?_
                    refine regH 5 [] [2, 3, 4, 8, 9] [] (mkS 58 [(2, .ptr 0 0), (3, .ptr 1 0), (4, .ptr 2 0), (8, .ptr 7 0), (9, .ptr 8 0)]) (⟨[(C_api_Float f_1), [.int .i64 apart_2], [.sl (b_29.map A_api_Near) (some 1)], [.int .i64 (IntKind.i64.wrap (b_30 + x_35.Watts))], [.sl (f_1.Loads.map A_api_Load) none], [.int .i64 2], (C_api_Load x_35), [.int .i64 y_28], (C_api_Load x_35)], [(0, 0), (b_29.length, 2)]⟩) (by kernel_rfl) trivial rfl ?_
                    refine Ex.seq ?_
                    refine Ex.reg ?_
                    refine runH 2 [] [3, 4, 8, 9, 32] [] (mkS 58 [(3, .ptr 1 0), (4, .ptr 2 0), (8, .ptr 7 0), (9, .ptr 8 0), (32, .sl (f_1.Loads.map A_api_Load) none)]) (⟨[(C_api_Float f_1), [.int .i64 apart_2], [.sl (b_29.map A_api_Near) (some 1)], [.int .i64 (IntKind.i64.wrap (b_30 + x_35.Watts))], [.sl (f_1.Loads.map A_api_Load) none], [.int .i64 2], (C_api_Load x_35), [.int .i64 y_28], (C_api_Load x_35)], [(0, 0), (b_29.length, 2)]⟩) (by kernel_rfl) trivial ?_
                    refine ExO.inlC 91 [.sl (f_1.Loads.map A_api_Load) none, .int .i64 4] _ comp91 (leC hb_45 (by simp)) rfl rfl ?_
                    intro cx_54 hcn_55 hcm_56 hup_57
                    refine Ex.castA (a2 := mkS 6 [(0, .sl (f_1.Loads.map A_api_Load) none), (1, .int .i64 4), (2, .tup []), (3, .tup []), (4, .tup []), (5, .tup [])]) (S2 := ⟨[(C_api_Float f_1), [.int .i64 apart_2], [.sl (b_29.map A_api_Near) (some 1)], [.int .i64 (IntKind.i64.wrap (b_30 + x_35.Watts))], [.sl (f_1.Loads.map A_api_Load) none], [.int .i64 2], (C_api_Load x_35), [.int .i64 y_28], (C_api_Load x_35)], [(0, 0), (b_29.length, 2)]⟩) (by kernel_rfl) (by kernel_rfl) ?_
                    refine Ex.seq ?_
                    refine regH 3 [] [2, 3] [] (mkS 6 [(2, .ptr 9 0), (3, .ptr 10 0)]) (⟨[(C_api_Float f_1), [.int .i64 apart_2], [.sl (b_29.map A_api_Near) (some 1)], [.int .i64 (IntKind.i64.wrap (b_30 + x_35.Watts))], [.sl (f_1.Loads.map A_api_Load) none], [.int .i64 2], (C_api_Load x_35), [.int .i64 y_28], (C_api_Load x_35), [.sl (f_1.Loads.map A_api_Load) none], [.int .i64 4]], [(0, 0), (b_29.length, 2)]⟩) (by kernel_rfl) trivial rfl ?_
                    refine Ex.seq ?_
                    refine regH 2 [] [4] [] (mkS 6 [(4, .fn 108 [] [.ptr 9 0, .ptr 10 0])]) (⟨[(C_api_Float f_1), [.int .i64 apart_2], [.sl (b_29.map A_api_Near) (some 1)], [.int .i64 (IntKind.i64.wrap (b_30 + x_35.Watts))], [.sl (f_1.Loads.map A_api_Load) none], [.int .i64 2], (C_api_Load x_35), [.int .i64 y_28], (C_api_Load x_35), [.sl (f_1.Loads.map A_api_Load) none], [.int .i64 4]], [(0, 0), (b_29.length, 2)]⟩) (by kernel_rfl) trivial rfl ?_
                    refine Ex.ret ?_
                    refine ⟨.inr rfl, .fn 108 [] [.ptr 9 0, .ptr 10 0], by kernel_rfl, ?_⟩
                    refine runH 0 [] [3, 4, 8, 9, 33] [] (mkS 58 [(3, .ptr 1 0), (4, .ptr 2 0), (8, .ptr 7 0), (9, .ptr 8 0), (33, .fn 108 [] [.ptr 9 0, .ptr 10 0])]) (⟨[(C_api_Float f_1), [.int .i64 apart_2], [.sl (b_29.map A_api_Near) (some 1)], [.int .i64 (IntKind.i64.wrap (b_30 + x_35.Watts))], [.sl (f_1.Loads.map A_api_Load) none], [.int .i64 2], (C_api_Load x_35), [.int .i64 y_28], (C_api_Load x_35), [.sl (f_1.Loads.map A_api_Load) none], [.int .i64 4]], [(0, 0), (b_29.length, 2)]⟩) (by kernel_rfl) trivial ?_
                    refine ExO.nil ?_
                    refine Ex.blockK ?_
                    obtain ⟨K_67, hK_68, h⟩ := letE h
                    refine Ex.rangeJ (fun k S => (k = 0 ∧ ∃ (b_65 : List T_api_Near), K_67 b_65 = some r ∧ S = ⟨[(C_api_Float f_1), [.int .i64 apart_2], [.sl (b_65.map A_api_Near) (some 1)], [.int .i64 (IntKind.i64.wrap (b_30 + x_35.Watts))], [.sl (f_1.Loads.map A_api_Load) none], [.int .i64 2], (C_api_Load x_35), [.int .i64 y_28], (C_api_Load x_35), [.sl (f_1.Loads.map A_api_Load) none], [.int .i64 4]], [(0, 0), (b_65.length, 2), (0, 0)]⟩)) 108 [.ptr 9 0, .ptr 10 0] _ rfl comp108 rfl (leC hb_45 (by simp)) (by exact ⟨_, hbz_49, rfl⟩) (mkS 25 [(1, .ptr 9 0), (2, .ptr 10 0), (3, .tup []), (4, .tup []), (5, .tup []), (6, .tup []), (7, .tup []), (8, .tup []), (9, .tup []), (10, .tup []), (11, .tup []), (12, .tup []), (13, .tup []), (14, .tup []), (15, .tup []), (16, .tup []), (17, .tup []), (18, .tup []), (19, .tup []), (20, .tup []), (21, .tup []), (22, .tup []), (23, .tup []), (24, .tup [])]) (⟨[(C_api_Float f_1), [.int .i64 apart_2], [.sl (b_29.map A_api_Near) (some 1)], [.int .i64 (IntKind.i64.wrap (b_30 + x_35.Watts))], [.sl (f_1.Loads.map A_api_Load) none], [.int .i64 2], (C_api_Load x_35), [.int .i64 y_28], (C_api_Load x_35), [.sl (f_1.Loads.map A_api_Load) none], [.int .i64 4]], [(0, 0), (b_29.length, 2), (0, 0)]⟩) (fun _ => by kernel_rfl) (by kernel_rfl) ?_ ?_
                    · intro cx_59 Lp_58 hcn_60 hcm_61 hLt_62 hL_63 hup_64
                      refine Ex.castA (a2 := mkS 25 [(0, .yld Lp_58.l 2), (1, .ptr 9 0), (2, .ptr 10 0), (3, .tup []), (4, .tup []), (5, .tup []), (6, .tup []), (7, .tup []), (8, .tup []), (9, .tup []), (10, .tup []), (11, .tup []), (12, .tup []), (13, .tup []), (14, .tup []), (15, .tup []), (16, .tup []), (17, .tup []), (18, .tup []), (19, .tup []), (20, .tup []), (21, .tup []), (22, .tup []), (23, .tup []), (24, .tup [])]) (S2 := ⟨[(C_api_Float f_1), [.int .i64 apart_2], [.sl (b_29.map A_api_Near) (some 1)], [.int .i64 (IntKind.i64.wrap (b_30 + x_35.Watts))], [.sl (f_1.Loads.map A_api_Load) none], [.int .i64 2], (C_api_Load x_35), [.int .i64 y_28], (C_api_Load x_35), [.sl (f_1.Loads.map A_api_Load) none], [.int .i64 4]], [(0, 0), (b_29.length, 2), (0, 0)]⟩) (by kernel_rfl) rfl ?_
                      refine Ex.seq ?_
                      refine regH 3 [(1, .eq (.int .i64 ((f_1.Loads.length : Nat) : Int)))] [0, 2, 6, 7, 8] [AV.int .i64 (((f_1.Loads.map A_api_Load).length : Nat) : Int) = AV.int .i64 ((f_1.Loads.length : Nat) : Int)] (mkS 25 [(0, .yld Lp_58.l 2), (2, .ptr 10 0), (6, .sl (f_1.Loads.map A_api_Load) none), (7, .int .i64 ((f_1.Loads.length : Nat) : Int)), (8, .int .i64 0)]) (⟨[(C_api_Float f_1), [.int .i64 apart_2], [.sl (b_29.map A_api_Near) (some 1)], [.int .i64 (IntKind.i64.wrap (b_30 + x_35.Watts))], [.sl (f_1.Loads.map A_api_Load) none], [.int .i64 2], (C_api_Load x_35), [.int .i64 y_28], (C_api_Load x_35), [.sl (f_1.Loads.map A_api_Load) none], [.int .i64 4]], [(0, 0), (b_29.length, 2), (0, 0)]⟩) (by kernel_rfl) ⟨lenM _ _, trivial⟩ rfl ?_
                      obtain ⟨K_71, hK_72, h⟩ := letE h
                      refine Ex.blockJ (fun a S => ∃ (b_69 : List T_api_Near), K_71 b_69 = some r ∧ a = mkS 25 [] ∧ S = ⟨[(C_api_Float f_1), [.int .i64 apart_2], [.sl (b_69.map A_api_Near) (some 1)], [.int .i64 (IntKind.i64.wrap (b_30 + x_35.Watts))], [.sl (f_1.Loads.map A_api_Load) none], [.int .i64 2], (C_api_Load x_35), [.int .i64 y_28], (C_api_Load x_35), [.sl (f_1.Loads.map A_api_Load) none], [.int .i64 4]], [(0, 0), (b_69.length, 2), (0, 0)]⟩) ?_ ?_
                      · obtain ⟨B_76, hB_77, h⟩ := loop2I h
                        refine Ex.loopF (fun k a S => ∃ (y_73 : Int), ∃ (b_74 : List T_api_Near), loop2 B_76 k y_73 b_74 = some r ∧ a = mkS 25 [(0, .yld Lp_58.l 2), (2, .ptr 10 0), (6, .sl (f_1.Loads.map A_api_Load) none), (7, .int .i64 ((f_1.Loads.length : Nat) : Int)), (8, .int .i64 y_73)] ∧ S = ⟨[(C_api_Float f_1), [.int .i64 apart_2], [.sl (b_74.map A_api_Near) (some 1)], [.int .i64 (IntKind.i64.wrap (b_30 + x_35.Watts))], [.sl (f_1.Loads.map A_api_Load) none], [.int .i64 2], (C_api_Load x_35), [.int .i64 y_28], (C_api_Load x_35), [.sl (f_1.Loads.map A_api_Load) none], [.int .i64 4]], [(0, 0), (b_74.length, 2), (0, 0)]⟩) N ⟨_, _, Forgets.refl _ _ _, 0, b_29, h, rfl, rfl⟩ ?_
                        rintro k a S ⟨y_73, b_74, h, rfl, rfl⟩
                        cases k with
                        | zero => exact (loop2Z h).elim
                        | succ k =>
                          replace h := loop2S h hB_77
                          refine Ex.seq ?_
                          refine regH 1 [] [0, 2, 6, 7, 8, 9] [] (mkS 25 [(0, .yld Lp_58.l 2), (2, .ptr 10 0), (6, .sl (f_1.Loads.map A_api_Load) none), (7, .int .i64 ((f_1.Loads.length : Nat) : Int)), (8, .int .i64 y_73), (9, .bool (decide (y_73 < ((f_1.Loads.length : Nat) : Int))))]) (⟨[(C_api_Float f_1), [.int .i64 apart_2], [.sl (b_74.map A_api_Near) (some 1)], [.int .i64 (IntKind.i64.wrap (b_30 + x_35.Watts))], [.sl (f_1.Loads.map A_api_Load) none], [.int .i64 2], (C_api_Load x_35), [.int .i64 y_28], (C_api_Load x_35), [.sl (f_1.Loads.map A_api_Load) none], [.int .i64 4]], [(0, 0), (b_74.length, 2), (0, 0)]⟩) (by kernel_rfl) trivial rfl ?_
                          refine Ex.seq ?_
                          rcases condI h with ⟨hc_78, h⟩ | ⟨hc_78, h⟩
                          · refine Ex.condT _ rfl hc_78 ?_
                            refine Ex.skip ?_
                            refine Ex.seq ?_
                            refine Ex.blockK ?_
                            refine Ex.seq ?_
                            obtain ⟨x_79, hx_79, h⟩ := Option.bind_eq_some_iff.1 h
                            refine regH 6 [(1, .rop (C_api_Load x_79))] [0, 2, 4, 5, 6, 7, 8] [LGet (f_1.Loads.map A_api_Load) y_73 7 (C_api_Load x_79)] (mkS 25 [(0, .yld Lp_58.l 2), (2, .ptr 10 0), (4, .int .i64 y_73), (5, .ptr 11 0), (6, .sl (f_1.Loads.map A_api_Load) none), (7, .int .i64 ((f_1.Loads.length : Nat) : Int)), (8, .int .i64 y_73)]) (⟨[(C_api_Float f_1), [.int .i64 apart_2], [.sl (b_74.map A_api_Near) (some 1)], [.int .i64 (IntKind.i64.wrap (b_30 + x_35.Watts))], [.sl (f_1.Loads.map A_api_Load) none], [.int .i64 2], (C_api_Load x_35), [.int .i64 y_28], (C_api_Load x_35), [.sl (f_1.Loads.map A_api_Load) none], [.int .i64 4], (C_api_Load x_79)], [(0, 0), (b_74.length, 2), (0, 0)]⟩) (by kernel_rfl) ⟨LGet.of hx_79 rfl, trivial⟩ rfl ?_
                            obtain ⟨K_82, hK_83, h⟩ := letE h
                            refine Ex.seqJ (fun a S => ∃ (b_80 : List T_api_Near), K_82 b_80 = some r ∧ a = mkS 25 [(0, .yld Lp_58.l 2), (2, .ptr 10 0), (6, .sl (f_1.Loads.map A_api_Load) none), (7, .int .i64 ((f_1.Loads.length : Nat) : Int)), (8, .int .i64 y_73), (23, .bool false)] ∧ S = ⟨[(C_api_Float f_1), [.int .i64 apart_2], [.sl (b_80.map A_api_Near) (some 1)], [.int .i64 (IntKind.i64.wrap (b_30 + x_35.Watts))], [.sl (f_1.Loads.map A_api_Load) none], [.int .i64 2], (C_api_Load x_35), [.int .i64 y_28], (C_api_Load x_35), [.sl (f_1.Loads.map A_api_Load) none], [.int .i64 4]], [(0, 0), (b_80.length, 2), (0, 0)]⟩) ?_ ?_
                            · rcases condI h with ⟨hc_84, h⟩ | ⟨hc_84, h⟩
                              · refine Ex.regI ?_
                                refine runI 8 [(4, .eq (.bool true))] [0, 2, 6, 7, 8, 17, 18, 19, 20] [AV.bool (x_79.Kind == 4) = AV.bool true] (mkS 25 [(0, .yld Lp_58.l 2), (2, .ptr 10 0), (6, .sl (f_1.Loads.map A_api_Load) none), (7, .int .i64 ((f_1.Loads.length : Nat) : Int)), (8, .int .i64 y_73), (17, .bool true), (18, .yld Lp_58.l 2), (19, .int .i64 y_73), (20, (A_api_Load x_79))]) (⟨[(C_api_Float f_1), [.int .i64 apart_2], [.sl (b_74.map A_api_Near) (some 1)], [.int .i64 (IntKind.i64.wrap (b_30 + x_35.Watts))], [.sl (f_1.Loads.map A_api_Load) none], [.int .i64 2], (C_api_Load x_35), [.int .i64 y_28], (C_api_Load x_35), [.sl (f_1.Loads.map A_api_Load) none], [.int .i64 4], (C_api_Load x_79)], [(0, 0), (b_74.length, 2), (0, 0)]⟩) (by kernel_rfl) ⟨congrArg AV.bool hc_84, trivial⟩ ?_
                                obtain ⟨K_95, hK_96, h⟩ := letE h
                                refine ExI.yieldT 2 hLt_62 hL_63 [.int .i64 y_73, (A_api_Load x_79)] rfl rfl rfl (by kernel_rfl) rfl rfl (leC hcn_60 (by simp)) ?_
                                intro ca_85 cb_86 ha_87 hb_88 hma_89 hmb_90 hup_91 hbz_92
                                refine Ex.castA (a2 := mkS 58 [(3, .ptr 1 0), (4, .ptr 2 0), (8, .ptr 7 0), (9, .ptr 8 0), (33, .fn 108 [] [.ptr 9 0, .ptr 10 0]), (34, .int .i64 y_73), (35, (A_api_Load x_79))]) (S2 := ⟨[(C_api_Float f_1), [.int .i64 apart_2], [.sl (b_74.map A_api_Near) (some 1)], [.int .i64 (IntKind.i64.wrap (b_30 + x_35.Watts))], [.sl (f_1.Loads.map A_api_Load) none], [.int .i64 2], (C_api_Load x_35), [.int .i64 y_28], (C_api_Load x_35), [.sl (f_1.Loads.map A_api_Load) none], [.int .i64 4], (C_api_Load x_79)], [(0, 0), (b_74.length, 2), (0, 0)]⟩) (by kernel_rfl) (by kernel_rfl) ?_
                                refine Ex.two (fun z S => (z = AEx.norm ∧ ∃ (b_93 : List T_api_Near), K_95 b_93 = some r ∧ S = ⟨[(C_api_Float f_1), [.int .i64 apart_2], [.sl (b_93.map A_api_Near) (some 1)], [.int .i64 (IntKind.i64.wrap (b_30 + x_35.Watts))], [.sl (f_1.Loads.map A_api_Load) none], [.int .i64 2], (C_api_Load x_35), [.int .i64 y_28], (C_api_Load x_35), [.sl (f_1.Loads.map A_api_Load) none], [.int .i64 4], (C_api_Load x_79)], [(0, 0), (b_93.length, 2), (0, 0)]⟩)) ?_ ?_
                                · refine Ex.seq ?_
                                  refine regH 1 [] [3, 4, 8, 9, 10, 35] [] (mkS 58 [(3, .ptr 1 0), (4, .ptr 2 0), (8, .ptr 7 0), (9, .ptr 8 0), (10, .int .i64 y_73), (35, (A_api_Load x_79))]) (⟨[(C_api_Float f_1), [.int .i64 apart_2], [.sl (b_74.map A_api_Near) (some 1)], [.int .i64 (IntKind.i64.wrap (b_30 + x_35.Watts))], [.sl (f_1.Loads.map A_api_Load) none], [.int .i64 2], (C_api_Load x_35), [.int .i64 y_28], (C_api_Load x_35), [.sl (f_1.Loads.map A_api_Load) none], [.int .i64 4], (C_api_Load x_79)], [(0, 0), (b_74.length, 2), (0, 0)]⟩) (by kernel_rfl) trivial rfl ?_
                                  refine regH 2 [] [3, 4, 8, 9, 10, 11] [] (mkS 58 [(3, .ptr 1 0), (4, .ptr 2 0), (8, .ptr 7 0), (9, .ptr 8 0), (10, .int .i64 y_73), (11, .ptr 12 0)]) (⟨[(C_api_Float f_1), [.int .i64 apart_2], [.sl (b_74.map A_api_Near) (some 1)], [.int .i64 (IntKind.i64.wrap (b_30 + x_35.Watts))], [.sl (f_1.Loads.map A_api_Load) none], [.int .i64 2], (C_api_Load x_35), [.int .i64 y_28], (C_api_Load x_35), [.sl (f_1.Loads.map A_api_Load) none], [.int .i64 4], (C_api_Load x_79), (C_api_Load x_79)], [(0, 0), (b_74.length, 2), (0, 0)]⟩) (by kernel_rfl) trivial rfl ?_
                                  refine ⟨rfl, rfl, ?_⟩
                                  obtain ⟨K_99, hK_100, h⟩ := letE h
                                  refine Ex.blockJ (fun a S => ∃ (b_97 : List T_api_Near), K_99 b_97 = some r ∧ a = mkS 58 [] ∧ S = ⟨[(C_api_Float f_1), [.int .i64 apart_2], [.sl (b_97.map A_api_Near) (some 1)], [.int .i64 (IntKind.i64.wrap (b_30 + x_35.Watts))], [.sl (f_1.Loads.map A_api_Load) none], [.int .i64 2], (C_api_Load x_35), [.int .i64 y_28], (C_api_Load x_35), [.sl (f_1.Loads.map A_api_Load) none], [.int .i64 4], (C_api_Load x_79)], [(0, 0), (b_97.length, 2), (0, 0)]⟩) ?_ ?_
                                  · refine Ex.seq ?_
                                    obtain ⟨r_101, hr_101, h⟩ := Option.bind_eq_some_iff.1 h
                                    have hT_102 : DoesA Try.prog [⟨92, [(A_api_Load x_35), (A_api_Load x_79)], [], (v_float_distance r_101), []⟩] ∧ ConsA [⟨92, [(A_api_Load x_35), (A_api_Load x_79)], [], (v_float_distance r_101), []⟩] := ⟨⟨(d_float_distance N x_35 x_79 r_101 hr_101), rfl, trivial⟩, ⟨trivial, trivial⟩⟩
                                    refine Ex.drawE (a1 := mkS 58 [(3, .ptr 1 0), (4, .ptr 2 0), (8, .ptr 7 0), (9, .ptr 8 0), (10, .int .i64 y_73), (11, .ptr 12 0), (36, (A_api_Load x_35)), (37, (A_api_Load x_79)), (38, .int .i64 r_101), (39, .int .i64 apart_2)]) (tabO_ok hT_102.1) [] [] [] ?_ ?_
                                    · refine drS [0, 1, 2, 3, 4, 5, 6, 7, 8, 9, 10, 11, 12] 2 [] [] (mkS 58 [(3, .ptr 1 0), (4, .ptr 2 0), (8, .ptr 7 0), (9, .ptr 8 0), (10, .int .i64 y_73), (11, .ptr 12 0), (36, (A_api_Load x_35)), (37, (A_api_Load x_79))]) (by simp) (by kernel_rfl) trivial (by kernel_rfl) ?_
                                      refine drC hT_102.2 0 _ [(A_api_Load x_35), (A_api_Load x_79)] (v_float_distance r_101) rfl rfl rfl rfl rfl (fun _ => rfl) rfl (by simp [ren, ren1, AV.plain, AV.plain1, AV.clean, List.idxOf?, List.findIdx?, List.findIdx?.go, cleanL, cleanI, cleanBo, cleanSt, cleanII, KL_bateriakit_Drum, KL_api_Span, KL_api_Load, KL_api_Float, KL_api_Near, A_bateriakit_Drum, C_bateriakit_Drum, A_api_Span, C_api_Span, A_api_Load, C_api_Load, A_api_Float, C_api_Float, A_api_Near, C_api_Near]; try rfl) (fun _ => b_float_distance _ _ _ _) ?_
                                      refine drS [0, 1, 2, 3, 4, 5, 6, 7, 8, 9, 10, 11, 12] 1 [] [] (mkS 58 [(3, .ptr 1 0), (4, .ptr 2 0), (8, .ptr 7 0), (9, .ptr 8 0), (10, .int .i64 y_73), (11, .ptr 12 0), (36, (A_api_Load x_35)), (37, (A_api_Load x_79)), (38, .int .i64 r_101), (39, .int .i64 apart_2)]) (by simp) (by kernel_rfl) trivial (by kernel_rfl) ?_
                                      exact DrO.nil rfl
                                    · dsimp only [List.getLastD_cons, List.getLastD_nil]
                                      refine runH 1 [] [4, 8, 10, 40] [] (mkS 58 [(4, .ptr 2 0), (8, .ptr 7 0), (10, .int .i64 y_73), (40, .bool (decide (r_101 < apart_2)))]) (⟨[(C_api_Float f_1), [.int .i64 apart_2], [.sl (b_74.map A_api_Near) (some 1)], [.int .i64 (IntKind.i64.wrap (b_30 + x_35.Watts))], [.sl (f_1.Loads.map A_api_Load) none], [.int .i64 2], (C_api_Load x_35), [.int .i64 y_28], (C_api_Load x_35), [.sl (f_1.Loads.map A_api_Load) none], [.int .i64 4], (C_api_Load x_79), (C_api_Load x_79)], [(0, 0), (b_74.length, 2), (0, 0)]⟩) (by kernel_rfl) trivial ?_
                                      refine ExO.nil ?_
                                      rcases condI h with ⟨hc_103, h⟩ | ⟨hc_103, h⟩
                                      · refine Ex.condT _ rfl hc_103 ?_
                                        obtain ⟨l_104, hl_104, h⟩ := Option.bind_eq_some_iff.1 h
                                        refine regH 7 [(5, .app (l_104.map A_api_Near) l_104.length)] [] [LApp b_74.length (b_74.map A_api_Near) (([(⟨y_28, y_73⟩ : T_api_Near)] : List T_api_Near).map A_api_Near) 2 (l_104.map A_api_Near) l_104.length] (mkS 58 []) (⟨[(C_api_Float f_1), [.int .i64 apart_2], [.sl (l_104.map A_api_Near) (some 1)], [.int .i64 (IntKind.i64.wrap (b_30 + x_35.Watts))], [.sl (f_1.Loads.map A_api_Load) none], [.int .i64 2], (C_api_Load x_35), [.int .i64 y_28], (C_api_Load x_35), [.sl (f_1.Loads.map A_api_Load) none], [.int .i64 4], (C_api_Load x_79), (C_api_Load x_79)], [(0, 0), (l_104.length, 2), (0, 0), (1, 2)]⟩) (by kernel_rfl) ⟨LApp.of hl_104 (fun _ => rfl), trivial⟩ rfl ?_
                                        (try simp only [reduceCtorEq, AEx.ex.injEq, Nat.reduceEqDiff, if_true, if_false])
                                        exact ⟨_, _, forgetA (m := 58) 12 [0, 1, 2] [] [(C_api_Float f_1), [.int .i64 apart_2], [.sl (l_104.map A_api_Near) (some 1)], [.int .i64 (IntKind.i64.wrap (b_30 + x_35.Watts))], [.sl (f_1.Loads.map A_api_Load) none], [.int .i64 2], (C_api_Load x_35), [.int .i64 y_28], (C_api_Load x_35), [.sl (f_1.Loads.map A_api_Load) none], [.int .i64 4], (C_api_Load x_79)] [(0, 0), (l_104.length, 2), (0, 0)] (leC hb_88 (by simp)) (by simp) trivial (by simp [re, re1, AV.clean, List.idxOf?, List.findIdx?, List.findIdx?.go, cleanL, cleanI, cleanBo, cleanSt, cleanII, KL_bateriakit_Drum, KL_api_Span, KL_api_Load, KL_api_Float, KL_api_Near, KB_bateriakit_Drum, KB_api_Span, KB_api_Load, KB_api_Float, KB_api_Near]) rfl (by decide) (sig0 3 hmb_90 rfl), l_104, h, rfl, rfl⟩
                                      · refine Ex.condF _ rfl hc_103 ?_
                                        refine Ex.skip ?_
                                        (try simp only [reduceCtorEq, AEx.ex.injEq, Nat.reduceEqDiff, if_true, if_false])
                                        exact ⟨_, _, forgetA (m := 58) 12 [0, 1, 2] [] [(C_api_Float f_1), [.int .i64 apart_2], [.sl (b_74.map A_api_Near) (some 1)], [.int .i64 (IntKind.i64.wrap (b_30 + x_35.Watts))], [.sl (f_1.Loads.map A_api_Load) none], [.int .i64 2], (C_api_Load x_35), [.int .i64 y_28], (C_api_Load x_35), [.sl (f_1.Loads.map A_api_Load) none], [.int .i64 4], (C_api_Load x_79)] [(0, 0), (b_74.length, 2), (0, 0)] (leC hb_88 (by simp)) (by simp) trivial (by simp [re, re1, AV.clean, List.idxOf?, List.findIdx?, List.findIdx?.go, cleanL, cleanI, cleanBo, cleanSt, cleanII, KL_bateriakit_Drum, KL_api_Span, KL_api_Load, KL_api_Float, KL_api_Near, KB_bateriakit_Drum, KB_api_Span, KB_api_Load, KB_api_Float, KB_api_Near]) rfl (by decide) (sig0 3 hmb_90 rfl), b_74, h, rfl, rfl⟩
                                  · rintro a S ⟨b_97, h, rfl, rfl⟩
                                    subst hK_100
                                    (try simp only [reduceCtorEq, AEx.ex.injEq, Nat.reduceEqDiff, if_true, if_false])
                                    exact ⟨_, _, Forgets.refl _ _ _, ⟨by first | rfl | trivial, b_97, h, rfl⟩⟩
                                · rintro z a2 S (⟨rfl, b_93, h, rfl⟩)
                                  subst hK_96
                                  refine runI 2 [] [0, 2, 6, 7, 8, 23] [] (mkS 25 [(0, .yld Lp_58.l 2), (2, .ptr 10 0), (6, .sl (f_1.Loads.map A_api_Load) none), (7, .int .i64 ((f_1.Loads.length : Nat) : Int)), (8, .int .i64 y_73), (23, .bool false)]) (⟨[(C_api_Float f_1), [.int .i64 apart_2], [.sl (b_93.map A_api_Near) (some 1)], [.int .i64 (IntKind.i64.wrap (b_30 + x_35.Watts))], [.sl (f_1.Loads.map A_api_Load) none], [.int .i64 2], (C_api_Load x_35), [.int .i64 y_28], (C_api_Load x_35), [.sl (f_1.Loads.map A_api_Load) none], [.int .i64 4], (C_api_Load x_79)], [(0, 0), (b_93.length, 2), (0, 0)]⟩) (by kernel_rfl) trivial ?_
                                  refine ExI.nil ?_
                                  (try simp only [reduceCtorEq, AEx.ex.injEq, Nat.reduceEqDiff, if_true, if_false])
                                  exact ⟨_, _, forgetA (m := 25) 11 [0, 1, 2] [(0, .yld Lp_58.l 2), (2, .ptr 10 0), (6, .sl (f_1.Loads.map A_api_Load) none), (7, .int .i64 ((f_1.Loads.length : Nat) : Int)), (8, .int .i64 y_73), (23, .bool false)] [(C_api_Float f_1), [.int .i64 apart_2], [.sl (b_93.map A_api_Near) (some 1)], [.int .i64 (IntKind.i64.wrap (b_30 + x_35.Watts))], [.sl (f_1.Loads.map A_api_Load) none], [.int .i64 2], (C_api_Load x_35), [.int .i64 y_28], (C_api_Load x_35), [.sl (f_1.Loads.map A_api_Load) none], [.int .i64 4]] [(0, 0), (b_93.length, 2), (0, 0)] (leC hcn_60 (by simp)) (by simp) ⟨rfl, rfl, (reN (KL_api_Load _)), rfl, rfl, rfl, trivial⟩ (by simp [re, re1, AV.clean, List.idxOf?, List.findIdx?, List.findIdx?.go, cleanL, cleanI, cleanBo, cleanSt, cleanII, KL_bateriakit_Drum, KL_api_Span, KL_api_Load, KL_api_Float, KL_api_Near, KB_bateriakit_Drum, KB_api_Span, KB_api_Load, KB_api_Float, KB_api_Near]) rfl (by decide) (sig0 3 hcm_61 rfl), b_93, h, rfl, rfl⟩
                              · refine Ex.regI ?_
                                refine runI 11 [(4, .eq (.bool false))] [0, 2, 6, 7, 8, 23] [AV.bool (x_79.Kind == 4) = AV.bool false] (mkS 25 [(0, .yld Lp_58.l 2), (2, .ptr 10 0), (6, .sl (f_1.Loads.map A_api_Load) none), (7, .int .i64 ((f_1.Loads.length : Nat) : Int)), (8, .int .i64 y_73), (23, .bool false)]) (⟨[(C_api_Float f_1), [.int .i64 apart_2], [.sl (b_74.map A_api_Near) (some 1)], [.int .i64 (IntKind.i64.wrap (b_30 + x_35.Watts))], [.sl (f_1.Loads.map A_api_Load) none], [.int .i64 2], (C_api_Load x_35), [.int .i64 y_28], (C_api_Load x_35), [.sl (f_1.Loads.map A_api_Load) none], [.int .i64 4], (C_api_Load x_79)], [(0, 0), (b_74.length, 2), (0, 0)]⟩) (by kernel_rfl) ⟨congrArg AV.bool hc_84, trivial⟩ ?_
                                refine ExI.nil ?_
                                (try simp only [reduceCtorEq, AEx.ex.injEq, Nat.reduceEqDiff, if_true, if_false])
                                exact ⟨_, _, forgetA (m := 25) 11 [0, 1, 2] [(0, .yld Lp_58.l 2), (2, .ptr 10 0), (6, .sl (f_1.Loads.map A_api_Load) none), (7, .int .i64 ((f_1.Loads.length : Nat) : Int)), (8, .int .i64 y_73), (23, .bool false)] [(C_api_Float f_1), [.int .i64 apart_2], [.sl (b_74.map A_api_Near) (some 1)], [.int .i64 (IntKind.i64.wrap (b_30 + x_35.Watts))], [.sl (f_1.Loads.map A_api_Load) none], [.int .i64 2], (C_api_Load x_35), [.int .i64 y_28], (C_api_Load x_35), [.sl (f_1.Loads.map A_api_Load) none], [.int .i64 4]] [(0, 0), (b_74.length, 2), (0, 0)] (leC hcn_60 (by simp)) (by simp) ⟨rfl, rfl, (reN (KL_api_Load _)), rfl, rfl, rfl, trivial⟩ (by simp [re, re1, AV.clean, List.idxOf?, List.findIdx?, List.findIdx?.go, cleanL, cleanI, cleanBo, cleanSt, cleanII, KL_bateriakit_Drum, KL_api_Span, KL_api_Load, KL_api_Float, KL_api_Near, KB_bateriakit_Drum, KB_api_Span, KB_api_Load, KB_api_Float, KB_api_Near]) rfl (by decide) (sig0 3 hcm_61 rfl), b_74, h, rfl, rfl⟩
                            · rintro a S ⟨b_80, h, rfl, rfl⟩
                              subst hK_83
                              refine Ex.cond (b := false) rfl ?_
                              refine Ex.skip ?_
                              refine regH 2 [] [0, 2, 6, 7, 8] [] (mkS 25 [(0, .yld Lp_58.l 2), (2, .ptr 10 0), (6, .sl (f_1.Loads.map A_api_Load) none), (7, .int .i64 ((f_1.Loads.length : Nat) : Int)), (8, .int .i64 (IntKind.i64.wrap (y_73 + 1)))]) (⟨[(C_api_Float f_1), [.int .i64 apart_2], [.sl (b_80.map A_api_Near) (some 1)], [.int .i64 (IntKind.i64.wrap (b_30 + x_35.Watts))], [.sl (f_1.Loads.map A_api_Load) none], [.int .i64 2], (C_api_Load x_35), [.int .i64 y_28], (C_api_Load x_35), [.sl (f_1.Loads.map A_api_Load) none], [.int .i64 4]], [(0, 0), (b_80.length, 2), (0, 0)]⟩) (by kernel_rfl) trivial rfl ?_
                              dsimp only
                              exact ⟨_, _, Forgets.refl _ _ _, k, Nat.lt_succ_self k, (IntKind.i64.wrap (y_73 + 1)), b_80, h, rfl, rfl⟩
                          · refine Ex.condF _ rfl hc_78 ?_
                            refine Ex.exit ?_
                            (try simp only [reduceCtorEq, AEx.ex.injEq, Nat.reduceEqDiff, if_true, if_false])
                            exact ⟨_, _, forgetK [], b_74, h, rfl, rfl⟩
                      · rintro a S ⟨b_69, h, rfl, rfl⟩
                        subst hK_72
                        exact ⟨_, _, Forgets.refl _ _ _, .inl rfl, 0, rfl, ⟨by first | rfl | trivial, b_69, h, rfl⟩⟩
                    · rintro k S (⟨rfl, b_65, h, rfl⟩)
                      subst hK_68
                      (try simp only [reduceCtorEq, AEx.ex.injEq, Nat.reduceEqDiff, if_true, if_false])
                      exact ⟨_, _, forgetA (m := 58) 7 [0, 1] [] [(C_api_Float f_1), [.int .i64 apart_2], [.sl (b_65.map A_api_Near) (some 1)], [.int .i64 (IntKind.i64.wrap (b_30 + x_35.Watts))], [.sl (f_1.Loads.map A_api_Load) none], [.int .i64 2], (C_api_Load x_35)] [(0, 0), (b_65.length, 2)] (leC hb_45 (by simp)) (by simp) trivial (by simp [re, re1, AV.clean, List.idxOf?, List.findIdx?, List.findIdx?.go, cleanL, cleanI, cleanBo, cleanSt, cleanII, KL_bateriakit_Drum, KL_api_Span, KL_api_Load, KL_api_Float, KL_api_Near, KB_bateriakit_Drum, KB_api_Span, KB_api_Load, KB_api_Float, KB_api_Near]) rfl (by decide) (sig0 2 hmb_47 rfl), ⟨by first | rfl | trivial, b_65, h, rfl⟩⟩
                  · rintro z a2 S (⟨rfl, b_50, h, rfl⟩)
                    subst hK_53
                    refine runI 2 [] [0, 2, 6, 7, 8, 23] [] (mkS 25 [(0, .yld Lp_11.l 0), (2, .ptr 5 0), (6, .sl (f_1.Loads.map A_api_Load) none), (7, .int .i64 ((f_1.Loads.length : Nat) : Int)), (8, .int .i64 y_28), (23, .bool false)]) (⟨[(C_api_Float f_1), [.int .i64 apart_2], [.sl (b_50.map A_api_Near) (some 1)], [.int .i64 (IntKind.i64.wrap (b_30 + x_35.Watts))], [.sl (f_1.Loads.map A_api_Load) none], [.int .i64 2], (C_api_Load x_35)], [(0, 0), (b_50.length, 2)]⟩) (by kernel_rfl) trivial ?_
                    refine ExI.nil ?_
                    (try simp only [reduceCtorEq, AEx.ex.injEq, Nat.reduceEqDiff, if_true, if_false])
                    exact ⟨_, _, forgetA (m := 25) 6 [0, 1] [(0, .yld Lp_11.l 0), (2, .ptr 5 0), (6, .sl (f_1.Loads.map A_api_Load) none), (7, .int .i64 ((f_1.Loads.length : Nat) : Int)), (8, .int .i64 y_28), (23, .bool false)] [(C_api_Float f_1), [.int .i64 apart_2], [.sl (b_50.map A_api_Near) (some 1)], [.int .i64 (IntKind.i64.wrap (b_30 + x_35.Watts))], [.sl (f_1.Loads.map A_api_Load) none], [.int .i64 2]] [(0, 0), (b_50.length, 2)] (leC hcn_13 (by simp)) (by simp) ⟨rfl, rfl, (reN (KL_api_Load _)), rfl, rfl, rfl, trivial⟩ (by simp [re, re1, AV.clean, List.idxOf?, List.findIdx?, List.findIdx?.go, cleanL, cleanI, cleanBo, cleanSt, cleanII, KL_bateriakit_Drum, KL_api_Span, KL_api_Load, KL_api_Float, KL_api_Near, KB_bateriakit_Drum, KB_api_Span, KB_api_Load, KB_api_Float, KB_api_Near]) rfl (by decide) (sig0 1 hcm_14 rfl), b_50, (IntKind.i64.wrap (b_30 + x_35.Watts)), h, rfl, rfl⟩
                · refine Ex.regI ?_
                  refine runI 11 [(4, .eq (.bool false))] [0, 2, 6, 7, 8, 23] [AV.bool (x_35.Kind == 2) = AV.bool false] (mkS 25 [(0, .yld Lp_11.l 0), (2, .ptr 5 0), (6, .sl (f_1.Loads.map A_api_Load) none), (7, .int .i64 ((f_1.Loads.length : Nat) : Int)), (8, .int .i64 y_28), (23, .bool false)]) (⟨[(C_api_Float f_1), [.int .i64 apart_2], [.sl (b_29.map A_api_Near) (some 1)], [.int .i64 b_30], [.sl (f_1.Loads.map A_api_Load) none], [.int .i64 2], (C_api_Load x_35)], [(0, 0), (b_29.length, 2)]⟩) (by kernel_rfl) ⟨congrArg AV.bool hc_41, trivial⟩ ?_
                  refine ExI.nil ?_
                  (try simp only [reduceCtorEq, AEx.ex.injEq, Nat.reduceEqDiff, if_true, if_false])
                  exact ⟨_, _, forgetA (m := 25) 6 [0, 1] [(0, .yld Lp_11.l 0), (2, .ptr 5 0), (6, .sl (f_1.Loads.map A_api_Load) none), (7, .int .i64 ((f_1.Loads.length : Nat) : Int)), (8, .int .i64 y_28), (23, .bool false)] [(C_api_Float f_1), [.int .i64 apart_2], [.sl (b_29.map A_api_Near) (some 1)], [.int .i64 b_30], [.sl (f_1.Loads.map A_api_Load) none], [.int .i64 2]] [(0, 0), (b_29.length, 2)] (leC hcn_13 (by simp)) (by simp) ⟨rfl, rfl, (reN (KL_api_Load _)), rfl, rfl, rfl, trivial⟩ (by simp [re, re1, AV.clean, List.idxOf?, List.findIdx?, List.findIdx?.go, cleanL, cleanI, cleanBo, cleanSt, cleanII, KL_bateriakit_Drum, KL_api_Span, KL_api_Load, KL_api_Float, KL_api_Near, KB_bateriakit_Drum, KB_api_Span, KB_api_Load, KB_api_Float, KB_api_Near]) rfl (by decide) (sig0 1 hcm_14 rfl), b_29, b_30, h, rfl, rfl⟩
              · rintro a S ⟨b_36, b_37, h, rfl, rfl⟩
                subst hK_40
                refine Ex.cond (b := false) rfl ?_
                refine Ex.skip ?_
                refine regH 2 [] [0, 2, 6, 7, 8] [] (mkS 25 [(0, .yld Lp_11.l 0), (2, .ptr 5 0), (6, .sl (f_1.Loads.map A_api_Load) none), (7, .int .i64 ((f_1.Loads.length : Nat) : Int)), (8, .int .i64 (IntKind.i64.wrap (y_28 + 1)))]) (⟨[(C_api_Float f_1), [.int .i64 apart_2], [.sl (b_36.map A_api_Near) (some 1)], [.int .i64 b_37], [.sl (f_1.Loads.map A_api_Load) none], [.int .i64 2]], [(0, 0), (b_36.length, 2)]⟩) (by kernel_rfl) trivial rfl ?_
                dsimp only
                exact ⟨_, _, Forgets.refl _ _ _, k, Nat.lt_succ_self k, (IntKind.i64.wrap (y_28 + 1)), b_36, b_37, h, rfl, rfl⟩
            · refine Ex.condF _ rfl hc_34 ?_
              refine Ex.exit ?_
              (try simp only [reduceCtorEq, AEx.ex.injEq, Nat.reduceEqDiff, if_true, if_false])
              exact ⟨_, _, forgetK [], b_29, b_30, h, rfl, rfl⟩
        · rintro a S ⟨b_23, b_24, h, rfl, rfl⟩
          subst hK_27
          exact ⟨_, _, Forgets.refl _ _ _, .inl rfl, 0, rfl, ⟨by first | rfl | trivial, b_23, b_24, h, rfl⟩⟩
      · rintro k S (⟨rfl, b_18, b_19, h, rfl⟩)
        subst hK_22
        refine Ex.seq ?_
        refine Ex.seq ?_
        refine Ex.reg ?_
        refine runH 2 [] [4, 5, 6, 48] [] (mkS 58 [(4, .ptr 2 0), (5, .ptr 3 0), (6, .int .i64 0), (48, .sl (f_1.Loads.map A_api_Load) none)]) (⟨[(C_api_Float f_1), [.int .i64 apart_2], [.sl (b_18.map A_api_Near) (some 1)], [.int .i64 b_19], [.sl (f_1.Loads.map A_api_Load) none], [.int .i64 2]], [(0, 0), (b_18.length, 2)]⟩) (by kernel_rfl) trivial ?_
        refine ExO.inlC 91 [.sl (f_1.Loads.map A_api_Load) none, .int .i64 3] _ comp91 (by simp) rfl rfl ?_
        intro cx_105 hcn_106 hcm_107 hup_108
        refine Ex.castA (a2 := mkS 6 [(0, .sl (f_1.Loads.map A_api_Load) none), (1, .int .i64 3), (2, .tup []), (3, .tup []), (4, .tup []), (5, .tup [])]) (S2 := ⟨[(C_api_Float f_1), [.int .i64 apart_2], [.sl (b_18.map A_api_Near) (some 1)], [.int .i64 b_19], [.sl (f_1.Loads.map A_api_Load) none], [.int .i64 2]], [(0, 0), (b_18.length, 2)]⟩) (by kernel_rfl) (by kernel_rfl) ?_
        refine Ex.seq ?_
        refine regH 3 [] [2, 3] [] (mkS 6 [(2, .ptr 6 0), (3, .ptr 7 0)]) (⟨[(C_api_Float f_1), [.int .i64 apart_2], [.sl (b_18.map A_api_Near) (some 1)], [.int .i64 b_19], [.sl (f_1.Loads.map A_api_Load) none], [.int .i64 2], [.sl (f_1.Loads.map A_api_Load) none], [.int .i64 3]], [(0, 0), (b_18.length, 2)]⟩) (by kernel_rfl) trivial rfl ?_
        refine Ex.seq ?_
        refine regH 2 [] [4] [] (mkS 6 [(4, .fn 108 [] [.ptr 6 0, .ptr 7 0])]) (⟨[(C_api_Float f_1), [.int .i64 apart_2], [.sl (b_18.map A_api_Near) (some 1)], [.int .i64 b_19], [.sl (f_1.Loads.map A_api_Load) none], [.int .i64 2], [.sl (f_1.Loads.map A_api_Load) none], [.int .i64 3]], [(0, 0), (b_18.length, 2)]⟩) (by kernel_rfl) trivial rfl ?_
        refine Ex.ret ?_
        refine ⟨.inr rfl, .fn 108 [] [.ptr 6 0, .ptr 7 0], by kernel_rfl, ?_⟩
        refine runH 0 [] [4, 5, 6, 49] [] (mkS 58 [(4, .ptr 2 0), (5, .ptr 3 0), (6, .int .i64 0), (49, .fn 108 [] [.ptr 6 0, .ptr 7 0])]) (⟨[(C_api_Float f_1), [.int .i64 apart_2], [.sl (b_18.map A_api_Near) (some 1)], [.int .i64 b_19], [.sl (f_1.Loads.map A_api_Load) none], [.int .i64 2], [.sl (f_1.Loads.map A_api_Load) none], [.int .i64 3]], [(0, 0), (b_18.length, 2)]⟩) (by kernel_rfl) trivial ?_
        refine ExO.nil ?_
        refine Ex.blockK ?_
        obtain ⟨K_118, hK_119, h⟩ := letE h
        refine Ex.rangeJ (fun k S => (k = 0 ∧ ∃ (b_116 : Int), K_118 b_116 = some r ∧ S = ⟨[(C_api_Float f_1), [.int .i64 apart_2], [.sl (b_18.map A_api_Near) (some 1)], [.int .i64 b_116], [.sl (f_1.Loads.map A_api_Load) none], [.int .i64 2], [.sl (f_1.Loads.map A_api_Load) none], [.int .i64 3]], [(0, 0), (b_18.length, 2), (0, 0)]⟩)) 108 [.ptr 6 0, .ptr 7 0] _ rfl comp108 rfl (by simp) (by exact trivial) (mkS 25 [(1, .ptr 6 0), (2, .ptr 7 0), (3, .tup []), (4, .tup []), (5, .tup []), (6, .tup []), (7, .tup []), (8, .tup []), (9, .tup []), (10, .tup []), (11, .tup []), (12, .tup []), (13, .tup []), (14, .tup []), (15, .tup []), (16, .tup []), (17, .tup []), (18, .tup []), (19, .tup []), (20, .tup []), (21, .tup []), (22, .tup []), (23, .tup []), (24, .tup [])]) (⟨[(C_api_Float f_1), [.int .i64 apart_2], [.sl (b_18.map A_api_Near) (some 1)], [.int .i64 b_19], [.sl (f_1.Loads.map A_api_Load) none], [.int .i64 2], [.sl (f_1.Loads.map A_api_Load) none], [.int .i64 3]], [(0, 0), (b_18.length, 2), (0, 0)]⟩) (fun _ => by kernel_rfl) (by kernel_rfl) ?_ ?_
        · intro cx_110 Lp_109 hcn_111 hcm_112 hLt_113 hL_114 hup_115
          refine Ex.castA (a2 := mkS 25 [(0, .yld Lp_109.l 2), (1, .ptr 6 0), (2, .ptr 7 0), (3, .tup []), (4, .tup []), (5, .tup []), (6, .tup []), (7, .tup []), (8, .tup []), (9, .tup []), (10, .tup []), (11, .tup []), (12, .tup []), (13, .tup []), (14, .tup []), (15, .tup []), (16, .tup []), (17, .tup []), (18, .tup []), (19, .tup []), (20, .tup []), (21, .tup []), (22, .tup []), (23, .tup []), (24, .tup [])]) (S2 := ⟨[(C_api_Float f_1), [.int .i64 apart_2], [.sl (b_18.map A_api_Near) (some 1)], [.int .i64 b_19], [.sl (f_1.Loads.map A_api_Load) none], [.int .i64 2], [.sl (f_1.Loads.map A_api_Load) none], [.int .i64 3]], [(0, 0), (b_18.length, 2), (0, 0)]⟩) (by kernel_rfl) rfl ?_
          refine Ex.seq ?_
          refine regH 3 [(1, .eq (.int .i64 ((f_1.Loads.length : Nat) : Int)))] [0, 2, 6, 7, 8] [AV.int .i64 (((f_1.Loads.map A_api_Load).length : Nat) : Int) = AV.int .i64 ((f_1.Loads.length : Nat) : Int)] (mkS 25 [(0, .yld Lp_109.l 2), (2, .ptr 7 0), (6, .sl (f_1.Loads.map A_api_Load) none), (7, .int .i64 ((f_1.Loads.length : Nat) : Int)), (8, .int .i64 0)]) (⟨[(C_api_Float f_1), [.int .i64 apart_2], [.sl (b_18.map A_api_Near) (some 1)], [.int .i64 b_19], [.sl (f_1.Loads.map A_api_Load) none], [.int .i64 2], [.sl (f_1.Loads.map A_api_Load) none], [.int .i64 3]], [(0, 0), (b_18.length, 2), (0, 0)]⟩) (by kernel_rfl) ⟨lenM _ _, trivial⟩ rfl ?_
          obtain ⟨K_122, hK_123, h⟩ := letE h
          refine Ex.blockJ (fun a S => ∃ (b_120 : Int), K_122 b_120 = some r ∧ a = mkS 25 [] ∧ S = ⟨[(C_api_Float f_1), [.int .i64 apart_2], [.sl (b_18.map A_api_Near) (some 1)], [.int .i64 b_120], [.sl (f_1.Loads.map A_api_Load) none], [.int .i64 2], [.sl (f_1.Loads.map A_api_Load) none], [.int .i64 3]], [(0, 0), (b_18.length, 2), (0, 0)]⟩) ?_ ?_
          · obtain ⟨B_127, hB_128, h⟩ := loop2I h
            refine Ex.loopF (fun k a S => ∃ (y_124 : Int), ∃ (b_125 : Int), loop2 B_127 k y_124 b_125 = some r ∧ a = mkS 25 [(0, .yld Lp_109.l 2), (2, .ptr 7 0), (6, .sl (f_1.Loads.map A_api_Load) none), (7, .int .i64 ((f_1.Loads.length : Nat) : Int)), (8, .int .i64 y_124)] ∧ S = ⟨[(C_api_Float f_1), [.int .i64 apart_2], [.sl (b_18.map A_api_Near) (some 1)], [.int .i64 b_125], [.sl (f_1.Loads.map A_api_Load) none], [.int .i64 2], [.sl (f_1.Loads.map A_api_Load) none], [.int .i64 3]], [(0, 0), (b_18.length, 2), (0, 0)]⟩) N ⟨_, _, Forgets.refl _ _ _, 0, b_19, h, rfl, rfl⟩ ?_
            rintro k a S ⟨y_124, b_125, h, rfl, rfl⟩
            cases k with
            | zero => exact (loop2Z h).elim
            | succ k =>
              replace h := loop2S h hB_128
              refine Ex.seq ?_
              refine regH 1 [] [0, 2, 6, 7, 8, 9] [] (mkS 25 [(0, .yld Lp_109.l 2), (2, .ptr 7 0), (6, .sl (f_1.Loads.map A_api_Load) none), (7, .int .i64 ((f_1.Loads.length : Nat) : Int)), (8, .int .i64 y_124), (9, .bool (decide (y_124 < ((f_1.Loads.length : Nat) : Int))))]) (⟨[(C_api_Float f_1), [.int .i64 apart_2], [.sl (b_18.map A_api_Near) (some 1)], [.int .i64 b_125], [.sl (f_1.Loads.map A_api_Load) none], [.int .i64 2], [.sl (f_1.Loads.map A_api_Load) none], [.int .i64 3]], [(0, 0), (b_18.length, 2), (0, 0)]⟩) (by kernel_rfl) trivial rfl ?_
              refine Ex.seq ?_
              rcases condI h with ⟨hc_129, h⟩ | ⟨hc_129, h⟩
              · refine Ex.condT _ rfl hc_129 ?_
                refine Ex.skip ?_
                refine Ex.seq ?_
                refine Ex.blockK ?_
                refine Ex.seq ?_
                obtain ⟨x_130, hx_130, h⟩ := Option.bind_eq_some_iff.1 h
                refine regH 6 [(1, .rop (C_api_Load x_130))] [0, 2, 4, 5, 6, 7, 8] [LGet (f_1.Loads.map A_api_Load) y_124 7 (C_api_Load x_130)] (mkS 25 [(0, .yld Lp_109.l 2), (2, .ptr 7 0), (4, .int .i64 y_124), (5, .ptr 8 0), (6, .sl (f_1.Loads.map A_api_Load) none), (7, .int .i64 ((f_1.Loads.length : Nat) : Int)), (8, .int .i64 y_124)]) (⟨[(C_api_Float f_1), [.int .i64 apart_2], [.sl (b_18.map A_api_Near) (some 1)], [.int .i64 b_125], [.sl (f_1.Loads.map A_api_Load) none], [.int .i64 2], [.sl (f_1.Loads.map A_api_Load) none], [.int .i64 3], (C_api_Load x_130)], [(0, 0), (b_18.length, 2), (0, 0)]⟩) (by kernel_rfl) ⟨LGet.of hx_130 rfl, trivial⟩ rfl ?_
                obtain ⟨K_133, hK_134, h⟩ := letE h
                refine Ex.seqJ (fun a S => ∃ (b_131 : Int), K_133 b_131 = some r ∧ a = mkS 25 [(0, .yld Lp_109.l 2), (2, .ptr 7 0), (6, .sl (f_1.Loads.map A_api_Load) none), (7, .int .i64 ((f_1.Loads.length : Nat) : Int)), (8, .int .i64 y_124), (23, .bool false)] ∧ S = ⟨[(C_api_Float f_1), [.int .i64 apart_2], [.sl (b_18.map A_api_Near) (some 1)], [.int .i64 b_131], [.sl (f_1.Loads.map A_api_Load) none], [.int .i64 2], [.sl (f_1.Loads.map A_api_Load) none], [.int .i64 3]], [(0, 0), (b_18.length, 2), (0, 0)]⟩) ?_ ?_
                · rcases condI h with ⟨hc_135, h⟩ | ⟨hc_135, h⟩
                  · refine Ex.regI ?_
                    refine runI 8 [(4, .eq (.bool true))] [0, 2, 6, 7, 8, 17, 18, 19, 20] [AV.bool (x_130.Kind == 3) = AV.bool true] (mkS 25 [(0, .yld Lp_109.l 2), (2, .ptr 7 0), (6, .sl (f_1.Loads.map A_api_Load) none), (7, .int .i64 ((f_1.Loads.length : Nat) : Int)), (8, .int .i64 y_124), (17, .bool true), (18, .yld Lp_109.l 2), (19, .int .i64 y_124), (20, (A_api_Load x_130))]) (⟨[(C_api_Float f_1), [.int .i64 apart_2], [.sl (b_18.map A_api_Near) (some 1)], [.int .i64 b_125], [.sl (f_1.Loads.map A_api_Load) none], [.int .i64 2], [.sl (f_1.Loads.map A_api_Load) none], [.int .i64 3], (C_api_Load x_130)], [(0, 0), (b_18.length, 2), (0, 0)]⟩) (by kernel_rfl) ⟨congrArg AV.bool hc_135, trivial⟩ ?_
                    obtain ⟨K_145, hK_146, h⟩ := letE h
                    refine ExI.yieldT 2 hLt_113 hL_114 [.int .i64 y_124, (A_api_Load x_130)] rfl rfl rfl (by kernel_rfl) rfl rfl (leC hcn_111 (by simp)) ?_
                    intro ca_136 cb_137 ha_138 hb_139 hma_140 hmb_141 hup_142 hbz_143
                    refine Ex.castA (a2 := mkS 58 [(4, .ptr 2 0), (5, .ptr 3 0), (6, .int .i64 0), (49, .fn 108 [] [.ptr 6 0, .ptr 7 0]), (50, .int .i64 y_124), (51, (A_api_Load x_130))]) (S2 := ⟨[(C_api_Float f_1), [.int .i64 apart_2], [.sl (b_18.map A_api_Near) (some 1)], [.int .i64 b_125], [.sl (f_1.Loads.map A_api_Load) none], [.int .i64 2], [.sl (f_1.Loads.map A_api_Load) none], [.int .i64 3], (C_api_Load x_130)], [(0, 0), (b_18.length, 2), (0, 0)]⟩) (by kernel_rfl) (by kernel_rfl) ?_
                    refine Ex.two (fun z S => (z = AEx.norm ∧ K_145 () = some r ∧ S = ⟨[(C_api_Float f_1), [.int .i64 apart_2], [.sl (b_18.map A_api_Near) (some 1)], [.int .i64 (IntKind.i64.wrap (b_125 - x_130.Watts))], [.sl (f_1.Loads.map A_api_Load) none], [.int .i64 2], [.sl (f_1.Loads.map A_api_Load) none], [.int .i64 3], (C_api_Load x_130)], [(0, 0), (b_18.length, 2), (0, 0)]⟩)) ?_ ?_
                    · refine regH 2 [] [5, 13] [] (mkS 58 [(5, .ptr 3 0), (13, .ptr 9 0)]) (⟨[(C_api_Float f_1), [.int .i64 apart_2], [.sl (b_18.map A_api_Near) (some 1)], [.int .i64 b_125], [.sl (f_1.Loads.map A_api_Load) none], [.int .i64 2], [.sl (f_1.Loads.map A_api_Load) none], [.int .i64 3], (C_api_Load x_130), (C_api_Load x_130)], [(0, 0), (b_18.length, 2), (0, 0)]⟩) (by kernel_rfl) trivial rfl ?_
                      refine ⟨rfl, rfl, ?_⟩
                      refine Ex.blockK ?_
                      refine regH 5 [] [] [] (mkS 58 []) (⟨[(C_api_Float f_1), [.int .i64 apart_2], [.sl (b_18.map A_api_Near) (some 1)], [.int .i64 (IntKind.i64.wrap (b_125 - x_130.Watts))], [.sl (f_1.Loads.map A_api_Load) none], [.int .i64 2], [.sl (f_1.Loads.map A_api_Load) none], [.int .i64 3], (C_api_Load x_130), (C_api_Load x_130)], [(0, 0), (b_18.length, 2), (0, 0)]⟩) (by kernel_rfl) trivial rfl ?_
                      (try simp only [reduceCtorEq, AEx.ex.injEq, Nat.reduceEqDiff, if_true, if_false])
                      exact ⟨_, _, forgetA (m := 58) 9 [0, 1, 2] [] [(C_api_Float f_1), [.int .i64 apart_2], [.sl (b_18.map A_api_Near) (some 1)], [.int .i64 (IntKind.i64.wrap (b_125 - x_130.Watts))], [.sl (f_1.Loads.map A_api_Load) none], [.int .i64 2], [.sl (f_1.Loads.map A_api_Load) none], [.int .i64 3], (C_api_Load x_130)] [(0, 0), (b_18.length, 2), (0, 0)] (leC hb_139 (by simp)) (by simp) trivial (by simp [re, re1, AV.clean, List.idxOf?, List.findIdx?, List.findIdx?.go, cleanL, cleanI, cleanBo, cleanSt, cleanII, KL_bateriakit_Drum, KL_api_Span, KL_api_Load, KL_api_Float, KL_api_Near, KB_bateriakit_Drum, KB_api_Span, KB_api_Load, KB_api_Float, KB_api_Near]) rfl (by decide) (sig0 3 hmb_141 rfl), ⟨by first | rfl | trivial, h, rfl⟩⟩
                    · rintro z a2 S (⟨rfl, h, rfl⟩)
                      subst hK_146
                      refine runI 2 [] [0, 2, 6, 7, 8, 23] [] (mkS 25 [(0, .yld Lp_109.l 2), (2, .ptr 7 0), (6, .sl (f_1.Loads.map A_api_Load) none), (7, .int .i64 ((f_1.Loads.length : Nat) : Int)), (8, .int .i64 y_124), (23, .bool false)]) (⟨[(C_api_Float f_1), [.int .i64 apart_2], [.sl (b_18.map A_api_Near) (some 1)], [.int .i64 (IntKind.i64.wrap (b_125 - x_130.Watts))], [.sl (f_1.Loads.map A_api_Load) none], [.int .i64 2], [.sl (f_1.Loads.map A_api_Load) none], [.int .i64 3], (C_api_Load x_130)], [(0, 0), (b_18.length, 2), (0, 0)]⟩) (by kernel_rfl) trivial ?_
                      refine ExI.nil ?_
                      (try simp only [reduceCtorEq, AEx.ex.injEq, Nat.reduceEqDiff, if_true, if_false])
                      exact ⟨_, _, forgetA (m := 25) 8 [0, 1, 2] [(0, .yld Lp_109.l 2), (2, .ptr 7 0), (6, .sl (f_1.Loads.map A_api_Load) none), (7, .int .i64 ((f_1.Loads.length : Nat) : Int)), (8, .int .i64 y_124), (23, .bool false)] [(C_api_Float f_1), [.int .i64 apart_2], [.sl (b_18.map A_api_Near) (some 1)], [.int .i64 (IntKind.i64.wrap (b_125 - x_130.Watts))], [.sl (f_1.Loads.map A_api_Load) none], [.int .i64 2], [.sl (f_1.Loads.map A_api_Load) none], [.int .i64 3]] [(0, 0), (b_18.length, 2), (0, 0)] (leC hcn_111 (by simp)) (by simp) ⟨rfl, rfl, (reN (KL_api_Load _)), rfl, rfl, rfl, trivial⟩ (by simp [re, re1, AV.clean, List.idxOf?, List.findIdx?, List.findIdx?.go, cleanL, cleanI, cleanBo, cleanSt, cleanII, KL_bateriakit_Drum, KL_api_Span, KL_api_Load, KL_api_Float, KL_api_Near, KB_bateriakit_Drum, KB_api_Span, KB_api_Load, KB_api_Float, KB_api_Near]) rfl (by decide) (sig0 3 hcm_112 rfl), (IntKind.i64.wrap (b_125 - x_130.Watts)), h, rfl, rfl⟩
                  · refine Ex.regI ?_
                    refine runI 11 [(4, .eq (.bool false))] [0, 2, 6, 7, 8, 23] [AV.bool (x_130.Kind == 3) = AV.bool false] (mkS 25 [(0, .yld Lp_109.l 2), (2, .ptr 7 0), (6, .sl (f_1.Loads.map A_api_Load) none), (7, .int .i64 ((f_1.Loads.length : Nat) : Int)), (8, .int .i64 y_124), (23, .bool false)]) (⟨[(C_api_Float f_1), [.int .i64 apart_2], [.sl (b_18.map A_api_Near) (some 1)], [.int .i64 b_125], [.sl (f_1.Loads.map A_api_Load) none], [.int .i64 2], [.sl (f_1.Loads.map A_api_Load) none], [.int .i64 3], (C_api_Load x_130)], [(0, 0), (b_18.length, 2), (0, 0)]⟩) (by kernel_rfl) ⟨congrArg AV.bool hc_135, trivial⟩ ?_
                    refine ExI.nil ?_
                    (try simp only [reduceCtorEq, AEx.ex.injEq, Nat.reduceEqDiff, if_true, if_false])
                    exact ⟨_, _, forgetA (m := 25) 8 [0, 1, 2] [(0, .yld Lp_109.l 2), (2, .ptr 7 0), (6, .sl (f_1.Loads.map A_api_Load) none), (7, .int .i64 ((f_1.Loads.length : Nat) : Int)), (8, .int .i64 y_124), (23, .bool false)] [(C_api_Float f_1), [.int .i64 apart_2], [.sl (b_18.map A_api_Near) (some 1)], [.int .i64 b_125], [.sl (f_1.Loads.map A_api_Load) none], [.int .i64 2], [.sl (f_1.Loads.map A_api_Load) none], [.int .i64 3]] [(0, 0), (b_18.length, 2), (0, 0)] (leC hcn_111 (by simp)) (by simp) ⟨rfl, rfl, (reN (KL_api_Load _)), rfl, rfl, rfl, trivial⟩ (by simp [re, re1, AV.clean, List.idxOf?, List.findIdx?, List.findIdx?.go, cleanL, cleanI, cleanBo, cleanSt, cleanII, KL_bateriakit_Drum, KL_api_Span, KL_api_Load, KL_api_Float, KL_api_Near, KB_bateriakit_Drum, KB_api_Span, KB_api_Load, KB_api_Float, KB_api_Near]) rfl (by decide) (sig0 3 hcm_112 rfl), b_125, h, rfl, rfl⟩
                · rintro a S ⟨b_131, h, rfl, rfl⟩
                  subst hK_134
                  refine Ex.cond (b := false) rfl ?_
                  refine Ex.skip ?_
                  refine regH 2 [] [0, 2, 6, 7, 8] [] (mkS 25 [(0, .yld Lp_109.l 2), (2, .ptr 7 0), (6, .sl (f_1.Loads.map A_api_Load) none), (7, .int .i64 ((f_1.Loads.length : Nat) : Int)), (8, .int .i64 (IntKind.i64.wrap (y_124 + 1)))]) (⟨[(C_api_Float f_1), [.int .i64 apart_2], [.sl (b_18.map A_api_Near) (some 1)], [.int .i64 b_131], [.sl (f_1.Loads.map A_api_Load) none], [.int .i64 2], [.sl (f_1.Loads.map A_api_Load) none], [.int .i64 3]], [(0, 0), (b_18.length, 2), (0, 0)]⟩) (by kernel_rfl) trivial rfl ?_
                  dsimp only
                  exact ⟨_, _, Forgets.refl _ _ _, k, Nat.lt_succ_self k, (IntKind.i64.wrap (y_124 + 1)), b_131, h, rfl, rfl⟩
              · refine Ex.condF _ rfl hc_129 ?_
                refine Ex.exit ?_
                (try simp only [reduceCtorEq, AEx.ex.injEq, Nat.reduceEqDiff, if_true, if_false])
                exact ⟨_, _, forgetK [], b_125, h, rfl, rfl⟩
          · rintro a S ⟨b_120, h, rfl, rfl⟩
            subst hK_123
            exact ⟨_, _, Forgets.refl _ _ _, .inl rfl, 0, rfl, ⟨by first | rfl | trivial, b_120, h, rfl⟩⟩
        · rintro k S (⟨rfl, b_116, h, rfl⟩)
          subst hK_119
          refine Ex.seq ?_
          refine Ex.drawE (a1 := mkS 58 [(4, .ptr 2 0), (5, .ptr 3 0), (6, .int .i64 0), (49, .fn 108 [] [.ptr 6 0, .ptr 7 0]), (56, .sl (b_18.map A_api_Near) (some 1)), (57, .int .i64 b_116)]) (noClr_ok _) [] [] [⟨[(C_api_Float f_1), [.int .i64 apart_2], [.sl (b_18.map A_api_Near) (some 1)], [.int .i64 b_116], [.sl (f_1.Loads.map A_api_Load) none], [.int .i64 2], [.sl (f_1.Loads.map A_api_Load) none], [.int .i64 3]], [(0, 0), (b_18.length, 2), (0, 0)]⟩] ?_ ?_
          · refine drS [0, 1, 2, 3, 4, 5, 6, 7] 2 [] [] (mkS 58 [(4, .ptr 2 0), (5, .ptr 3 0), (6, .int .i64 0), (49, .fn 108 [] [.ptr 6 0, .ptr 7 0]), (56, .sl (b_18.map A_api_Near) (some 1)), (57, .int .i64 b_116)]) (by simp) (by kernel_rfl) trivial (by kernel_rfl) ?_
            refine drE none none (.tup []) _ _ rfl rfl rfl rfl rfl (by kernel_rfl) trivial ?_
            exact DrO.nil rfl
          · dsimp only [List.getLastD_cons, List.getLastD_nil]
            refine runH 2 [] [4, 5, 6] [] (mkS 58 [(4, .ptr 2 0), (5, .ptr 3 0), (6, .int .i64 0)]) (⟨[(C_api_Float f_1), [.int .i64 apart_2], [.sl (b_18.map A_api_Near) (some 1)], [.int .i64 b_116], [.sl (f_1.Loads.map A_api_Load) none], [.int .i64 2], [.sl (f_1.Loads.map A_api_Load) none], [.int .i64 3]], [(0, 0), (b_18.length, 2), (0, 0)]⟩) (by kernel_rfl) trivial ?_
            refine ExO.nil ?_
            refine Ex.ret ?_
            obtain rfl := Option.some.inj h
            exact ⟨.inr rfl, .tup [.sl (b_18.map A_api_Near) (some 1), .int .i64 b_116, .int .i64 0], by kernel_rfl, by kernel_rfl, by kernel_rfl, by kernel_rfl⟩
end Go.Proofs.Ytfcjcjncfniclaa
end
section
namespace Go.Proofs.Ytfcjcjncfniclaa
open Go.RowKit
set_option linter.unusedVariables false
set_option linter.unusedSimpArgs false
set_option maxRecDepth 10000
set_option maxHeartbeats 4000000

section
variable {A B ρ : Type}
theorem st1 (n : Nat) (body : (Int → Option ρ) → Int → Option ρ) (r : Option ρ) (hend : ∀ rec, body rec (n : Int) = r) (hstep : ∀ rec (i : Nat), i < n → body rec (i : Int) = rec ((i + 1 : Nat) : Int)) : ∀ (N i : Nat), i ≤ n → n - i < N → loop1 body N (i : Int) = r
  | 0, i, _, h => absurd h (Nat.not_lt_zero _)
  | N + 1, i, hle, hN => by
    show body (loop1 body N) (i : Int) = _
    by_cases hlt : i < n
    · rw [hstep _ i hlt]; exact st1 n body r hend hstep N (i + 1) (by omega) (by omega)
    · have : i = n := by omega
      subst this
      exact hend _
theorem st2 (n : Nat) (st : Nat → A) (body : (Int → A → Option ρ) → Int → A → Option ρ) (r : Option ρ) (hend : ∀ rec, body rec (n : Int) (st n) = r) (hstep : ∀ rec (i : Nat), i < n → body rec (i : Int) (st i) = rec ((i + 1 : Nat) : Int) (st (i + 1))) : ∀ (N i : Nat), i ≤ n → n - i < N → loop2 body N (i : Int) (st i) = r
  | 0, i, _, h => absurd h (Nat.not_lt_zero _)
  | N + 1, i, hle, hN => by
    show body (loop2 body N) (i : Int) (st i) = _
    by_cases hlt : i < n
    · rw [hstep _ i hlt]; exact st2 n st body r hend hstep N (i + 1) (by omega) (by omega)
    · have : i = n := by omega
      subst this
      exact hend _
theorem st2' (n : Nat) (st : Nat → A) (body : (A → Int → Option ρ) → A → Int → Option ρ) (r : Option ρ) (hend : ∀ rec, body rec (st n) (n : Int) = r) (hstep : ∀ rec (i : Nat), i < n → body rec (st i) (i : Int) = rec (st (i + 1)) ((i + 1 : Nat) : Int)) : ∀ (N i : Nat), i ≤ n → n - i < N → loop2 body N (st i) (i : Int) = r
  | 0, i, _, h => absurd h (Nat.not_lt_zero _)
  | N + 1, i, hle, hN => by
    show body (loop2 body N) (st i) (i : Int) = _
    by_cases hlt : i < n
    · rw [hstep _ i hlt]; exact st2' n st body r hend hstep N (i + 1) (by omega) (by omega)
    · have : i = n := by omega
      subst this
      exact hend _
theorem st3 (n : Nat) (sa : Nat → A) (sb : Nat → B) (body : (Int → A → B → Option ρ) → Int → A → B → Option ρ) (r : Option ρ) (hend : ∀ rec, body rec (n : Int) (sa n) (sb n) = r) (hstep : ∀ rec (i : Nat), i < n → body rec (i : Int) (sa i) (sb i) = rec ((i + 1 : Nat) : Int) (sa (i + 1)) (sb (i + 1))) : ∀ (N i : Nat), i ≤ n → n - i < N → loop3 body N (i : Int) (sa i) (sb i) = r
  | 0, i, _, h => absurd h (Nat.not_lt_zero _)
  | N + 1, i, hle, hN => by
    show body (loop3 body N) (i : Int) (sa i) (sb i) = _
    by_cases hlt : i < n
    · rw [hstep _ i hlt]; exact st3 n sa sb body r hend hstep N (i + 1) (by omega) (by omega)
    · have : i = n := by omega
      subst this
      exact hend _
theorem st3' (n : Nat) (sa : Nat → A) (sb : Nat → B) (body : (A → B → Int → Option ρ) → A → B → Int → Option ρ) (r : Option ρ) (hend : ∀ rec, body rec (sa n) (sb n) (n : Int) = r) (hstep : ∀ rec (i : Nat), i < n → body rec (sa i) (sb i) (i : Int) = rec (sa (i + 1)) (sb (i + 1)) ((i + 1 : Nat) : Int)) : ∀ (N i : Nat), i ≤ n → n - i < N → loop3 body N (sa i) (sb i) (i : Int) = r
  | 0, i, _, h => absurd h (Nat.not_lt_zero _)
  | N + 1, i, hle, hN => by
    show body (loop3 body N) (sa i) (sb i) (i : Int) = _
    by_cases hlt : i < n
    · rw [hstep _ i hlt]; exact st3' n sa sb body r hend hstep N (i + 1) (by omega) (by omega)
    · have : i = n := by omega
      subst this
      exact hend _
theorem st2z (n : Nat) (st : Nat → A) {body : (Int → A → Option ρ) → Int → A → Option ρ} {r : Option ρ} {a : A} {N : Nat} (ha : a = st 0) (hN : n < N) (hend : ∀ rec, body rec (n : Int) (st n) = r) (hstep : ∀ rec (i : Nat), i < n → body rec (i : Int) (st i) = rec ((i + 1 : Nat) : Int) (st (i + 1))) : loop2 body N 0 a = r := by
  subst ha; exact st2 n st body r hend hstep N 0 (Nat.zero_le _) (by omega)
theorem st2z' (n : Nat) (st : Nat → A) {body : (A → Int → Option ρ) → A → Int → Option ρ} {r : Option ρ} {a : A} {N : Nat} (ha : a = st 0) (hN : n < N) (hend : ∀ rec, body rec (st n) (n : Int) = r) (hstep : ∀ rec (i : Nat), i < n → body rec (st i) (i : Int) = rec (st (i + 1)) ((i + 1 : Nat) : Int)) : loop2 body N a 0 = r := by
  subst ha; exact st2' n st body r hend hstep N 0 (Nat.zero_le _) (by omega)
theorem st3z (n : Nat) (sa : Nat → A) (sb : Nat → B) {body : (Int → A → B → Option ρ) → Int → A → B → Option ρ} {r : Option ρ} {a : A} {b : B} {N : Nat} (ha : a = sa 0) (hb : b = sb 0) (hN : n < N) (hend : ∀ rec, body rec (n : Int) (sa n) (sb n) = r) (hstep : ∀ rec (i : Nat), i < n → body rec (i : Int) (sa i) (sb i) = rec ((i + 1 : Nat) : Int) (sa (i + 1)) (sb (i + 1))) : loop3 body N 0 a b = r := by
  subst ha hb; exact st3 n sa sb body r hend hstep N 0 (Nat.zero_le _) (by omega)
theorem st3z' (n : Nat) (sa : Nat → A) (sb : Nat → B) {body : (A → B → Int → Option ρ) → A → B → Int → Option ρ} {r : Option ρ} {a : A} {b : B} {N : Nat} (ha : a = sa 0) (hb : b = sb 0) (hN : n < N) (hend : ∀ rec, body rec (sa n) (sb n) (n : Int) = r) (hstep : ∀ rec (i : Nat), i < n → body rec (sa i) (sb i) (i : Int) = rec (sa (i + 1)) (sb (i + 1)) ((i + 1 : Nat) : Int)) : loop3 body N a b 0 = r := by
  subst ha hb; exact st3' n sa sb body r hend hstep N 0 (Nat.zero_le _) (by omega)
end
theorem nadd1 (i : Nat) (h : i < 4611686018427387904) : IntKind.i64.wrap ((i : Int) + 1) = ((i + 1 : Nat) : Int) := by
  rw [w64 (x := (i : Int) + 1) (by omega) (by omega)]
  omega
theorem ltD {i n : Nat} (h : i < n) : decide ((i : Int) < ((n : Nat) : Int)) = true := decide_eq_true (by omega)
theorem ltE (n : Nat) : decide (((n : Nat) : Int) < ((n : Nat) : Int)) = false := decide_eq_false (by omega)
theorem getD_ok {α : Type} [Inhabited α] {l : List α} {i : Nat} (h : i < l.length) : getI l (i : Int) = some (l[i]?.getD default) := by
  rw [getI_nat, List.getElem?_eq_getElem h]
  rfl
theorem wrapA (x y : Int) : IntKind.i64.wrap (IntKind.i64.wrap x + y) = IntKind.i64.wrap (x + y) := by
  simp [IntKind.wrap, IntKind.bits, IntKind.signed]
  omega
theorem wrapS (x y : Int) : IntKind.i64.wrap (IntKind.i64.wrap x - y) = IntKind.i64.wrap (x - y) := by
  simp [IntKind.wrap, IntKind.bits, IntKind.signed]
  omega
theorem wrapN (x y : Int) : IntKind.i64.wrap (0 - IntKind.i64.wrap (x - y)) = IntKind.i64.wrap (y - x) := by
  simp [IntKind.wrap, IntKind.bits, IntKind.signed]
  omega

theorem within_s (N : Nat) (n lo hi : Int) : p_float_within N n lo hi = some (decide (lo ≤ n) && decide (n ≤ hi)) := by
  unfold p_float_within
  show (bif decide (lo ≤ n) then some (decide (n ≤ hi)) else some false) = _
  cases decide (lo ≤ n) <;> rfl
theorem within_r (N : Nat) (n lo hi : Int) : p_bateriaref02_within N n lo hi = some (decide (lo ≤ n) && decide (n ≤ hi)) := within_s N n lo hi
theorem checkSpan_d (N : Nat) (x : T_api_Span) (m : Int) : ∃ c, p_bateriaref02_checkSpan N x m = some c := by
  unfold p_bateriaref02_checkSpan
  simp only [letJ_eq, within_r, Option.bind_some]
  cases (decide (0 ≤ x.Lo) && decide (x.Lo ≤ m)) <;> cases (decide (0 ≤ x.Hi) && decide (x.Hi ≤ m)) <;> cases decide (x.Lo > x.Hi) <;> exact ⟨_, rfl⟩
theorem checkLoad_d (N : Nat) (f : T_api_Float) (l : T_api_Load) : ∃ c, p_bateriaref02_checkLoad N f l = some c := by
  unfold p_bateriaref02_checkLoad
  obtain ⟨c1, e1⟩ := checkSpan_d N l.Kilos 100000
  obtain ⟨c2, e2⟩ := checkSpan_d N l.Top 2000
  simp only [letJ_eq, within_r, Option.bind_some, e1, e2]
  cases (decide (f.Front ≤ l.At) && decide (l.At ≤ f.Rear))
  · exact ⟨_, rfl⟩
  cases (c1 != 0)
  · cases (c2 != 0)
    · cases (decide (1 ≤ l.Kind) && decide (l.Kind ≤ 4))
      · exact ⟨_, rfl⟩
      cases (decide (0 ≤ l.Watts) && decide (l.Watts ≤ 1000000))
      · exact ⟨_, rfl⟩
      cases (decide (l.Watts > 0)) <;> cases (l.Kind != 2) <;> cases (l.Kind != 3) <;> exact ⟨_, rfl⟩
    · exact ⟨_, rfl⟩
  · exact ⟨_, rfl⟩
theorem loop1_d {body : (Int → Option Int) → Int → Option Int} (n : Nat) (h : ∀ rec (i : Nat), i < n → (∃ c, body rec (i : Int) = some c) ∨ body rec (i : Int) = rec ((i + 1 : Nat) : Int)) (h2 : ∀ rec, ∃ c, body rec (n : Int) = some c) : ∀ (N i : Nat), i ≤ n → n - i < N → ∃ c, loop1 body N (i : Int) = some c
  | 0, i, _, h => absurd h (Nat.not_lt_zero _)
  | N + 1, i, hle, hN => by
    show ∃ c, body (loop1 body N) (i : Int) = _
    by_cases hlt : i < n
    · rcases h (loop1 body N) i hlt with h1 | h1
      · exact h1
      · rw [h1]; exact loop1_d n h h2 N (i + 1) (by omega) (by omega)
    · have : i = n := by omega
      subst this
      exact h2 _
theorem check_d (N : Nat) (f : T_api_Float) (hN : 30 < N) : ∃ c, p_float_Check N f = some c ∧ p_bateriaref02_Check N f = some c := by
  unfold p_float_Check p_float_checkFrame p_bateriaref02_Check
  simp only [letJ_eq, within_s, within_r, Option.bind_some]
  cases (decide (1 ≤ f.Length) && decide (f.Length ≤ 3000))
  · exact ⟨_, rfl, rfl⟩
  cases (decide (1 ≤ f.Width) && decide (f.Width ≤ 1000))
  · exact ⟨_, rfl, rfl⟩
  cases (decide (0 ≤ f.Front) && decide (f.Front ≤ f.Length))
  · exact ⟨_, rfl, rfl⟩
  cases (decide (0 ≤ f.Rear) && decide (f.Rear ≤ f.Length))
  · exact ⟨_, rfl, rfl⟩
  cases decide (f.Front ≥ f.Rear)
  rotate_left
  · exact ⟨_, rfl, rfl⟩
  cases (decide (0 ≤ f.Turn) && decide (f.Turn ≤ 20000))
  · exact ⟨_, rfl, rfl⟩
  cases (decide (0 ≤ f.Kilos) && decide (f.Kilos ≤ 100000))
  · exact ⟨_, rfl, rfl⟩
  cases (decide (0 ≤ f.Middle) && decide (f.Middle ≤ f.Length))
  · exact ⟨_, rfl, rfl⟩
  cases (decide (0 ≤ f.High) && decide (f.High ≤ 2000))
  · exact ⟨_, rfl, rfl⟩
  by_cases hn : ((f.Loads.length : Nat) : Int) > 20
  · rw [show decide (((f.Loads.length : Nat) : Int) > 20) = true from decide_eq_true hn]
    exact ⟨_, rfl, rfl⟩
  · rw [show decide (((f.Loads.length : Nat) : Int) > 20) = false from decide_eq_false hn]
    have key : ∃ c, loop1 (fun rec_32 (i_31 : Int) => (bif (decide (i_31 < ((f.Loads.length : Nat) : Int))) then ((getI f.Loads i_31).bind fun x_36 => ((p_bateriaref02_checkLoad N f x_36).bind fun r_37 => (bif (r_37 != 0) then some r_37 else (rec_32 (IntKind.i64.wrap (i_31 + 1)))))) else (some 0))) N ((0 : Nat) : Int) = some c := by
      refine loop1_d f.Loads.length ?_ ?_ N 0 (by omega) (by omega)
      · intro rec i hi
        obtain ⟨c, e⟩ := checkLoad_d N f (f.Loads[i]?.getD default)
        simp only [ltD hi, cond_true, getD_ok hi, Option.bind_some, e, nadd1 i (by omega)]
        cases (c != 0)
        · exact .inr rfl
        · exact .inl ⟨_, rfl⟩
      · intro rec
        exact ⟨0, by simp only [ltE, cond_false]⟩
    obtain ⟨c, e⟩ := key
    exact ⟨c, e, e⟩

def dist (a b : T_api_Load) : Int := if IntKind.i64.wrap (b.At - a.At) > IntKind.i64.wrap (a.At - b.At) then IntKind.i64.wrap (b.At - a.At) else IntKind.i64.wrap (a.At - b.At)
theorem distance_s (N : Nat) (a b : T_api_Load) : p_float_distance N a b = some (dist a b) := rfl
def ldI (L : List T_api_Load) (i : Nat) : T_api_Load := L[i]?.getD default
def inn (ap : Int) (L : List T_api_Load) (i : Nat) (b : List T_api_Near) : Nat → List T_api_Near
  | 0 => b
  | k + 1 => if (ldI L k).Kind = 4 ∧ dist (ldI L i) (ldI L k) < ap then inn ap L i b k ++ [⟨(i : Int), (k : Int)⟩] else inn ap L i b k
def nr (ap : Int) (L : List T_api_Load) : Nat → List T_api_Near
  | 0 => []
  | i + 1 => if (ldI L i).Kind = 2 then inn ap L i (nr ap L i) L.length else nr ap L i
def pw (L : List T_api_Load) : Nat → Int
  | 0 => 0
  | i + 1 => if (ldI L i).Kind = 2 then pw L i + (ldI L i).Watts else pw L i
def lw (L : List T_api_Load) : Nat → Int
  | 0 => 0
  | i + 1 => if (ldI L i).Kind = 3 then lw L i + (ldI L i).Watts else lw L i
theorem inn_len (ap : Int) (L : List T_api_Load) (i : Nat) (b : List T_api_Near) : ∀ k, (inn ap L i b k).length ≤ b.length + k
  | 0 => Nat.le_refl _
  | k + 1 => by
    have := inn_len ap L i b k
    unfold inn
    split
    · simp; omega
    · omega
theorem nr_len (ap : Int) (L : List T_api_Load) : ∀ k, (nr ap L k).length ≤ k * L.length
  | 0 => Nat.zero_le _
  | k + 1 => by
    have := nr_len ap L k
    have := inn_len ap L k (nr ap L k) L.length
    have : (k + 1) * L.length = k * L.length + L.length := by rw [Nat.succ_mul]
    unfold nr
    split <;> omega
def fireR (c : Int) (f : T_api_Float) (ap : Int) : List T_api_Near × Int × Int :=
  bif (c != 0) then ([], 0, c) else (bif (!(decide (0 ≤ ap) && decide (ap ≤ 3000))) then ([], 0, 2) else (nr ap f.Loads f.Loads.length, IntKind.i64.wrap (pw f.Loads f.Loads.length - lw f.Loads f.Loads.length), 0))
theorem wrap0 : IntKind.i64.wrap 0 = 0 := w64 (by omega) (by omega)

theorem fire_s (N : Nat) (f : T_api_Float) (ap c : Int) (hc : p_float_Check N f = some c) (hn : f.Loads.length ≤ 30) (hN : 60 < N) : p_float_Fire N f ap = some (fireR c f ap) := by
  unfold p_float_Fire fireR
  simp only [hc, Option.bind_some, within_s, letJ_eq, distance_s]
  cases (c != 0)
  rotate_left
  · rfl
  cases (decide (0 ≤ ap) && decide (ap ≤ 3000))
  · rfl
  simp only [cond_false, Bool.not_true]
  refine st3z f.Loads.length (nr ap f.Loads) (fun i => IntKind.i64.wrap (pw f.Loads i)) rfl wrap0.symm (by omega) ?_ ?_
  · intro rec
    simp only [ltE, cond_false]
    refine st2z f.Loads.length (fun i => IntKind.i64.wrap (pw f.Loads f.Loads.length - lw f.Loads i)) (by show _ = IntKind.i64.wrap (pw f.Loads f.Loads.length - 0); rw [Int.sub_zero]) (by omega) ?_ ?_
    · intro rec
      simp only [ltE, cond_false]
    · intro rec i hi
      simp only [ltD hi, cond_true, getD_ok hi, Option.bind_some, nadd1 i (by omega), lw]
      by_cases h3 : (ldI f.Loads i).Kind = 3
      · rw [show ((f.Loads[i]?.getD default).Kind == 3) = true from beq_iff_eq.2 h3, cond_true, if_pos h3, wrapS]
        congr 2
        show _ - (ldI f.Loads i).Watts = _
        omega
      · rw [show ((f.Loads[i]?.getD default).Kind == 3) = false from beq_eq_false_iff_ne.2 h3, cond_false, if_neg h3]
  · intro rec i hi
    simp only [ltD hi, cond_true, getD_ok hi, Option.bind_some, nadd1 i (by omega), pw]
    by_cases h2 : (ldI f.Loads i).Kind = 2
    · rw [show ((f.Loads[i]?.getD default).Kind == 2) = true from beq_iff_eq.2 h2, cond_true, if_pos h2]
      have hl := nr_len ap f.Loads i
      have hl2 : i * f.Loads.length ≤ 30 * 30 := Nat.mul_le_mul (by omega) hn
      refine st2z f.Loads.length (inn ap f.Loads i (nr ap f.Loads i)) rfl (by omega) ?_ ?_
      · intro rec2
        simp only [ltE, cond_false, nr, if_pos h2, wrapA]
        rfl
      · intro rec2 k hk
        have := inn_len ap f.Loads i (nr ap f.Loads i) k
        simp only [ltD hk, cond_true, getD_ok hk, Option.bind_some, nadd1 k (by omega)]
        rw [pushI_ok (by simp; omega), Option.bind_some]
        by_cases h4 : (ldI f.Loads k).Kind = 4
        · rw [show ((f.Loads[k]?.getD default).Kind == 4) = true from beq_iff_eq.2 h4, cond_true]
          by_cases h5 : dist (ldI f.Loads i) (ldI f.Loads k) < ap
          · rw [show decide (dist (f.Loads[i]?.getD default) (f.Loads[k]?.getD default) < ap) = true from decide_eq_true h5, cond_true]
            conv => rhs; unfold inn
            rw [if_pos ⟨h4, h5⟩]
          · rw [show decide (dist (f.Loads[i]?.getD default) (f.Loads[k]?.getD default) < ap) = false from decide_eq_false h5, cond_false]
            conv => rhs; unfold inn
            rw [if_neg (fun h => h5 h.2)]
        · rw [show ((f.Loads[k]?.getD default).Kind == 4) = false from beq_eq_false_iff_ne.2 h4, cond_false]
          conv => rhs; unfold inn
          rw [if_neg (fun h => h4 h.1)]
    · rw [show ((f.Loads[i]?.getD default).Kind == 2) = false from beq_eq_false_iff_ne.2 h2, cond_false, if_neg h2]
      simp only [nr, if_neg h2]

theorem fire_r (N : Nat) (f : T_api_Float) (ap c : Int) (hc : p_bateriaref02_Check N f = some c) (hn : f.Loads.length ≤ 30) (hN : 60 < N) : p_bateriaref02_Fire N f ap = some (fireR c f ap) := by
  unfold p_bateriaref02_Fire fireR
  simp only [hc, Option.bind_some, within_r, letJ_eq, wrapN]
  cases (c != 0)
  rotate_left
  · rfl
  cases (decide (0 ≤ ap) && decide (ap ≤ 3000))
  · rfl
  simp only [cond_false, Bool.not_true]
  refine st3z' f.Loads.length (nr ap f.Loads) (fun i => IntKind.i64.wrap (pw f.Loads i - lw f.Loads i)) rfl (by show _ = IntKind.i64.wrap (0 - 0); rw [Int.sub_zero, wrap0]) (by omega) ?_ ?_
  · intro rec
    simp only [ltE, cond_false]
  · intro rec i hi
    simp only [ltD hi, cond_true, getD_ok hi, Option.bind_some, nadd1 i (by omega), pw, lw]
    by_cases h3 : (ldI f.Loads i).Kind = 3
    · have h2 : ¬ (ldI f.Loads i).Kind = 2 := by omega
      rw [show ((f.Loads[i]?.getD default).Kind == 3) = true from beq_iff_eq.2 h3, cond_true, if_pos h3, if_neg h2, wrapS]
      simp only [nr, if_neg h2]
      congr 2
      show _ - (ldI f.Loads i).Watts = _
      omega
    · rw [show ((f.Loads[i]?.getD default).Kind == 3) = false from beq_eq_false_iff_ne.2 h3, cond_false, if_neg h3]
      by_cases h2 : (ldI f.Loads i).Kind = 2
      · rw [show ((f.Loads[i]?.getD default).Kind == 2) = true from beq_iff_eq.2 h2, cond_true, if_pos h2]
        have hl := nr_len ap f.Loads i
        have hl2 : i * f.Loads.length ≤ 30 * 30 := Nat.mul_le_mul (by omega) hn
        refine st2z' f.Loads.length (inn ap f.Loads i (nr ap f.Loads i)) rfl (by omega) ?_ ?_
        · intro rec2
          simp only [ltE, cond_false, nr, if_pos h2, wrapA]
          congr 2
          show _ + (ldI f.Loads i).Watts = _
          omega
        · intro rec2 k hk
          have := inn_len ap f.Loads i (nr ap f.Loads i) k
          simp only [ltD hk, cond_true, getD_ok hk, Option.bind_some, nadd1 k (by omega)]
          rw [pushI_ok (by simp; omega), Option.bind_some]
          by_cases h4 : (ldI f.Loads k).Kind = 4
          · rw [show ((f.Loads[k]?.getD default).Kind == 4) = true from beq_iff_eq.2 h4, cond_true]
            show (bif decide (dist (f.Loads[i]?.getD default) (f.Loads[k]?.getD default) < ap) then _ else _) = _
            by_cases h5 : dist (ldI f.Loads i) (ldI f.Loads k) < ap
            · rw [show decide (dist (f.Loads[i]?.getD default) (f.Loads[k]?.getD default) < ap) = true from decide_eq_true h5, cond_true]
              conv => rhs; unfold inn
              rw [if_pos ⟨h4, h5⟩]
            · rw [show decide (dist (f.Loads[i]?.getD default) (f.Loads[k]?.getD default) < ap) = false from decide_eq_false h5, cond_false]
              conv => rhs; unfold inn
              rw [if_neg (fun h => h5 h.2)]
          · rw [show ((f.Loads[k]?.getD default).Kind == 4) = false from beq_eq_false_iff_ne.2 h4, cond_false]
            conv => rhs; unfold inn
            rw [if_neg (fun h => h4 h.1)]
      · rw [show ((f.Loads[i]?.getD default).Kind == 2) = false from beq_eq_false_iff_ne.2 h2, cond_false, if_neg h2]
        simp only [nr, if_neg h2]

theorem eqNears_t (N : Nat) (l : List T_api_Near) (h : l.length < N) (h2 : l.length < 4611686018427387904) : p_bateriakit_EqNears N l l = some true := by
  unfold p_bateriakit_EqNears
  simp only [letJ_eq, beq_self_eq_true]
  refine st2z' l.length (fun _ => true) rfl (by omega) ?_ ?_
  · intro rec
    simp only [ltE, cond_false, cond_true]
  · intro rec i hi
    simp only [ltD hi, cond_true, getD_ok hi, Option.bind_some, beq_self_eq_true, Bool.and_self, nadd1 i (by omega)]
theorem eqFloats_t (N : Nat) (f : T_api_Float) (h : f.Loads.length < N) (h2 : f.Loads.length < 4611686018427387904) : p_bateriakit_EqFloats N f f = some true := by
  unfold p_bateriakit_EqFloats
  simp only [letJ_eq, beq_self_eq_true, cond_true]
  refine st2z' f.Loads.length (fun _ => true) rfl (by omega) ?_ ?_
  · intro rec
    simp only [ltE, cond_false, cond_true]
  · intro rec i hi
    simp only [ltD hi, cond_true, getD_ok hi, Option.bind_some, beq_self_eq_true, Bool.and_self, nadd1 i (by omega)]
theorem ownFloat_t (N : Nat) (f : T_api_Float) (h : f.Loads.length ≤ 65536) : p_bateriakit_OwnFloat N f = some f := by
  unfold p_bateriakit_OwnFloat
  rw [pushI_ok (by simpa using h), Option.bind_some]
  rfl
end Go.Proofs.Ytfcjcjncfniclaa
end
section
namespace Go.Proofs.Ytfcjcjncfniclaa
open Go.RowKit
set_option linter.unusedVariables false
set_option maxRecDepth 100000

def inl (f : FuncId) : Bool := Nat.beq f 104
noncomputable def X4 : Clr := clrN tab inl noClr 300 14
theorem X4_ok : ClrOk Try.prog X4 := clrN_ok (noClr_ok _) tab_ok 300 14
def ld (a b c d e f g : Int) : AV := .agg [.int .i64 a, .int .i64 b, .int .i64 c, .int .i64 d, .int .i64 e, .int .i64 f, .int .i64 g]
def swanC (m : Int) : List AV := [.int .i64 1000, .int .i64 300, .int .i64 200, .int .i64 800, .int .i64 900, .int .i64 4000, .int .i64 m, .int .i64 400, .sl [ld 300 500 600 450 500 1 0, ld 700 1000 1000 380 380 2 5000, ld 500 100 200 300 350 3 3000, ld 600 50 50 400 520 4 0] none]
def mid9 : List AV := swanC 900
end Go.Proofs.Ytfcjcjncfniclaa
end
section
namespace Go.Proofs.Ytfcjcjncfniclaa
open Go.RowKit
set_option linter.unusedVariables false
set_option maxRecDepth 100000
theorem b1_50000 : evFn X4 300 F85 [.int .i64 50000, .ptr 0 0, .ptr 1 0] [mid9, [.int .i64 200]] = some (.bool true, [mid9, [.int .i64 200]]) := by kernel_rfl
theorem b1_25000 : evFn X4 300 F85 [.int .i64 25000, .ptr 0 0, .ptr 1 0] [mid9, [.int .i64 200]] = some (.bool true, [mid9, [.int .i64 200]]) := by kernel_rfl
theorem b1_12500 : evFn X4 300 F85 [.int .i64 12500, .ptr 0 0, .ptr 1 0] [mid9, [.int .i64 200]] = some (.bool true, [mid9, [.int .i64 200]]) := by kernel_rfl
theorem b1_6250 : evFn X4 300 F85 [.int .i64 6250, .ptr 0 0, .ptr 1 0] [mid9, [.int .i64 200]] = some (.bool true, [mid9, [.int .i64 200]]) := by kernel_rfl
theorem b1_3125 : evFn X4 300 F85 [.int .i64 3125, .ptr 0 0, .ptr 1 0] [mid9, [.int .i64 200]] = some (.bool true, [mid9, [.int .i64 200]]) := by kernel_rfl
theorem b1_1562 : evFn X4 300 F85 [.int .i64 1562, .ptr 0 0, .ptr 1 0] [mid9, [.int .i64 200]] = some (.bool true, [mid9, [.int .i64 200]]) := by kernel_rfl
theorem b1_781 : evFn X4 300 F85 [.int .i64 781, .ptr 0 0, .ptr 1 0] [mid9, [.int .i64 200]] = some (.bool true, [mid9, [.int .i64 200]]) := by kernel_rfl
theorem b1_390 : evFn X4 300 F85 [.int .i64 390, .ptr 0 0, .ptr 1 0] [mid9, [.int .i64 200]] = some (.bool true, [mid9, [.int .i64 200]]) := by kernel_rfl
theorem b1_195 : evFn X4 300 F85 [.int .i64 195, .ptr 0 0, .ptr 1 0] [mid9, [.int .i64 200]] = some (.bool true, [mid9, [.int .i64 200]]) := by kernel_rfl
end Go.Proofs.Ytfcjcjncfniclaa
end
