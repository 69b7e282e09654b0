/- Part 4 of what the law needs: own work, put together. -/
import Derived.Test.YtjpoganponbdlaaFloatBal2
section
namespace Go.Proofs.Ytjpoganponbdlaa
open Go.RowKit
set_option linter.unusedVariables false
set_option linter.unusedSimpArgs false
set_option maxRecDepth 10000
set_option maxHeartbeats 4000000
structure T_api_Load where
  At : Int
  Kilos : T_api_Span
  Top : T_api_Span
  Kind : Int
  Watts : Int
  deriving Inhabited
def C_api_Load (x : T_api_Load) : List AV := [.int .i64 x.At, .int .i64 x.Kilos.Lo, .int .i64 x.Kilos.Hi, .int .i64 x.Top.Lo, .int .i64 x.Top.Hi, .int .i64 x.Kind, .int .i64 x.Watts]
def A_api_Load (x : T_api_Load) : AV := .agg (C_api_Load x)
theorem KC_api_Load (x : T_api_Load) : cleanL (C_api_Load x) = true := by simp [C_api_Load, cleanL, AV.clean, KL_bateriakit_Drum, KL_api_Span, cleanI, cleanBo, cleanSt, cleanII]
theorem KA_api_Load (x : T_api_Load) : (A_api_Load x).clean = true := KC_api_Load x
theorem KL_api_Load (l : List T_api_Load) : cleanL (l.map A_api_Load) = true := cleanM KA_api_Load l
theorem KB_api_Load (x : T_api_Load) (n : Nat) (σ : List Nat) : (C_api_Load x).mapM (re n σ) = some (C_api_Load x) := by simp [C_api_Load, re, re1, AV.clean, KL_bateriakit_Drum, KL_api_Span, cleanI, cleanBo, cleanSt, cleanII]
structure T_api_Float where
  Length : Int
  Width : Int
  Front : Int
  Rear : Int
  Turn : Int
  Kilos : Int
  Middle : Int
  High : Int
  Loads : (List T_api_Load)
  deriving Inhabited
def C_api_Float (x : T_api_Float) : List AV := [.int .i64 x.Length, .int .i64 x.Width, .int .i64 x.Front, .int .i64 x.Rear, .int .i64 x.Turn, .int .i64 x.Kilos, .int .i64 x.Middle, .int .i64 x.High, .sl (x.Loads.map A_api_Load) none]
def A_api_Float (x : T_api_Float) : AV := .agg (C_api_Float x)
theorem KC_api_Float (x : T_api_Float) : cleanL (C_api_Float x) = true := by simp [C_api_Float, cleanL, AV.clean, KL_bateriakit_Drum, KL_api_Span, KL_api_Load, cleanI, cleanBo, cleanSt, cleanII]
theorem KA_api_Float (x : T_api_Float) : (A_api_Float x).clean = true := KC_api_Float x
theorem KL_api_Float (l : List T_api_Float) : cleanL (l.map A_api_Float) = true := cleanM KA_api_Float l
theorem KB_api_Float (x : T_api_Float) (n : Nat) (σ : List Nat) : (C_api_Float x).mapM (re n σ) = some (C_api_Float x) := by simp [C_api_Float, re, re1, AV.clean, KL_bateriakit_Drum, KL_api_Span, KL_api_Load, cleanI, cleanBo, cleanSt, cleanII]
def p_bateriakit_FloatOf (N : Nat) (d_1 : T_bateriakit_Drum) (loads_2 : Int) : Option (T_api_Float × T_bateriakit_Drum) := ((p_bateriakit_Drum_Any N d_1 [20, 1200]).bind fun r_3 => ((p_bateriakit_Drum_Mid N r_3.2 2 r_3.1).bind fun r_4 => ((p_bateriakit_Drum_Mid N r_4.2 1 400).bind fun r_5 => ((p_bateriakit_Drum_Roll N r_5.2 1500).bind fun r_6 => ((p_bateriakit_Drum_Any N r_6.2 [0, r_6.1]).bind fun r_7 => ((p_bateriakit_Drum_Roll N r_7.2 5000).bind fun r_8 => ((p_bateriakit_Drum_Any N r_8.2 [0, r_8.1]).bind fun r_9 => ((p_bateriakit_Drum_Roll N r_9.2 500).bind fun r_10 => ((p_bateriakit_Drum_Roll N r_10.2 r_4.1).bind fun r_11 => ((p_bateriakit_Drum_Mid N r_11.2 (IntKind.i64.wrap (r_11.1 + 1)) r_4.1).bind fun r_12 => ((p_bateriakit_Drum_Mid N r_12.2 0 r_4.1).bind fun r_13 => ((p_bateriakit_Drum_Roll N r_13.2 (IntKind.i64.wrap (loads_2 + 1))).bind fun r_14 => (letJ (fun (b_15 : Int) (b_16 : List T_api_Load) => some ((⟨r_4.1, r_5.1, r_11.1, r_12.1, r_7.1, r_9.1, r_13.1, r_10.1, b_16⟩ : T_api_Float), (⟨b_15⟩ : T_bateriakit_Drum))) (fun k_17 => (loop3 (fun rec_23 (i_20 : Int) (b_21 : Int) (b_22 : List T_api_Load) => (bif (decide (i_20 > 0)) then ((p_bateriakit_Drum_Mid N (⟨b_21⟩ : T_bateriakit_Drum) r_11.1 r_12.1).bind fun r_27 => ((p_bateriakit_Drum_Any N r_27.2 [5, 900]).bind fun r_28 => ((p_bateriakit_Drum_Span N r_28.2 0 r_28.1).bind fun r_29 => ((p_bateriakit_Drum_Any N r_29.2 [20, 700]).bind fun r_30 => ((p_bateriakit_Drum_Span N r_30.2 0 r_30.1).bind fun r_31 => ((p_bateriakit_Drum_Mid N r_31.2 1 4).bind fun r_32 => (letJ (fun (b_33 : Int) (b_34 : Int) => ((pushI b_22 ([(⟨r_27.1, r_29.1, r_31.1, r_32.1, b_34⟩ : T_api_Load)] : List T_api_Load)).bind fun l_45 => (rec_23 (IntKind.i64.wrap (i_20 - 1)) b_33 l_45))) (fun k_35 => (letJ (fun (y_38 : Bool) => (bif y_38 then ((p_bateriakit_Drum_Roll N r_32.2 3000).bind fun r_44 => (k_35 r_44.2.beat_ r_44.1)) else (k_35 r_32.2.beat_ 0))) (fun k_39 => (bif (r_32.1 == 2) then (k_39 true) else (k_39 (r_32.1 == 3))))))))))))) else (k_17 b_21 b_22))) N r_14.1 r_14.2.beat_ [])))))))))))))))
def v_bateriakit_FloatOf (r : T_api_Float × T_bateriakit_Drum) : AV := (A_api_Float r.1)
theorem b_bateriakit_FloatOf (r : T_api_Float × T_bateriakit_Drum) (n n2 m : Nat) : back n n2 m (v_bateriakit_FloatOf r) = some (v_bateriakit_FloatOf r) := by simp [v_bateriakit_FloatOf, back, back1, AV.plain, AV.plain1, AV.clean, cleanL, cleanI, cleanBo, cleanSt, cleanII, KL_bateriakit_Drum, KL_api_Span, KL_api_Load, KL_api_Float, A_bateriakit_Drum, C_bateriakit_Drum, A_api_Span, C_api_Span, A_api_Load, C_api_Load, A_api_Float, C_api_Float]
theorem d_bateriakit_FloatOf (N : Nat) (d_1 : T_bateriakit_Drum) (loads_2 : Int) (r : T_api_Float × T_bateriakit_Drum) (h : p_bateriakit_FloatOf N d_1 loads_2 = some r) : Does Try.prog 11 [.ptr 0 0, .int .i64 loads_2] [(C_bateriakit_Drum d_1)] fun v c => v = v_bateriakit_FloatOf r ∧ c = [(C_bateriakit_Drum r.2)] := by
  unfold p_bateriakit_FloatOf at h
  refine Does.ofL comp11 _ _ rfl rfl ?_
  refine Ex.seq ?_
  refine regH 1 [] [0, 1, 4] [] (mkS 91 [(0, .ptr 0 0), (1, .int .i64 loads_2), (4, .ptr 1 0)]) (⟨[(C_bateriakit_Drum d_1), [.int .i64 0, .int .i64 0, .int .i64 0, .int .i64 0, .int .i64 0, .int .i64 0, .int .i64 0, .int .i64 0, .nils]], []⟩) (by kernel_rfl) trivial rfl ?_
  refine Ex.seq ?_
  obtain ⟨r_3, hr_3, h⟩ := Option.bind_eq_some_iff.1 h
  refine Ex.reg ?_
  refine runH 3 [] [0, 1, 4, 8, 9, 10] [] (mkS 91 [(0, .ptr 0 0), (1, .int .i64 loads_2), (4, .ptr 1 0), (8, .ptr 0 0), (9, .ptr 0 0), (10, .sl (([20, 1200] : List Int).map (AV.int .i64)) (some 0))]) (⟨[(C_bateriakit_Drum d_1), [.int .i64 0, .int .i64 0, .int .i64 0, .int .i64 0, .int .i64 0, .int .i64 0, .int .i64 0, .int .i64 0, .nils]], [(2, 1)]⟩) (by kernel_rfl) trivial ?_
  refine ExO.callL [0] [.ptr 0 0, .sl (([20, 1200] : List Int).map (AV.int .i64)) (some 0)] rfl rfl (by simp [ren, ren1, fadeS, fadeV, AV.plain, AV.plain1, AV.clean, List.idxOf?, List.findIdx?, List.findIdx?.go, cleanL, cleanI, cleanBo, cleanSt, cleanII, KL_bateriakit_Drum, KL_api_Span, KL_api_Load, KL_api_Float, A_bateriakit_Drum, C_bateriakit_Drum, A_api_Span, C_api_Span, A_api_Load, C_api_Load, A_api_Float, C_api_Float]; try rfl) rfl (by simp [cleanL, AV.clean, cleanL, cleanI, cleanBo, cleanSt, cleanII, KL_bateriakit_Drum, KL_api_Span, KL_api_Load, KL_api_Float, A_bateriakit_Drum, C_bateriakit_Drum, A_api_Span, C_api_Span, A_api_Load, C_api_Load, A_api_Float, C_api_Float]) (d_bateriakit_Drum_Any N d_1 [20, 1200] r_3 hr_3) (b_bateriakit_Drum_Any _ _ _ _) (by simp [cleanL, AV.clean, cleanL, cleanI, cleanBo, cleanSt, cleanII, KL_bateriakit_Drum, KL_api_Span, KL_api_Load, KL_api_Float, A_bateriakit_Drum, C_bateriakit_Drum, A_api_Span, C_api_Span, A_api_Load, C_api_Load, A_api_Float, C_api_Float]) ?_
  obtain ⟨r_4, hr_4, h⟩ := Option.bind_eq_some_iff.1 h
  refine ExO.callL [0] [.ptr 0 0, .int .i64 2, .int .i64 r_3.1] rfl rfl (by simp [ren, ren1, fadeS, fadeV, AV.plain, AV.plain1, AV.clean, List.idxOf?, List.findIdx?, List.findIdx?.go, cleanL, cleanI, cleanBo, cleanSt, cleanII, KL_bateriakit_Drum, KL_api_Span, KL_api_Load, KL_api_Float, A_bateriakit_Drum, C_bateriakit_Drum, A_api_Span, C_api_Span, A_api_Load, C_api_Load, A_api_Float, C_api_Float]; try rfl) rfl (by simp [cleanL, AV.clean, cleanL, cleanI, cleanBo, cleanSt, cleanII, KL_bateriakit_Drum, KL_api_Span, KL_api_Load, KL_api_Float, A_bateriakit_Drum, C_bateriakit_Drum, A_api_Span, C_api_Span, A_api_Load, C_api_Load, A_api_Float, C_api_Float]) (d_bateriakit_Drum_Mid N r_3.2 2 r_3.1 r_4 hr_4) (b_bateriakit_Drum_Mid _ _ _ _) (by simp [cleanL, AV.clean, cleanL, cleanI, cleanBo, cleanSt, cleanII, KL_bateriakit_Drum, KL_api_Span, KL_api_Load, KL_api_Float, A_bateriakit_Drum, C_bateriakit_Drum, A_api_Span, C_api_Span, A_api_Load, C_api_Load, A_api_Float, C_api_Float]) ?_
  obtain ⟨r_5, hr_5, h⟩ := Option.bind_eq_some_iff.1 h
  refine runH 1 [] [0, 1, 4, 12, 13] [] (mkS 91 [(0, .ptr 0 0), (1, .int .i64 loads_2), (4, .ptr 1 0), (12, .int .i64 r_4.1), (13, .ptr 0 0)]) (⟨[(C_bateriakit_Drum r_4.2), [.int .i64 0, .int .i64 0, .int .i64 0, .int .i64 0, .int .i64 0, .int .i64 0, .int .i64 0, .int .i64 0, .nils]], [(2, 1)]⟩) (by kernel_rfl) trivial ?_
  refine ExO.callL [0] [.ptr 0 0, .int .i64 1, .int .i64 400] rfl rfl (by simp [ren, ren1, fadeS, fadeV, AV.plain, AV.plain1, AV.clean, List.idxOf?, List.findIdx?, List.findIdx?.go, cleanL, cleanI, cleanBo, cleanSt, cleanII, KL_bateriakit_Drum, KL_api_Span, KL_api_Load, KL_api_Float, A_bateriakit_Drum, C_bateriakit_Drum, A_api_Span, C_api_Span, A_api_Load, C_api_Load, A_api_Float, C_api_Float]; try rfl) rfl (by simp [cleanL, AV.clean, cleanL, cleanI, cleanBo, cleanSt, cleanII, KL_bateriakit_Drum, KL_api_Span, KL_api_Load, KL_api_Float, A_bateriakit_Drum, C_bateriakit_Drum, A_api_Span, C_api_Span, A_api_Load, C_api_Load, A_api_Float, C_api_Float]) (d_bateriakit_Drum_Mid N r_4.2 1 400 r_5 hr_5) (b_bateriakit_Drum_Mid _ _ _ _) (by simp [cleanL, AV.clean, cleanL, cleanI, cleanBo, cleanSt, cleanII, KL_bateriakit_Drum, KL_api_Span, KL_api_Load, KL_api_Float, A_bateriakit_Drum, C_bateriakit_Drum, A_api_Span, C_api_Span, A_api_Load, C_api_Load, A_api_Float, C_api_Float]) ?_
  obtain ⟨r_6, hr_6, h⟩ := Option.bind_eq_some_iff.1 h
  refine runH 2 [] [0, 1, 4, 12, 14, 15, 16] [] (mkS 91 [(0, .ptr 0 0), (1, .int .i64 loads_2), (4, .ptr 1 0), (12, .int .i64 r_4.1), (14, .int .i64 r_5.1), (15, .ptr 0 0), (16, .ptr 0 0)]) (⟨[(C_bateriakit_Drum r_5.2), [.int .i64 0, .int .i64 0, .int .i64 0, .int .i64 0, .int .i64 0, .int .i64 0, .int .i64 0, .int .i64 0, .nils]], [(2, 1)]⟩) (by kernel_rfl) trivial ?_
  refine ExO.callL [0] [.ptr 0 0, .int .i64 1500] rfl rfl (by simp [ren, ren1, fadeS, fadeV, AV.plain, AV.plain1, AV.clean, List.idxOf?, List.findIdx?, List.findIdx?.go, cleanL, cleanI, cleanBo, cleanSt, cleanII, KL_bateriakit_Drum, KL_api_Span, KL_api_Load, KL_api_Float, A_bateriakit_Drum, C_bateriakit_Drum, A_api_Span, C_api_Span, A_api_Load, C_api_Load, A_api_Float, C_api_Float]; try rfl) rfl (by simp [cleanL, AV.clean, cleanL, cleanI, cleanBo, cleanSt, cleanII, KL_bateriakit_Drum, KL_api_Span, KL_api_Load, KL_api_Float, A_bateriakit_Drum, C_bateriakit_Drum, A_api_Span, C_api_Span, A_api_Load, C_api_Load, A_api_Float, C_api_Float]) (d_bateriakit_Drum_Roll N r_5.2 1500 r_6 hr_6) (b_bateriakit_Drum_Roll _ _ _ _) (by simp [cleanL, AV.clean, cleanL, cleanI, cleanBo, cleanSt, cleanII, KL_bateriakit_Drum, KL_api_Span, KL_api_Load, KL_api_Float, A_bateriakit_Drum, C_bateriakit_Drum, A_api_Span, C_api_Span, A_api_Load, C_api_Load, A_api_Float, C_api_Float]) ?_
  obtain ⟨r_7, hr_7, h⟩ := Option.bind_eq_some_iff.1 h
  refine runH 1 [] [0, 1, 4, 12, 14, 15, 18] [] (mkS 91 [(0, .ptr 0 0), (1, .int .i64 loads_2), (4, .ptr 1 0), (12, .int .i64 r_4.1), (14, .int .i64 r_5.1), (15, .ptr 0 0), (18, .sl (([0, r_6.1] : List Int).map (AV.int .i64)) (some 1))]) (⟨[(C_bateriakit_Drum r_6.2), [.int .i64 0, .int .i64 0, .int .i64 0, .int .i64 0, .int .i64 0, .int .i64 0, .int .i64 0, .int .i64 0, .nils]], [(2, 1), (2, 1)]⟩) (by kernel_rfl) trivial ?_
  refine ExO.callL [0] [.ptr 0 0, .sl (([0, r_6.1] : List Int).map (AV.int .i64)) (some 1)] rfl rfl (by simp [ren, ren1, fadeS, fadeV, AV.plain, AV.plain1, AV.clean, List.idxOf?, List.findIdx?, List.findIdx?.go, cleanL, cleanI, cleanBo, cleanSt, cleanII, KL_bateriakit_Drum, KL_api_Span, KL_api_Load, KL_api_Float, A_bateriakit_Drum, C_bateriakit_Drum, A_api_Span, C_api_Span, A_api_Load, C_api_Load, A_api_Float, C_api_Float]; try rfl) rfl (by simp [cleanL, AV.clean, cleanL, cleanI, cleanBo, cleanSt, cleanII, KL_bateriakit_Drum, KL_api_Span, KL_api_Load, KL_api_Float, A_bateriakit_Drum, C_bateriakit_Drum, A_api_Span, C_api_Span, A_api_Load, C_api_Load, A_api_Float, C_api_Float]) (d_bateriakit_Drum_Any N r_6.2 [0, r_6.1] r_7 hr_7) (b_bateriakit_Drum_Any _ _ _ _) (by simp [cleanL, AV.clean, cleanL, cleanI, cleanBo, cleanSt, cleanII, KL_bateriakit_Drum, KL_api_Span, KL_api_Load, KL_api_Float, A_bateriakit_Drum, C_bateriakit_Drum, A_api_Span, C_api_Span, A_api_Load, C_api_Load, A_api_Float, C_api_Float]) ?_
  obtain ⟨r_8, hr_8, h⟩ := Option.bind_eq_some_iff.1 h
  refine runH 2 [] [0, 1, 4, 12, 14, 19, 20, 21] [] (mkS 91 [(0, .ptr 0 0), (1, .int .i64 loads_2), (4, .ptr 1 0), (12, .int .i64 r_4.1), (14, .int .i64 r_5.1), (19, .int .i64 r_7.1), (20, .ptr 0 0), (21, .ptr 0 0)]) (⟨[(C_bateriakit_Drum r_7.2), [.int .i64 0, .int .i64 0, .int .i64 0, .int .i64 0, .int .i64 0, .int .i64 0, .int .i64 0, .int .i64 0, .nils]], [(2, 1), (2, 1)]⟩) (by kernel_rfl) trivial ?_
  refine ExO.callL [0] [.ptr 0 0, .int .i64 5000] rfl rfl (by simp [ren, ren1, fadeS, fadeV, AV.plain, AV.plain1, AV.clean, List.idxOf?, List.findIdx?, List.findIdx?.go, cleanL, cleanI, cleanBo, cleanSt, cleanII, KL_bateriakit_Drum, KL_api_Span, KL_api_Load, KL_api_Float, A_bateriakit_Drum, C_bateriakit_Drum, A_api_Span, C_api_Span, A_api_Load, C_api_Load, A_api_Float, C_api_Float]; try rfl) rfl (by simp [cleanL, AV.clean, cleanL, cleanI, cleanBo, cleanSt, cleanII, KL_bateriakit_Drum, KL_api_Span, KL_api_Load, KL_api_Float, A_bateriakit_Drum, C_bateriakit_Drum, A_api_Span, C_api_Span, A_api_Load, C_api_Load, A_api_Float, C_api_Float]) (d_bateriakit_Drum_Roll N r_7.2 5000 r_8 hr_8) (b_bateriakit_Drum_Roll _ _ _ _) (by simp [cleanL, AV.clean, cleanL, cleanI, cleanBo, cleanSt, cleanII, KL_bateriakit_Drum, KL_api_Span, KL_api_Load, KL_api_Float, A_bateriakit_Drum, C_bateriakit_Drum, A_api_Span, C_api_Span, A_api_Load, C_api_Load, A_api_Float, C_api_Float]) ?_
  obtain ⟨r_9, hr_9, h⟩ := Option.bind_eq_some_iff.1 h
  refine runH 1 [] [0, 1, 4, 12, 14, 19, 20, 23] [] (mkS 91 [(0, .ptr 0 0), (1, .int .i64 loads_2), (4, .ptr 1 0), (12, .int .i64 r_4.1), (14, .int .i64 r_5.1), (19, .int .i64 r_7.1), (20, .ptr 0 0), (23, .sl (([0, r_8.1] : List Int).map (AV.int .i64)) (some 2))]) (⟨[(C_bateriakit_Drum r_8.2), [.int .i64 0, .int .i64 0, .int .i64 0, .int .i64 0, .int .i64 0, .int .i64 0, .int .i64 0, .int .i64 0, .nils]], [(2, 1), (2, 1), (2, 1)]⟩) (by kernel_rfl) trivial ?_
  refine ExO.callL [0] [.ptr 0 0, .sl (([0, r_8.1] : List Int).map (AV.int .i64)) (some 2)] rfl rfl (by simp [ren, ren1, fadeS, fadeV, AV.plain, AV.plain1, AV.clean, List.idxOf?, List.findIdx?, List.findIdx?.go, cleanL, cleanI, cleanBo, cleanSt, cleanII, KL_bateriakit_Drum, KL_api_Span, KL_api_Load, KL_api_Float, A_bateriakit_Drum, C_bateriakit_Drum, A_api_Span, C_api_Span, A_api_Load, C_api_Load, A_api_Float, C_api_Float]; try rfl) rfl (by simp [cleanL, AV.clean, cleanL, cleanI, cleanBo, cleanSt, cleanII, KL_bateriakit_Drum, KL_api_Span, KL_api_Load, KL_api_Float, A_bateriakit_Drum, C_bateriakit_Drum, A_api_Span, C_api_Span, A_api_Load, C_api_Load, A_api_Float, C_api_Float]) (d_bateriakit_Drum_Any N r_8.2 [0, r_8.1] r_9 hr_9) (b_bateriakit_Drum_Any _ _ _ _) (by simp [cleanL, AV.clean, cleanL, cleanI, cleanBo, cleanSt, cleanII, KL_bateriakit_Drum, KL_api_Span, KL_api_Load, KL_api_Float, A_bateriakit_Drum, C_bateriakit_Drum, A_api_Span, C_api_Span, A_api_Load, C_api_Load, A_api_Float, C_api_Float]) ?_
  obtain ⟨r_10, hr_10, h⟩ := Option.bind_eq_some_iff.1 h
  refine runH 1 [] [0, 1, 4, 12, 14, 19, 24, 25] [] (mkS 91 [(0, .ptr 0 0), (1, .int .i64 loads_2), (4, .ptr 1 0), (12, .int .i64 r_4.1), (14, .int .i64 r_5.1), (19, .int .i64 r_7.1), (24, .int .i64 r_9.1), (25, .ptr 0 0)]) (⟨[(C_bateriakit_Drum r_9.2), [.int .i64 0, .int .i64 0, .int .i64 0, .int .i64 0, .int .i64 0, .int .i64 0, .int .i64 0, .int .i64 0, .nils]], [(2, 1), (2, 1), (2, 1)]⟩) (by kernel_rfl) trivial ?_
  refine ExO.callL [0] [.ptr 0 0, .int .i64 500] rfl rfl (by simp [ren, ren1, fadeS, fadeV, AV.plain, AV.plain1, AV.clean, List.idxOf?, List.findIdx?, List.findIdx?.go, cleanL, cleanI, cleanBo, cleanSt, cleanII, KL_bateriakit_Drum, KL_api_Span, KL_api_Load, KL_api_Float, A_bateriakit_Drum, C_bateriakit_Drum, A_api_Span, C_api_Span, A_api_Load, C_api_Load, A_api_Float, C_api_Float]; try rfl) rfl (by simp [cleanL, AV.clean, cleanL, cleanI, cleanBo, cleanSt, cleanII, KL_bateriakit_Drum, KL_api_Span, KL_api_Load, KL_api_Float, A_bateriakit_Drum, C_bateriakit_Drum, A_api_Span, C_api_Span, A_api_Load, C_api_Load, A_api_Float, C_api_Float]) (d_bateriakit_Drum_Roll N r_9.2 500 r_10 hr_10) (b_bateriakit_Drum_Roll _ _ _ _) (by simp [cleanL, AV.clean, cleanL, cleanI, cleanBo, cleanSt, cleanII, KL_bateriakit_Drum, KL_api_Span, KL_api_Load, KL_api_Float, A_bateriakit_Drum, C_bateriakit_Drum, A_api_Span, C_api_Span, A_api_Load, C_api_Load, A_api_Float, C_api_Float]) ?_
  refine runH 3 [] [0, 1, 4, 5] [] (mkS 91 [(0, .ptr 0 0), (1, .int .i64 loads_2), (4, .ptr 1 0), (5, .ptr 2 0)]) (⟨[(C_bateriakit_Drum r_10.2), [.int .i64 0, .int .i64 0, .int .i64 0, .int .i64 0, .int .i64 0, .int .i64 0, .int .i64 0, .int .i64 0, .nils], [.int .i64 r_4.1, .int .i64 r_5.1, .int .i64 0, .int .i64 0, .int .i64 r_7.1, .int .i64 r_9.1, .int .i64 0, .int .i64 r_10.1, .nils]], [(2, 1), (2, 1), (2, 1)]⟩) (by kernel_rfl) trivial ?_
  refine ExO.nil ?_
  refine Ex.seq ?_
  obtain ⟨r_11, hr_11, h⟩ := Option.bind_eq_some_iff.1 h
  refine Ex.reg ?_
  refine runH 3 [] [0, 1, 4, 5, 28, 30] [] (mkS 91 [(0, .ptr 0 0), (1, .int .i64 loads_2), (4, .ptr 1 0), (5, .ptr 2 0), (28, .ptr 0 0), (30, .int .i64 r_4.1)]) (⟨[(C_bateriakit_Drum r_10.2), [.int .i64 0, .int .i64 0, .int .i64 0, .int .i64 0, .int .i64 0, .int .i64 0, .int .i64 0, .int .i64 0, .nils], [.int .i64 r_4.1, .int .i64 r_5.1, .int .i64 0, .int .i64 0, .int .i64 r_7.1, .int .i64 r_9.1, .int .i64 0, .int .i64 r_10.1, .nils]], [(2, 1), (2, 1), (2, 1)]⟩) (by kernel_rfl) trivial ?_
  refine ExO.callL [0] [.ptr 0 0, .int .i64 r_4.1] rfl rfl (by simp [ren, ren1, fadeS, fadeV, AV.plain, AV.plain1, AV.clean, List.idxOf?, List.findIdx?, List.findIdx?.go, cleanL, cleanI, cleanBo, cleanSt, cleanII, KL_bateriakit_Drum, KL_api_Span, KL_api_Load, KL_api_Float, A_bateriakit_Drum, C_bateriakit_Drum, A_api_Span, C_api_Span, A_api_Load, C_api_Load, A_api_Float, C_api_Float]; try rfl) rfl (by simp [cleanL, AV.clean, cleanL, cleanI, cleanBo, cleanSt, cleanII, KL_bateriakit_Drum, KL_api_Span, KL_api_Load, KL_api_Float, A_bateriakit_Drum, C_bateriakit_Drum, A_api_Span, C_api_Span, A_api_Load, C_api_Load, A_api_Float, C_api_Float]) (d_bateriakit_Drum_Roll N r_10.2 r_4.1 r_11 hr_11) (b_bateriakit_Drum_Roll _ _ _ _) (by simp [cleanL, AV.clean, cleanL, cleanI, cleanBo, cleanSt, cleanII, KL_bateriakit_Drum, KL_api_Span, KL_api_Load, KL_api_Float, A_bateriakit_Drum, C_bateriakit_Drum, A_api_Span, C_api_Span, A_api_Load, C_api_Load, A_api_Float, C_api_Float]) ?_
  refine runH 2 [] [0, 1, 4, 5] [] (mkS 91 [(0, .ptr 0 0), (1, .int .i64 loads_2), (4, .ptr 1 0), (5, .ptr 2 0)]) (⟨[(C_bateriakit_Drum r_11.2), [.int .i64 0, .int .i64 0, .int .i64 0, .int .i64 0, .int .i64 0, .int .i64 0, .int .i64 0, .int .i64 0, .nils], [.int .i64 r_4.1, .int .i64 r_5.1, .int .i64 r_11.1, .int .i64 0, .int .i64 r_7.1, .int .i64 r_9.1, .int .i64 0, .int .i64 r_10.1, .nils]], [(2, 1), (2, 1), (2, 1)]⟩) (by kernel_rfl) trivial ?_
  refine ExO.nil ?_
  refine Ex.seq ?_
  obtain ⟨r_12, hr_12, h⟩ := Option.bind_eq_some_iff.1 h
  refine Ex.reg ?_
  refine runH 6 [] [0, 1, 4, 5, 33, 36, 38] [] (mkS 91 [(0, .ptr 0 0), (1, .int .i64 loads_2), (4, .ptr 1 0), (5, .ptr 2 0), (33, .ptr 0 0), (36, .int .i64 (IntKind.i64.wrap (r_11.1 + 1))), (38, .int .i64 r_4.1)]) (⟨[(C_bateriakit_Drum r_11.2), [.int .i64 0, .int .i64 0, .int .i64 0, .int .i64 0, .int .i64 0, .int .i64 0, .int .i64 0, .int .i64 0, .nils], [.int .i64 r_4.1, .int .i64 r_5.1, .int .i64 r_11.1, .int .i64 0, .int .i64 r_7.1, .int .i64 r_9.1, .int .i64 0, .int .i64 r_10.1, .nils]], [(2, 1), (2, 1), (2, 1)]⟩) (by kernel_rfl) trivial ?_
  refine ExO.callL [0] [.ptr 0 0, .int .i64 (IntKind.i64.wrap (r_11.1 + 1)), .int .i64 r_4.1] rfl rfl (by simp [ren, ren1, fadeS, fadeV, AV.plain, AV.plain1, AV.clean, List.idxOf?, List.findIdx?, List.findIdx?.go, cleanL, cleanI, cleanBo, cleanSt, cleanII, KL_bateriakit_Drum, KL_api_Span, KL_api_Load, KL_api_Float, A_bateriakit_Drum, C_bateriakit_Drum, A_api_Span, C_api_Span, A_api_Load, C_api_Load, A_api_Float, C_api_Float]; try rfl) rfl (by simp [cleanL, AV.clean, cleanL, cleanI, cleanBo, cleanSt, cleanII, KL_bateriakit_Drum, KL_api_Span, KL_api_Load, KL_api_Float, A_bateriakit_Drum, C_bateriakit_Drum, A_api_Span, C_api_Span, A_api_Load, C_api_Load, A_api_Float, C_api_Float]) (d_bateriakit_Drum_Mid N r_11.2 (IntKind.i64.wrap (r_11.1 + 1)) r_4.1 r_12 hr_12) (b_bateriakit_Drum_Mid _ _ _ _) (by simp [cleanL, AV.clean, cleanL, cleanI, cleanBo, cleanSt, cleanII, KL_bateriakit_Drum, KL_api_Span, KL_api_Load, KL_api_Float, A_bateriakit_Drum, C_bateriakit_Drum, A_api_Span, C_api_Span, A_api_Load, C_api_Load, A_api_Float, C_api_Float]) ?_
  refine runH 2 [] [0, 1, 4, 5] [] (mkS 91 [(0, .ptr 0 0), (1, .int .i64 loads_2), (4, .ptr 1 0), (5, .ptr 2 0)]) (⟨[(C_bateriakit_Drum r_12.2), [.int .i64 0, .int .i64 0, .int .i64 0, .int .i64 0, .int .i64 0, .int .i64 0, .int .i64 0, .int .i64 0, .nils], [.int .i64 r_4.1, .int .i64 r_5.1, .int .i64 r_11.1, .int .i64 r_12.1, .int .i64 r_7.1, .int .i64 r_9.1, .int .i64 0, .int .i64 r_10.1, .nils]], [(2, 1), (2, 1), (2, 1)]⟩) (by kernel_rfl) trivial ?_
  refine ExO.nil ?_
  refine Ex.seq ?_
  obtain ⟨r_13, hr_13, h⟩ := Option.bind_eq_some_iff.1 h
  refine Ex.reg ?_
  refine runH 3 [] [0, 1, 4, 5, 41, 43] [] (mkS 91 [(0, .ptr 0 0), (1, .int .i64 loads_2), (4, .ptr 1 0), (5, .ptr 2 0), (41, .ptr 0 0), (43, .int .i64 r_4.1)]) (⟨[(C_bateriakit_Drum r_12.2), [.int .i64 0, .int .i64 0, .int .i64 0, .int .i64 0, .int .i64 0, .int .i64 0, .int .i64 0, .int .i64 0, .nils], [.int .i64 r_4.1, .int .i64 r_5.1, .int .i64 r_11.1, .int .i64 r_12.1, .int .i64 r_7.1, .int .i64 r_9.1, .int .i64 0, .int .i64 r_10.1, .nils]], [(2, 1), (2, 1), (2, 1)]⟩) (by kernel_rfl) trivial ?_
  refine ExO.callL [0] [.ptr 0 0, .int .i64 0, .int .i64 r_4.1] rfl rfl (by simp [ren, ren1, fadeS, fadeV, AV.plain, AV.plain1, AV.clean, List.idxOf?, List.findIdx?, List.findIdx?.go, cleanL, cleanI, cleanBo, cleanSt, cleanII, KL_bateriakit_Drum, KL_api_Span, KL_api_Load, KL_api_Float, A_bateriakit_Drum, C_bateriakit_Drum, A_api_Span, C_api_Span, A_api_Load, C_api_Load, A_api_Float, C_api_Float]; try rfl) rfl (by simp [cleanL, AV.clean, cleanL, cleanI, cleanBo, cleanSt, cleanII, KL_bateriakit_Drum, KL_api_Span, KL_api_Load, KL_api_Float, A_bateriakit_Drum, C_bateriakit_Drum, A_api_Span, C_api_Span, A_api_Load, C_api_Load, A_api_Float, C_api_Float]) (d_bateriakit_Drum_Mid N r_12.2 0 r_4.1 r_13 hr_13) (b_bateriakit_Drum_Mid _ _ _ _) (by simp [cleanL, AV.clean, cleanL, cleanI, cleanBo, cleanSt, cleanII, KL_bateriakit_Drum, KL_api_Span, KL_api_Load, KL_api_Float, A_bateriakit_Drum, C_bateriakit_Drum, A_api_Span, C_api_Span, A_api_Load, C_api_Load, A_api_Float, C_api_Float]) ?_
  refine runH 2 [] [0, 1, 4, 5] [] (mkS 91 [(0, .ptr 0 0), (1, .int .i64 loads_2), (4, .ptr 1 0), (5, .ptr 2 0)]) (⟨[(C_bateriakit_Drum r_13.2), [.int .i64 0, .int .i64 0, .int .i64 0, .int .i64 0, .int .i64 0, .int .i64 0, .int .i64 0, .int .i64 0, .nils], [.int .i64 r_4.1, .int .i64 r_5.1, .int .i64 r_11.1, .int .i64 r_12.1, .int .i64 r_7.1, .int .i64 r_9.1, .int .i64 r_13.1, .int .i64 r_10.1, .nils]], [(2, 1), (2, 1), (2, 1)]⟩) (by kernel_rfl) trivial ?_
  refine ExO.nil ?_
  refine Ex.seq ?_
  refine Ex.seq ?_
  obtain ⟨r_14, hr_14, h⟩ := Option.bind_eq_some_iff.1 h
  refine Ex.reg ?_
  refine runH 3 [] [0, 4, 5, 46, 48] [] (mkS 91 [(0, .ptr 0 0), (4, .ptr 1 0), (5, .ptr 2 0), (46, .ptr 0 0), (48, .int .i64 (IntKind.i64.wrap (loads_2 + 1)))]) (⟨[(C_bateriakit_Drum r_13.2), [.int .i64 0, .int .i64 0, .int .i64 0, .int .i64 0, .int .i64 0, .int .i64 0, .int .i64 0, .int .i64 0, .nils], [.int .i64 r_4.1, .int .i64 r_5.1, .int .i64 r_11.1, .int .i64 r_12.1, .int .i64 r_7.1, .int .i64 r_9.1, .int .i64 r_13.1, .int .i64 r_10.1, .nils]], [(2, 1), (2, 1), (2, 1)]⟩) (by kernel_rfl) trivial ?_
  refine ExO.callL [0] [.ptr 0 0, .int .i64 (IntKind.i64.wrap (loads_2 + 1))] rfl rfl (by simp [ren, ren1, fadeS, fadeV, AV.plain, AV.plain1, AV.clean, List.idxOf?, List.findIdx?, List.findIdx?.go, cleanL, cleanI, cleanBo, cleanSt, cleanII, KL_bateriakit_Drum, KL_api_Span, KL_api_Load, KL_api_Float, A_bateriakit_Drum, C_bateriakit_Drum, A_api_Span, C_api_Span, A_api_Load, C_api_Load, A_api_Float, C_api_Float]; try rfl) rfl (by simp [cleanL, AV.clean, cleanL, cleanI, cleanBo, cleanSt, cleanII, KL_bateriakit_Drum, KL_api_Span, KL_api_Load, KL_api_Float, A_bateriakit_Drum, C_bateriakit_Drum, A_api_Span, C_api_Span, A_api_Load, C_api_Load, A_api_Float, C_api_Float]) (d_bateriakit_Drum_Roll N r_13.2 (IntKind.i64.wrap (loads_2 + 1)) r_14 hr_14) (b_bateriakit_Drum_Roll _ _ _ _) (by simp [cleanL, AV.clean, cleanL, cleanI, cleanBo, cleanSt, cleanII, KL_bateriakit_Drum, KL_api_Span, KL_api_Load, KL_api_Float, A_bateriakit_Drum, C_bateriakit_Drum, A_api_Span, C_api_Span, A_api_Load, C_api_Load, A_api_Float, C_api_Float]) ?_
  refine runH 1 [] [0, 4, 5, 6] [] (mkS 91 [(0, .ptr 0 0), (4, .ptr 1 0), (5, .ptr 2 0), (6, .int .i64 r_14.1)]) (⟨[(C_bateriakit_Drum r_14.2), [.int .i64 0, .int .i64 0, .int .i64 0, .int .i64 0, .int .i64 0, .int .i64 0, .int .i64 0, .int .i64 0, .nils], [.int .i64 r_4.1, .int .i64 r_5.1, .int .i64 r_11.1, .int .i64 r_12.1, .int .i64 r_7.1, .int .i64 r_9.1, .int .i64 r_13.1, .int .i64 r_10.1, .nils]], [(2, 1), (2, 1), (2, 1)]⟩) (by kernel_rfl) trivial ?_
  refine ExO.nil ?_
  obtain ⟨K_18, hK_19, h⟩ := letE h
  refine Ex.blockJ (fun a S => ∃ (b_15 : Int), ∃ (b_16 : List T_api_Load), K_18 b_15 b_16 = some r ∧ a = mkS 91 [(4, .ptr 1 0), (5, .ptr 2 0)] ∧ S = ⟨[[.int .u64 b_15], [.int .i64 0, .int .i64 0, .int .i64 0, .int .i64 0, .int .i64 0, .int .i64 0, .int .i64 0, .int .i64 0, .nils], [.int .i64 r_4.1, .int .i64 r_5.1, .int .i64 r_11.1, .int .i64 r_12.1, .int .i64 r_7.1, .int .i64 r_9.1, .int .i64 r_13.1, .int .i64 r_10.1, .sl (b_16.map A_api_Load) (some 0)]], [(b_16.length, 7)]⟩) ?_ ?_ (by first | exact fun _ _ _ _ hf h => Ex.forget hf h | exact fun _ _ _ _ hf ⟨a2, S2, hf2, h⟩ => ⟨a2, S2, hf.trans hf2, h⟩)
  · refine Ex.forget (nilB 2 8 7 [.int .i64 r_4.1, .int .i64 r_5.1, .int .i64 r_11.1, .int .i64 r_12.1, .int .i64 r_7.1, .int .i64 r_9.1, .int .i64 r_13.1, .int .i64 r_10.1, .nils] rfl rfl) ?_
    refine Ex.castA (a2 := mkS 91 [(0, .ptr 0 0), (4, .ptr 1 0), (5, .ptr 2 0), (6, .int .i64 r_14.1)]) (S2 := ⟨[(C_bateriakit_Drum r_14.2), [.int .i64 0, .int .i64 0, .int .i64 0, .int .i64 0, .int .i64 0, .int .i64 0, .int .i64 0, .int .i64 0, .nils], [.int .i64 r_4.1, .int .i64 r_5.1, .int .i64 r_11.1, .int .i64 r_12.1, .int .i64 r_7.1, .int .i64 r_9.1, .int .i64 r_13.1, .int .i64 r_10.1, .sl (([] : List T_api_Load).map A_api_Load) (some 3)]], [(2, 1), (2, 1), (2, 1), (0, 7)]⟩) (by kernel_rfl) (by kernel_rfl) ?_
    obtain ⟨B_24, hB_25, h⟩ := loop3I h
    refine Ex.loopF (fun k a S => ∃ (i_20 : Int), ∃ (b_21 : Int), ∃ (b_22 : List T_api_Load), loop3 B_24 k i_20 b_21 b_22 = some r ∧ a = mkS 91 [(0, .ptr 0 0), (4, .ptr 1 0), (5, .ptr 2 0), (6, .int .i64 i_20)] ∧ S = ⟨[[.int .u64 b_21], [.int .i64 0, .int .i64 0, .int .i64 0, .int .i64 0, .int .i64 0, .int .i64 0, .int .i64 0, .int .i64 0, .nils], [.int .i64 r_4.1, .int .i64 r_5.1, .int .i64 r_11.1, .int .i64 r_12.1, .int .i64 r_7.1, .int .i64 r_9.1, .int .i64 r_13.1, .int .i64 r_10.1, .sl (b_22.map A_api_Load) (some 0)]], [(b_22.length, 7)]⟩) N ⟨_, _, forgetA (m := 91) 3 [3] [(0, .ptr 0 0), (4, .ptr 1 0), (5, .ptr 2 0), (6, .int .i64 r_14.1)] [(C_bateriakit_Drum r_14.2), [.int .i64 0, .int .i64 0, .int .i64 0, .int .i64 0, .int .i64 0, .int .i64 0, .int .i64 0, .int .i64 0, .nils], [.int .i64 r_4.1, .int .i64 r_5.1, .int .i64 r_11.1, .int .i64 r_12.1, .int .i64 r_7.1, .int .i64 r_9.1, .int .i64 r_13.1, .int .i64 r_10.1, .sl (([] : List T_api_Load).map A_api_Load) (some 0)]] [(0, 7)] (by simp) (by simp) ⟨rfl, rfl, rfl, rfl, trivial⟩ (by simp [re, re1, AV.clean, List.idxOf?, List.findIdx?, List.findIdx?.go, cleanL, cleanI, cleanBo, cleanSt, cleanII, KL_bateriakit_Drum, KL_api_Span, KL_api_Load, KL_api_Float, KB_bateriakit_Drum, KB_api_Span, KB_api_Load, KB_api_Float]) rfl (by decide), r_14.1, r_14.2.beat_, [], h, rfl, rfl⟩ ?_
    rintro k a S ⟨i_20, b_21, b_22, h, rfl, rfl⟩
    cases k with
    | zero => exact (loop3Z h).elim
    | succ k =>
      replace h := loop3S h hB_25
      refine Ex.seq ?_
      refine Ex.seq ?_
      refine regH 2 [] [0, 4, 5, 6, 51] [] (mkS 91 [(0, .ptr 0 0), (4, .ptr 1 0), (5, .ptr 2 0), (6, .int .i64 i_20), (51, .bool (decide (i_20 > 0)))]) (⟨[[.int .u64 b_21], [.int .i64 0, .int .i64 0, .int .i64 0, .int .i64 0, .int .i64 0, .int .i64 0, .int .i64 0, .int .i64 0, .nils], [.int .i64 r_4.1, .int .i64 r_5.1, .int .i64 r_11.1, .int .i64 r_12.1, .int .i64 r_7.1, .int .i64 r_9.1, .int .i64 r_13.1, .int .i64 r_10.1, .sl (b_22.map A_api_Load) (some 0)]], [(b_22.length, 7)]⟩) (by kernel_rfl) trivial rfl ?_
      rcases condI h with ⟨hc_26, h⟩ | ⟨hc_26, h⟩
      · refine Ex.condT _ rfl hc_26 ?_
        refine Ex.skip ?_
        refine Ex.seq ?_
        refine Ex.blockK ?_
        refine Ex.seq ?_
        obtain ⟨r_27, hr_27, h⟩ := Option.bind_eq_some_iff.1 h
        refine Ex.reg ?_
        refine runH 5 [] [0, 4, 5, 6, 54, 56, 58] [] (mkS 91 [(0, .ptr 0 0), (4, .ptr 1 0), (5, .ptr 2 0), (6, .int .i64 i_20), (54, .ptr 0 0), (56, .int .i64 r_11.1), (58, .int .i64 r_12.1)]) (⟨[[.int .u64 b_21], [.int .i64 0, .int .i64 0, .int .i64 0, .int .i64 0, .int .i64 0, .int .i64 0, .int .i64 0, .int .i64 0, .nils], [.int .i64 r_4.1, .int .i64 r_5.1, .int .i64 r_11.1, .int .i64 r_12.1, .int .i64 r_7.1, .int .i64 r_9.1, .int .i64 r_13.1, .int .i64 r_10.1, .sl (b_22.map A_api_Load) (some 0)]], [(b_22.length, 7)]⟩) (by kernel_rfl) trivial ?_
        refine ExO.callL [0] [.ptr 0 0, .int .i64 r_11.1, .int .i64 r_12.1] rfl rfl (by simp [ren, ren1, fadeS, fadeV, AV.plain, AV.plain1, AV.clean, List.idxOf?, List.findIdx?, List.findIdx?.go, cleanL, cleanI, cleanBo, cleanSt, cleanII, KL_bateriakit_Drum, KL_api_Span, KL_api_Load, KL_api_Float, A_bateriakit_Drum, C_bateriakit_Drum, A_api_Span, C_api_Span, A_api_Load, C_api_Load, A_api_Float, C_api_Float]; try rfl) rfl (by simp [cleanL, AV.clean, cleanL, cleanI, cleanBo, cleanSt, cleanII, KL_bateriakit_Drum, KL_api_Span, KL_api_Load, KL_api_Float, A_bateriakit_Drum, C_bateriakit_Drum, A_api_Span, C_api_Span, A_api_Load, C_api_Load, A_api_Float, C_api_Float]) (d_bateriakit_Drum_Mid N (⟨b_21⟩ : T_bateriakit_Drum) r_11.1 r_12.1 r_27 hr_27) (b_bateriakit_Drum_Mid _ _ _ _) (by simp [cleanL, AV.clean, cleanL, cleanI, cleanBo, cleanSt, cleanII, KL_bateriakit_Drum, KL_api_Span, KL_api_Load, KL_api_Float, A_bateriakit_Drum, C_bateriakit_Drum, A_api_Span, C_api_Span, A_api_Load, C_api_Load, A_api_Float, C_api_Float]) ?_
        obtain ⟨r_28, hr_28, h⟩ := Option.bind_eq_some_iff.1 h
        refine runH 3 [] [0, 4, 5, 6, 59, 60, 61, 62] [] (mkS 91 [(0, .ptr 0 0), (4, .ptr 1 0), (5, .ptr 2 0), (6, .int .i64 i_20), (59, .int .i64 r_27.1), (60, .ptr 0 0), (61, .ptr 0 0), (62, .sl (([5, 900] : List Int).map (AV.int .i64)) (some 1))]) (⟨[(C_bateriakit_Drum r_27.2), [.int .i64 0, .int .i64 0, .int .i64 0, .int .i64 0, .int .i64 0, .int .i64 0, .int .i64 0, .int .i64 0, .nils], [.int .i64 r_4.1, .int .i64 r_5.1, .int .i64 r_11.1, .int .i64 r_12.1, .int .i64 r_7.1, .int .i64 r_9.1, .int .i64 r_13.1, .int .i64 r_10.1, .sl (b_22.map A_api_Load) (some 0)]], [(b_22.length, 7), (2, 1)]⟩) (by kernel_rfl) trivial ?_
        refine ExO.callL [0] [.ptr 0 0, .sl (([5, 900] : List Int).map (AV.int .i64)) (some 1)] rfl rfl (by simp [ren, ren1, fadeS, fadeV, AV.plain, AV.plain1, AV.clean, List.idxOf?, List.findIdx?, List.findIdx?.go, cleanL, cleanI, cleanBo, cleanSt, cleanII, KL_bateriakit_Drum, KL_api_Span, KL_api_Load, KL_api_Float, A_bateriakit_Drum, C_bateriakit_Drum, A_api_Span, C_api_Span, A_api_Load, C_api_Load, A_api_Float, C_api_Float]; try rfl) rfl (by simp [cleanL, AV.clean, cleanL, cleanI, cleanBo, cleanSt, cleanII, KL_bateriakit_Drum, KL_api_Span, KL_api_Load, KL_api_Float, A_bateriakit_Drum, C_bateriakit_Drum, A_api_Span, C_api_Span, A_api_Load, C_api_Load, A_api_Float, C_api_Float]) (d_bateriakit_Drum_Any N r_27.2 [5, 900] r_28 hr_28) (b_bateriakit_Drum_Any _ _ _ _) (by simp [cleanL, AV.clean, cleanL, cleanI, cleanBo, cleanSt, cleanII, KL_bateriakit_Drum, KL_api_Span, KL_api_Load, KL_api_Float, A_bateriakit_Drum, C_bateriakit_Drum, A_api_Span, C_api_Span, A_api_Load, C_api_Load, A_api_Float, C_api_Float]) ?_
        obtain ⟨r_29, hr_29, h⟩ := Option.bind_eq_some_iff.1 h
        refine ExO.callL [0] [.ptr 0 0, .int .i64 0, .int .i64 r_28.1] rfl rfl (by simp [ren, ren1, fadeS, fadeV, AV.plain, AV.plain1, AV.clean, List.idxOf?, List.findIdx?, List.findIdx?.go, cleanL, cleanI, cleanBo, cleanSt, cleanII, KL_bateriakit_Drum, KL_api_Span, KL_api_Load, KL_api_Float, A_bateriakit_Drum, C_bateriakit_Drum, A_api_Span, C_api_Span, A_api_Load, C_api_Load, A_api_Float, C_api_Float]; try rfl) rfl (by simp [cleanL, AV.clean, cleanL, cleanI, cleanBo, cleanSt, cleanII, KL_bateriakit_Drum, KL_api_Span, KL_api_Load, KL_api_Float, A_bateriakit_Drum, C_bateriakit_Drum, A_api_Span, C_api_Span, A_api_Load, C_api_Load, A_api_Float, C_api_Float]) (d_bateriakit_Drum_Span N r_28.2 0 r_28.1 r_29 hr_29) (b_bateriakit_Drum_Span _ _ _ _) (by simp [cleanL, AV.clean, cleanL, cleanI, cleanBo, cleanSt, cleanII, KL_bateriakit_Drum, KL_api_Span, KL_api_Load, KL_api_Float, A_bateriakit_Drum, C_bateriakit_Drum, A_api_Span, C_api_Span, A_api_Load, C_api_Load, A_api_Float, C_api_Float]) ?_
        obtain ⟨r_30, hr_30, h⟩ := Option.bind_eq_some_iff.1 h
        refine runH 3 [] [0, 4, 5, 6, 59, 64, 65, 66, 67] [] (mkS 91 [(0, .ptr 0 0), (4, .ptr 1 0), (5, .ptr 2 0), (6, .int .i64 i_20), (59, .int .i64 r_27.1), (64, (A_api_Span r_29.1)), (65, .ptr 0 0), (66, .ptr 0 0), (67, .sl (([20, 700] : List Int).map (AV.int .i64)) (some 2))]) (⟨[(C_bateriakit_Drum r_29.2), [.int .i64 0, .int .i64 0, .int .i64 0, .int .i64 0, .int .i64 0, .int .i64 0, .int .i64 0, .int .i64 0, .nils], [.int .i64 r_4.1, .int .i64 r_5.1, .int .i64 r_11.1, .int .i64 r_12.1, .int .i64 r_7.1, .int .i64 r_9.1, .int .i64 r_13.1, .int .i64 r_10.1, .sl (b_22.map A_api_Load) (some 0)]], [(b_22.length, 7), (2, 1), (2, 1)]⟩) (by kernel_rfl) trivial ?_
        refine ExO.callL [0] [.ptr 0 0, .sl (([20, 700] : List Int).map (AV.int .i64)) (some 2)] rfl rfl (by simp [ren, ren1, fadeS, fadeV, AV.plain, AV.plain1, AV.clean, List.idxOf?, List.findIdx?, List.findIdx?.go, cleanL, cleanI, cleanBo, cleanSt, cleanII, KL_bateriakit_Drum, KL_api_Span, KL_api_Load, KL_api_Float, A_bateriakit_Drum, C_bateriakit_Drum, A_api_Span, C_api_Span, A_api_Load, C_api_Load, A_api_Float, C_api_Float]; try rfl) rfl (by simp [cleanL, AV.clean, cleanL, cleanI, cleanBo, cleanSt, cleanII, KL_bateriakit_Drum, KL_api_Span, KL_api_Load, KL_api_Float, A_bateriakit_Drum, C_bateriakit_Drum, A_api_Span, C_api_Span, A_api_Load, C_api_Load, A_api_Float, C_api_Float]) (d_bateriakit_Drum_Any N r_29.2 [20, 700] r_30 hr_30) (b_bateriakit_Drum_Any _ _ _ _) (by simp [cleanL, AV.clean, cleanL, cleanI, cleanBo, cleanSt, cleanII, KL_bateriakit_Drum, KL_api_Span, KL_api_Load, KL_api_Float, A_bateriakit_Drum, C_bateriakit_Drum, A_api_Span, C_api_Span, A_api_Load, C_api_Load, A_api_Float, C_api_Float]) ?_
        obtain ⟨r_31, hr_31, h⟩ := Option.bind_eq_some_iff.1 h
        refine ExO.callL [0] [.ptr 0 0, .int .i64 0, .int .i64 r_30.1] rfl rfl (by simp [ren, ren1, fadeS, fadeV, AV.plain, AV.plain1, AV.clean, List.idxOf?, List.findIdx?, List.findIdx?.go, cleanL, cleanI, cleanBo, cleanSt, cleanII, KL_bateriakit_Drum, KL_api_Span, KL_api_Load, KL_api_Float, A_bateriakit_Drum, C_bateriakit_Drum, A_api_Span, C_api_Span, A_api_Load, C_api_Load, A_api_Float, C_api_Float]; try rfl) rfl (by simp [cleanL, AV.clean, cleanL, cleanI, cleanBo, cleanSt, cleanII, KL_bateriakit_Drum, KL_api_Span, KL_api_Load, KL_api_Float, A_bateriakit_Drum, C_bateriakit_Drum, A_api_Span, C_api_Span, A_api_Load, C_api_Load, A_api_Float, C_api_Float]) (d_bateriakit_Drum_Span N r_30.2 0 r_30.1 r_31 hr_31) (b_bateriakit_Drum_Span _ _ _ _) (by simp [cleanL, AV.clean, cleanL, cleanI, cleanBo, cleanSt, cleanII, KL_bateriakit_Drum, KL_api_Span, KL_api_Load, KL_api_Float, A_bateriakit_Drum, C_bateriakit_Drum, A_api_Span, C_api_Span, A_api_Load, C_api_Load, A_api_Float, C_api_Float]) ?_
        obtain ⟨r_32, hr_32, h⟩ := Option.bind_eq_some_iff.1 h
        refine runH 1 [] [0, 4, 5, 6, 59, 64, 69, 70] [] (mkS 91 [(0, .ptr 0 0), (4, .ptr 1 0), (5, .ptr 2 0), (6, .int .i64 i_20), (59, .int .i64 r_27.1), (64, (A_api_Span r_29.1)), (69, (A_api_Span r_31.1)), (70, .ptr 0 0)]) (⟨[(C_bateriakit_Drum r_31.2), [.int .i64 0, .int .i64 0, .int .i64 0, .int .i64 0, .int .i64 0, .int .i64 0, .int .i64 0, .int .i64 0, .nils], [.int .i64 r_4.1, .int .i64 r_5.1, .int .i64 r_11.1, .int .i64 r_12.1, .int .i64 r_7.1, .int .i64 r_9.1, .int .i64 r_13.1, .int .i64 r_10.1, .sl (b_22.map A_api_Load) (some 0)]], [(b_22.length, 7), (2, 1), (2, 1)]⟩) (by kernel_rfl) trivial ?_
        refine ExO.callL [0] [.ptr 0 0, .int .i64 1, .int .i64 4] rfl rfl (by simp [ren, ren1, fadeS, fadeV, AV.plain, AV.plain1, AV.clean, List.idxOf?, List.findIdx?, List.findIdx?.go, cleanL, cleanI, cleanBo, cleanSt, cleanII, KL_bateriakit_Drum, KL_api_Span, KL_api_Load, KL_api_Float, A_bateriakit_Drum, C_bateriakit_Drum, A_api_Span, C_api_Span, A_api_Load, C_api_Load, A_api_Float, C_api_Float]; try rfl) rfl (by simp [cleanL, AV.clean, cleanL, cleanI, cleanBo, cleanSt, cleanII, KL_bateriakit_Drum, KL_api_Span, KL_api_Load, KL_api_Float, A_bateriakit_Drum, C_bateriakit_Drum, A_api_Span, C_api_Span, A_api_Load, C_api_Load, A_api_Float, C_api_Float]) (d_bateriakit_Drum_Mid N r_31.2 1 4 r_32 hr_32) (b_bateriakit_Drum_Mid _ _ _ _) (by simp [cleanL, AV.clean, cleanL, cleanI, cleanBo, cleanSt, cleanII, KL_bateriakit_Drum, KL_api_Span, KL_api_Load, KL_api_Float, A_bateriakit_Drum, C_bateriakit_Drum, A_api_Span, C_api_Span, A_api_Load, C_api_Load, A_api_Float, C_api_Float]) ?_
        refine runH 3 [] [0, 4, 5, 6, 7] [] (mkS 91 [(0, .ptr 0 0), (4, .ptr 1 0), (5, .ptr 2 0), (6, .int .i64 i_20), (7, .ptr 3 0)]) (⟨[(C_bateriakit_Drum r_32.2), [.int .i64 0, .int .i64 0, .int .i64 0, .int .i64 0, .int .i64 0, .int .i64 0, .int .i64 0, .int .i64 0, .nils], [.int .i64 r_4.1, .int .i64 r_5.1, .int .i64 r_11.1, .int .i64 r_12.1, .int .i64 r_7.1, .int .i64 r_9.1, .int .i64 r_13.1, .int .i64 r_10.1, .sl (b_22.map A_api_Load) (some 0)], [.int .i64 r_27.1, .int .i64 r_29.1.Lo, .int .i64 r_29.1.Hi, .int .i64 r_31.1.Lo, .int .i64 r_31.1.Hi, .int .i64 r_32.1, .int .i64 0]], [(b_22.length, 7), (2, 1), (2, 1)]⟩) (by kernel_rfl) trivial ?_
        refine ExO.nil ?_
        obtain ⟨K_36, hK_37, h⟩ := letE h
        refine Ex.seqJ (fun a S => ∃ (b_33 : Int), ∃ (b_34 : Int), K_36 b_33 b_34 = some r ∧ a = mkS 91 [(0, .ptr 0 0), (4, .ptr 1 0), (5, .ptr 2 0), (6, .int .i64 i_20), (7, .ptr 3 0)] ∧ S = ⟨[[.int .u64 b_33], [.int .i64 0, .int .i64 0, .int .i64 0, .int .i64 0, .int .i64 0, .int .i64 0, .int .i64 0, .int .i64 0, .nils], [.int .i64 r_4.1, .int .i64 r_5.1, .int .i64 r_11.1, .int .i64 r_12.1, .int .i64 r_7.1, .int .i64 r_9.1, .int .i64 r_13.1, .int .i64 r_10.1, .sl (b_22.map A_api_Load) (some 0)], [.int .i64 r_27.1, .int .i64 r_29.1.Lo, .int .i64 r_29.1.Hi, .int .i64 r_31.1.Lo, .int .i64 r_31.1.Hi, .int .i64 r_32.1, .int .i64 b_34]], [(b_22.length, 7)]⟩) ?_ ?_
        · obtain ⟨K_40, hK_41, h⟩ := letE h
          refine Ex.seqJ (fun a S => ∃ (y_38 : Bool), K_40 y_38 = some r ∧ a = mkS 91 [(0, .ptr 0 0), (4, .ptr 1 0), (5, .ptr 2 0), (6, .int .i64 i_20), (7, .ptr 3 0), (80, .bool y_38)] ∧ S = ⟨[(C_bateriakit_Drum r_32.2), [.int .i64 0, .int .i64 0, .int .i64 0, .int .i64 0, .int .i64 0, .int .i64 0, .int .i64 0, .int .i64 0, .nils], [.int .i64 r_4.1, .int .i64 r_5.1, .int .i64 r_11.1, .int .i64 r_12.1, .int .i64 r_7.1, .int .i64 r_9.1, .int .i64 r_13.1, .int .i64 r_10.1, .sl (b_22.map A_api_Load) (some 0)], [.int .i64 r_27.1, .int .i64 r_29.1.Lo, .int .i64 r_29.1.Hi, .int .i64 r_31.1.Lo, .int .i64 r_31.1.Hi, .int .i64 r_32.1, .int .i64 0]], [(b_22.length, 7)]⟩) ?_ ?_
          · rcases condI h with ⟨hc_42, h⟩ | ⟨hc_42, h⟩
            · refine regH 8 [(3, .eq (.bool true))] [0, 4, 5, 6, 7, 80] [AV.bool (r_32.1 == 2) = AV.bool true] (mkS 91 [(0, .ptr 0 0), (4, .ptr 1 0), (5, .ptr 2 0), (6, .int .i64 i_20), (7, .ptr 3 0), (80, .bool true)]) (⟨[(C_bateriakit_Drum r_32.2), [.int .i64 0, .int .i64 0, .int .i64 0, .int .i64 0, .int .i64 0, .int .i64 0, .int .i64 0, .int .i64 0, .nils], [.int .i64 r_4.1, .int .i64 r_5.1, .int .i64 r_11.1, .int .i64 r_12.1, .int .i64 r_7.1, .int .i64 r_9.1, .int .i64 r_13.1, .int .i64 r_10.1, .sl (b_22.map A_api_Load) (some 0)], [.int .i64 r_27.1, .int .i64 r_29.1.Lo, .int .i64 r_29.1.Hi, .int .i64 r_31.1.Lo, .int .i64 r_31.1.Hi, .int .i64 r_32.1, .int .i64 0]], [(b_22.length, 7), (2, 1), (2, 1)]⟩) (by kernel_rfl) ⟨congrArg AV.bool hc_42, trivial⟩ rfl ?_
              (try simp only [reduceCtorEq, AEx.ex.injEq, Nat.reduceEqDiff, if_true, if_false])
              exact ⟨_, _, forgetA (m := 91) 4 [0] [(0, .ptr 0 0), (4, .ptr 1 0), (5, .ptr 2 0), (6, .int .i64 i_20), (7, .ptr 3 0), (80, .bool true)] [(C_bateriakit_Drum r_32.2), [.int .i64 0, .int .i64 0, .int .i64 0, .int .i64 0, .int .i64 0, .int .i64 0, .int .i64 0, .int .i64 0, .nils], [.int .i64 r_4.1, .int .i64 r_5.1, .int .i64 r_11.1, .int .i64 r_12.1, .int .i64 r_7.1, .int .i64 r_9.1, .int .i64 r_13.1, .int .i64 r_10.1, .sl (b_22.map A_api_Load) (some 0)], [.int .i64 r_27.1, .int .i64 r_29.1.Lo, .int .i64 r_29.1.Hi, .int .i64 r_31.1.Lo, .int .i64 r_31.1.Hi, .int .i64 r_32.1, .int .i64 0]] [(b_22.length, 7)] (by simp) (by simp) ⟨rfl, rfl, rfl, rfl, rfl, rfl, trivial⟩ (by simp [re, re1, AV.clean, List.idxOf?, List.findIdx?, List.findIdx?.go, cleanL, cleanI, cleanBo, cleanSt, cleanII, KL_bateriakit_Drum, KL_api_Span, KL_api_Load, KL_api_Float, KB_bateriakit_Drum, KB_api_Span, KB_api_Load, KB_api_Float]) rfl (by decide), true, h, rfl, rfl⟩
            · refine regH 8 [(3, .eq (.bool false))] [0, 4, 5, 6, 7, 80] [AV.bool (r_32.1 == 2) = AV.bool false] (mkS 91 [(0, .ptr 0 0), (4, .ptr 1 0), (5, .ptr 2 0), (6, .int .i64 i_20), (7, .ptr 3 0), (80, .bool (r_32.1 == 3))]) (⟨[(C_bateriakit_Drum r_32.2), [.int .i64 0, .int .i64 0, .int .i64 0, .int .i64 0, .int .i64 0, .int .i64 0, .int .i64 0, .int .i64 0, .nils], [.int .i64 r_4.1, .int .i64 r_5.1, .int .i64 r_11.1, .int .i64 r_12.1, .int .i64 r_7.1, .int .i64 r_9.1, .int .i64 r_13.1, .int .i64 r_10.1, .sl (b_22.map A_api_Load) (some 0)], [.int .i64 r_27.1, .int .i64 r_29.1.Lo, .int .i64 r_29.1.Hi, .int .i64 r_31.1.Lo, .int .i64 r_31.1.Hi, .int .i64 r_32.1, .int .i64 0]], [(b_22.length, 7), (2, 1), (2, 1)]⟩) (by kernel_rfl) ⟨congrArg AV.bool hc_42, trivial⟩ rfl ?_
              (try simp only [reduceCtorEq, AEx.ex.injEq, Nat.reduceEqDiff, if_true, if_false])
              exact ⟨_, _, forgetA (m := 91) 4 [0] [(0, .ptr 0 0), (4, .ptr 1 0), (5, .ptr 2 0), (6, .int .i64 i_20), (7, .ptr 3 0), (80, .bool (r_32.1 == 3))] [(C_bateriakit_Drum r_32.2), [.int .i64 0, .int .i64 0, .int .i64 0, .int .i64 0, .int .i64 0, .int .i64 0, .int .i64 0, .int .i64 0, .nils], [.int .i64 r_4.1, .int .i64 r_5.1, .int .i64 r_11.1, .int .i64 r_12.1, .int .i64 r_7.1, .int .i64 r_9.1, .int .i64 r_13.1, .int .i64 r_10.1, .sl (b_22.map A_api_Load) (some 0)], [.int .i64 r_27.1, .int .i64 r_29.1.Lo, .int .i64 r_29.1.Hi, .int .i64 r_31.1.Lo, .int .i64 r_31.1.Hi, .int .i64 r_32.1, .int .i64 0]] [(b_22.length, 7)] (by simp) (by simp) ⟨rfl, rfl, rfl, rfl, rfl, rfl, trivial⟩ (by simp [re, re1, AV.clean, List.idxOf?, List.findIdx?, List.findIdx?.go, cleanL, cleanI, cleanBo, cleanSt, cleanII, KL_bateriakit_Drum, KL_api_Span, KL_api_Load, KL_api_Float, KB_bateriakit_Drum, KB_api_Span, KB_api_Load, KB_api_Float]) rfl (by decide), (r_32.1 == 3), h, rfl, rfl⟩
          · rintro a S ⟨y_38, h, rfl, rfl⟩
            subst hK_41
            rcases condI h with ⟨hc_43, h⟩ | ⟨hc_43, h⟩
            · refine Ex.condT _ rfl hc_43 ?_
              obtain ⟨r_44, hr_44, h⟩ := Option.bind_eq_some_iff.1 h
              refine Ex.reg ?_
              refine runH 1 [] [0, 4, 5, 6, 7, 81] [] (mkS 91 [(0, .ptr 0 0), (4, .ptr 1 0), (5, .ptr 2 0), (6, .int .i64 i_20), (7, .ptr 3 0), (81, .ptr 0 0)]) (⟨[(C_bateriakit_Drum r_32.2), [.int .i64 0, .int .i64 0, .int .i64 0, .int .i64 0, .int .i64 0, .int .i64 0, .int .i64 0, .int .i64 0, .nils], [.int .i64 r_4.1, .int .i64 r_5.1, .int .i64 r_11.1, .int .i64 r_12.1, .int .i64 r_7.1, .int .i64 r_9.1, .int .i64 r_13.1, .int .i64 r_10.1, .sl (b_22.map A_api_Load) (some 0)], [.int .i64 r_27.1, .int .i64 r_29.1.Lo, .int .i64 r_29.1.Hi, .int .i64 r_31.1.Lo, .int .i64 r_31.1.Hi, .int .i64 r_32.1, .int .i64 0]], [(b_22.length, 7)]⟩) (by kernel_rfl) trivial ?_
              refine ExO.callL [0] [.ptr 0 0, .int .i64 3000] rfl rfl (by simp [ren, ren1, fadeS, fadeV, AV.plain, AV.plain1, AV.clean, List.idxOf?, List.findIdx?, List.findIdx?.go, cleanL, cleanI, cleanBo, cleanSt, cleanII, KL_bateriakit_Drum, KL_api_Span, KL_api_Load, KL_api_Float, A_bateriakit_Drum, C_bateriakit_Drum, A_api_Span, C_api_Span, A_api_Load, C_api_Load, A_api_Float, C_api_Float]; try rfl) rfl (by simp [cleanL, AV.clean, cleanL, cleanI, cleanBo, cleanSt, cleanII, KL_bateriakit_Drum, KL_api_Span, KL_api_Load, KL_api_Float, A_bateriakit_Drum, C_bateriakit_Drum, A_api_Span, C_api_Span, A_api_Load, C_api_Load, A_api_Float, C_api_Float]) (d_bateriakit_Drum_Roll N r_32.2 3000 r_44 hr_44) (b_bateriakit_Drum_Roll _ _ _ _) (by simp [cleanL, AV.clean, cleanL, cleanI, cleanBo, cleanSt, cleanII, KL_bateriakit_Drum, KL_api_Span, KL_api_Load, KL_api_Float, A_bateriakit_Drum, C_bateriakit_Drum, A_api_Span, C_api_Span, A_api_Load, C_api_Load, A_api_Float, C_api_Float]) ?_
              refine runH 2 [] [0, 4, 5, 6, 7] [] (mkS 91 [(0, .ptr 0 0), (4, .ptr 1 0), (5, .ptr 2 0), (6, .int .i64 i_20), (7, .ptr 3 0)]) (⟨[(C_bateriakit_Drum r_44.2), [.int .i64 0, .int .i64 0, .int .i64 0, .int .i64 0, .int .i64 0, .int .i64 0, .int .i64 0, .int .i64 0, .nils], [.int .i64 r_4.1, .int .i64 r_5.1, .int .i64 r_11.1, .int .i64 r_12.1, .int .i64 r_7.1, .int .i64 r_9.1, .int .i64 r_13.1, .int .i64 r_10.1, .sl (b_22.map A_api_Load) (some 0)], [.int .i64 r_27.1, .int .i64 r_29.1.Lo, .int .i64 r_29.1.Hi, .int .i64 r_31.1.Lo, .int .i64 r_31.1.Hi, .int .i64 r_32.1, .int .i64 r_44.1]], [(b_22.length, 7)]⟩) (by kernel_rfl) trivial ?_
              refine ExO.nil ?_
              (try simp only [reduceCtorEq, AEx.ex.injEq, Nat.reduceEqDiff, if_true, if_false])
              exact ⟨_, _, Forgets.refl _ _ _, r_44.2.beat_, r_44.1, h, rfl, rfl⟩
            · refine Ex.condF _ rfl hc_43 ?_
              refine Ex.skip ?_
              (try simp only [reduceCtorEq, AEx.ex.injEq, Nat.reduceEqDiff, if_true, if_false])
              exact ⟨_, _, forgetK [0, 4, 5, 6, 7], r_32.2.beat_, 0, h, rfl, rfl⟩
        · rintro a S ⟨b_33, b_34, h, rfl, rfl⟩
          subst hK_37
          obtain ⟨l_45, hl_45, h⟩ := Option.bind_eq_some_iff.1 h
          refine regH 7 [(4, .app (l_45.map A_api_Load) l_45.length)] [0, 4, 5, 6] [LApp b_22.length (b_22.map A_api_Load) (([(⟨r_27.1, r_29.1, r_31.1, r_32.1, b_34⟩ : T_api_Load)] : List T_api_Load).map A_api_Load) 7 (l_45.map A_api_Load) l_45.length] (mkS 91 [(0, .ptr 0 0), (4, .ptr 1 0), (5, .ptr 2 0), (6, .int .i64 i_20)]) (⟨[[.int .u64 b_33], [.int .i64 0, .int .i64 0, .int .i64 0, .int .i64 0, .int .i64 0, .int .i64 0, .int .i64 0, .int .i64 0, .nils], [.int .i64 r_4.1, .int .i64 r_5.1, .int .i64 r_11.1, .int .i64 r_12.1, .int .i64 r_7.1, .int .i64 r_9.1, .int .i64 r_13.1, .int .i64 r_10.1, .sl (l_45.map A_api_Load) (some 0)], [.int .i64 r_27.1, .int .i64 r_29.1.Lo, .int .i64 r_29.1.Hi, .int .i64 r_31.1.Lo, .int .i64 r_31.1.Hi, .int .i64 r_32.1, .int .i64 b_34]], [(l_45.length, 7), (1, 7)]⟩) (by kernel_rfl) ⟨LApp.of hl_45 (fun _ => rfl), trivial⟩ rfl ?_
          refine regH 3 [] [0, 4, 5, 6] [] (mkS 91 [(0, .ptr 0 0), (4, .ptr 1 0), (5, .ptr 2 0), (6, .int .i64 (IntKind.i64.wrap (i_20 - 1)))]) (⟨[[.int .u64 b_33], [.int .i64 0, .int .i64 0, .int .i64 0, .int .i64 0, .int .i64 0, .int .i64 0, .int .i64 0, .int .i64 0, .nils], [.int .i64 r_4.1, .int .i64 r_5.1, .int .i64 r_11.1, .int .i64 r_12.1, .int .i64 r_7.1, .int .i64 r_9.1, .int .i64 r_13.1, .int .i64 r_10.1, .sl (l_45.map A_api_Load) (some 0)], [.int .i64 r_27.1, .int .i64 r_29.1.Lo, .int .i64 r_29.1.Hi, .int .i64 r_31.1.Lo, .int .i64 r_31.1.Hi, .int .i64 r_32.1, .int .i64 b_34]], [(l_45.length, 7), (1, 7)]⟩) (by kernel_rfl) trivial rfl ?_
          dsimp only
          exact ⟨_, _, forgetA (m := 91) 3 [0] [(0, .ptr 0 0), (4, .ptr 1 0), (5, .ptr 2 0), (6, .int .i64 (IntKind.i64.wrap (i_20 - 1)))] [[.int .u64 b_33], [.int .i64 0, .int .i64 0, .int .i64 0, .int .i64 0, .int .i64 0, .int .i64 0, .int .i64 0, .int .i64 0, .nils], [.int .i64 r_4.1, .int .i64 r_5.1, .int .i64 r_11.1, .int .i64 r_12.1, .int .i64 r_7.1, .int .i64 r_9.1, .int .i64 r_13.1, .int .i64 r_10.1, .sl (l_45.map A_api_Load) (some 0)]] [(l_45.length, 7)] (by simp) (by simp) ⟨rfl, rfl, rfl, rfl, trivial⟩ (by simp [re, re1, AV.clean, List.idxOf?, List.findIdx?, List.findIdx?.go, cleanL, cleanI, cleanBo, cleanSt, cleanII, KL_bateriakit_Drum, KL_api_Span, KL_api_Load, KL_api_Float, KB_bateriakit_Drum, KB_api_Span, KB_api_Load, KB_api_Float]) rfl (by decide), k, Nat.lt_succ_self k, (IntKind.i64.wrap (i_20 - 1)), b_33, l_45, h, rfl, rfl⟩
      · refine Ex.condF _ rfl hc_26 ?_
        refine Ex.exit ?_
        (try simp only [reduceCtorEq, AEx.ex.injEq, Nat.reduceEqDiff, if_true, if_false])
        exact ⟨_, _, forgetK [4, 5], b_21, b_22, h, rfl, rfl⟩
  · rintro a S ⟨b_15, b_16, h, rfl, rfl⟩
    subst hK_19
    refine Ex.seq ?_
    refine regH 2 [] [4] [] (mkS 91 [(4, .ptr 1 0)]) (⟨[[.int .u64 b_15], [.int .i64 r_4.1, .int .i64 r_5.1, .int .i64 r_11.1, .int .i64 r_12.1, .int .i64 r_7.1, .int .i64 r_9.1, .int .i64 r_13.1, .int .i64 r_10.1, .sl (b_16.map A_api_Load) (some 0)], [.int .i64 r_4.1, .int .i64 r_5.1, .int .i64 r_11.1, .int .i64 r_12.1, .int .i64 r_7.1, .int .i64 r_9.1, .int .i64 r_13.1, .int .i64 r_10.1, .sl (b_16.map A_api_Load) (some 0)]], [(b_16.length, 7)]⟩) (by kernel_rfl) trivial rfl ?_
    refine Ex.ret ?_
    obtain rfl := Option.some.inj h
    exact ⟨.inr rfl, .agg [.int .i64 r_4.1, .int .i64 r_5.1, .int .i64 r_11.1, .int .i64 r_12.1, .int .i64 r_7.1, .int .i64 r_9.1, .int .i64 r_13.1, .int .i64 r_10.1, .sl (b_16.map A_api_Load) (some 0)], by kernel_rfl, by kernel_rfl, by kernel_rfl, by kernel_rfl⟩
def p_bateriaref02_within (N : Nat) (n_1 : Int) (low_2 : Int) (high_3 : Int) : Option (Bool) := (bif (decide (n_1 ≥ low_2)) then some (decide (n_1 ≤ high_3)) else some false)
def v_bateriaref02_within (r : Bool) : AV := .bool r
theorem a_bateriaref02_within (n_1 : Int) (low_2 : Int) (high_3 : Int) : [.int .i64 n_1, .int .i64 low_2, .int .i64 high_3].mapM (ren []) = some [.int .i64 n_1, .int .i64 low_2, .int .i64 high_3] := by simp [ren, ren1, AV.plain, AV.plain1, AV.clean, cleanL, cleanI, cleanBo, cleanSt, cleanII, KL_bateriakit_Drum, KL_api_Span, KL_api_Load, KL_api_Float, A_bateriakit_Drum, C_bateriakit_Drum, A_api_Span, C_api_Span, A_api_Load, C_api_Load, A_api_Float, C_api_Float]
theorem b_bateriaref02_within (r : Bool) (n n2 m : Nat) : back n n2 m (v_bateriaref02_within r) = some (v_bateriaref02_within r) := by simp [v_bateriaref02_within, back, back1, AV.plain, AV.plain1, AV.clean, cleanL, cleanI, cleanBo, cleanSt, cleanII, KL_bateriakit_Drum, KL_api_Span, KL_api_Load, KL_api_Float, A_bateriakit_Drum, C_bateriakit_Drum, A_api_Span, C_api_Span, A_api_Load, C_api_Load, A_api_Float, C_api_Float]
theorem d_bateriaref02_within (N : Nat) (n_1 : Int) (low_2 : Int) (high_3 : Int) (r : Bool) (h : p_bateriaref02_within N n_1 low_2 high_3 = some r) : Does Try.prog 85 [.int .i64 n_1, .int .i64 low_2, .int .i64 high_3] [] fun v c => v = v_bateriaref02_within r ∧ c = [] := by
  unfold p_bateriaref02_within at h
  refine Does.ofL comp85 _ _ rfl rfl ?_
  refine Ex.seq ?_
  refine regH 1 [] [0, 1, 2] [] (mkS 15 [(0, .int .i64 n_1), (1, .int .i64 low_2), (2, .int .i64 high_3)]) (⟨[], []⟩) (by kernel_rfl) trivial rfl ?_
  refine Ex.seq ?_
  rcases condI h with ⟨hc_4, h⟩ | ⟨hc_4, h⟩
  · refine regH 9 [(3, .eq (.bool true))] [6] [AV.bool (decide (n_1 ≥ low_2)) = AV.bool true] (mkS 15 [(6, .bool (decide (n_1 ≤ high_3)))]) (⟨[], []⟩) (by kernel_rfl) ⟨congrArg AV.bool hc_4, trivial⟩ rfl ?_
    refine Ex.ret ?_
    obtain rfl := Option.some.inj h
    exact ⟨.inr rfl, .bool (decide (n_1 ≤ high_3)), by kernel_rfl, by kernel_rfl, by kernel_rfl, by kernel_rfl⟩
  · refine regH 9 [(3, .eq (.bool false))] [6] [AV.bool (decide (n_1 ≥ low_2)) = AV.bool false] (mkS 15 [(6, .bool false)]) (⟨[], []⟩) (by kernel_rfl) ⟨congrArg AV.bool hc_4, trivial⟩ rfl ?_
    refine Ex.ret ?_
    obtain rfl := Option.some.inj h
    exact ⟨.inr rfl, .bool false, by kernel_rfl, by kernel_rfl, by kernel_rfl, by kernel_rfl⟩
def p_bateriaref02_checkSpan (N : Nat) (x_1 : T_api_Span) (limit_2 : Int) : Option (Int) := (letJ (fun (y_3 : Bool) => (bif y_3 then some 2 else (bif (decide (x_1.Lo > x_1.Hi)) then some 9 else some 0))) (fun k_4 => ((p_bateriaref02_within N x_1.Lo 0 limit_2).bind fun r_7 => (bif (!r_7) then (k_4 true) else ((p_bateriaref02_within N x_1.Hi 0 limit_2).bind fun r_9 => (k_4 (!r_9)))))))
def v_bateriaref02_checkSpan (r : Int) : AV := .int .i64 r
theorem a_bateriaref02_checkSpan (x_1 : T_api_Span) (limit_2 : Int) : [(A_api_Span x_1), .int .i64 limit_2].mapM (ren []) = some [(A_api_Span x_1), .int .i64 limit_2] := by simp [ren, ren1, AV.plain, AV.plain1, AV.clean, cleanL, cleanI, cleanBo, cleanSt, cleanII, KL_bateriakit_Drum, KL_api_Span, KL_api_Load, KL_api_Float, A_bateriakit_Drum, C_bateriakit_Drum, A_api_Span, C_api_Span, A_api_Load, C_api_Load, A_api_Float, C_api_Float]
theorem b_bateriaref02_checkSpan (r : Int) (n n2 m : Nat) : back n n2 m (v_bateriaref02_checkSpan r) = some (v_bateriaref02_checkSpan r) := by simp [v_bateriaref02_checkSpan, back, back1, AV.plain, AV.plain1, AV.clean, cleanL, cleanI, cleanBo, cleanSt, cleanII, KL_bateriakit_Drum, KL_api_Span, KL_api_Load, KL_api_Float, A_bateriakit_Drum, C_bateriakit_Drum, A_api_Span, C_api_Span, A_api_Load, C_api_Load, A_api_Float, C_api_Float]
theorem d_bateriaref02_checkSpan (N : Nat) (x_1 : T_api_Span) (limit_2 : Int) (r : Int) (h : p_bateriaref02_checkSpan N x_1 limit_2 = some r) : Does Try.prog 107 [(A_api_Span x_1), .int .i64 limit_2] [] fun v c => v = v_bateriaref02_checkSpan r ∧ c = [] := by
  unfold p_bateriaref02_checkSpan at h
  refine Does.ofL comp107 _ _ rfl rfl ?_
  refine Ex.seq ?_
  refine regH 2 [] [1, 2] [] (mkS 22 [(1, .int .i64 limit_2), (2, .ptr 0 0)]) (⟨[(C_api_Span x_1)], []⟩) (by kernel_rfl) trivial rfl ?_
  refine Ex.seq ?_
  obtain ⟨K_5, hK_6, h⟩ := letE h
  refine Ex.seqJ (fun a S => ∃ (y_3 : Bool), K_5 y_3 = some r ∧ a = mkS 22 [(2, .ptr 0 0), (16, .bool y_3)] ∧ S = ⟨[(C_api_Span x_1)], []⟩) ?_ ?_
  · obtain ⟨r_7, hr_7, h⟩ := Option.bind_eq_some_iff.1 h
    refine Ex.reg ?_
    refine runH 3 [] [1, 2, 6, 7] [] (mkS 22 [(1, .int .i64 limit_2), (2, .ptr 0 0), (6, .int .i64 x_1.Lo), (7, .int .i64 limit_2)]) (⟨[(C_api_Span x_1)], []⟩) (by kernel_rfl) trivial ?_
    refine ExO.callL [] [.int .i64 x_1.Lo, .int .i64 0, .int .i64 limit_2] rfl rfl (a_bateriaref02_within x_1.Lo 0 limit_2) rfl rfl (d_bateriaref02_within N x_1.Lo 0 limit_2 r_7 hr_7) (b_bateriaref02_within _ _ _ _) rfl ?_
    rcases condI h with ⟨hc_8, h⟩ | ⟨hc_8, h⟩
    · refine runH 8 [(1, .eq (.bool true))] [2, 16] [AV.bool (!r_7) = AV.bool true] (mkS 22 [(2, .ptr 0 0), (16, .bool true)]) (⟨[(C_api_Span x_1)], []⟩) (by kernel_rfl) ⟨congrArg AV.bool hc_8, trivial⟩ ?_
      refine ExO.nil ?_
      (try simp only [reduceCtorEq, AEx.ex.injEq, Nat.reduceEqDiff, if_true, if_false])
      exact ⟨_, _, Forgets.refl _ _ _, true, h, rfl, rfl⟩
    · obtain ⟨r_9, hr_9, h⟩ := Option.bind_eq_some_iff.1 h
      refine runH 5 [(1, .eq (.bool false))] [2, 10, 12, 13] [AV.bool (!r_7) = AV.bool false] (mkS 22 [(2, .ptr 0 0), (10, .bool false), (12, .int .i64 x_1.Hi), (13, .int .i64 limit_2)]) (⟨[(C_api_Span x_1)], []⟩) (by kernel_rfl) ⟨congrArg AV.bool hc_8, trivial⟩ ?_
      refine ExO.callL [] [.int .i64 x_1.Hi, .int .i64 0, .int .i64 limit_2] rfl rfl (a_bateriaref02_within x_1.Hi 0 limit_2) rfl rfl (d_bateriaref02_within N x_1.Hi 0 limit_2 r_9 hr_9) (b_bateriaref02_within _ _ _ _) rfl ?_
      refine runH 2 [] [2, 16] [] (mkS 22 [(2, .ptr 0 0), (16, .bool (!r_9))]) (⟨[(C_api_Span x_1)], []⟩) (by kernel_rfl) trivial ?_
      refine ExO.nil ?_
      (try simp only [reduceCtorEq, AEx.ex.injEq, Nat.reduceEqDiff, if_true, if_false])
      exact ⟨_, _, Forgets.refl _ _ _, (!r_9), h, rfl, rfl⟩
  · rintro a S ⟨y_3, h, rfl, rfl⟩
    subst hK_6
    rcases condI h with ⟨hc_10, h⟩ | ⟨hc_10, h⟩
    · refine Ex.condT _ rfl hc_10 ?_
      refine Ex.seq ?_
      refine regH 1 [] [4] [] (mkS 22 [(4, .int .i64 2)]) (⟨[(C_api_Span x_1)], []⟩) (by kernel_rfl) trivial rfl ?_
      refine Ex.ret ?_
      obtain rfl := Option.some.inj h
      exact ⟨.inr rfl, .int .i64 2, by kernel_rfl, by kernel_rfl, by kernel_rfl, by kernel_rfl⟩
    · refine Ex.condF _ rfl hc_10 ?_
      refine Ex.skip ?_
      refine Ex.seq ?_
      refine Ex.seq ?_
      refine regH 5 [] [21] [] (mkS 22 [(21, .bool (decide (x_1.Lo > x_1.Hi)))]) (⟨[(C_api_Span x_1)], []⟩) (by kernel_rfl) trivial rfl ?_
      rcases condI h with ⟨hc_11, h⟩ | ⟨hc_11, h⟩
      · refine Ex.condT _ rfl hc_11 ?_
        refine Ex.seq ?_
        refine regH 1 [] [4] [] (mkS 22 [(4, .int .i64 9)]) (⟨[(C_api_Span x_1)], []⟩) (by kernel_rfl) trivial rfl ?_
        refine Ex.ret ?_
        obtain rfl := Option.some.inj h
        exact ⟨.inr rfl, .int .i64 9, by kernel_rfl, by kernel_rfl, by kernel_rfl, by kernel_rfl⟩
      · refine Ex.condF _ rfl hc_11 ?_
        refine Ex.skip ?_
        refine Ex.seq ?_
        refine regH 1 [] [4] [] (mkS 22 [(4, .int .i64 0)]) (⟨[(C_api_Span x_1)], []⟩) (by kernel_rfl) trivial rfl ?_
        refine Ex.ret ?_
        obtain rfl := Option.some.inj h
        exact ⟨.inr rfl, .int .i64 0, by kernel_rfl, by kernel_rfl, by kernel_rfl, by kernel_rfl⟩
def p_bateriaref02_checkLoad (N : Nat) (f_1 : T_api_Float) (l_2 : T_api_Load) : Option (Int) := ((p_bateriaref02_within N l_2.At f_1.Front f_1.Rear).bind fun r_3 => (bif (!r_3) then some 2 else ((p_bateriaref02_checkSpan N l_2.Kilos 100000).bind fun r_5 => (bif (r_5 != 0) then some r_5 else ((p_bateriaref02_checkSpan N l_2.Top 2000).bind fun r_7 => (bif (r_7 != 0) then some r_7 else ((p_bateriaref02_within N l_2.Kind 1 4).bind fun r_9 => (bif (!r_9) then some 3 else ((p_bateriaref02_within N l_2.Watts 0 1000000).bind fun r_11 => (bif (!r_11) then some 2 else (letJ (fun (y_13 : Bool) => (bif y_13 then some 1 else some 0)) (fun k_14 => (bif (decide (l_2.Watts > 0)) then (bif (l_2.Kind != 2) then (k_14 (l_2.Kind != 3)) else (k_14 false)) else (k_14 false))))))))))))))
def v_bateriaref02_checkLoad (r : Int) : AV := .int .i64 r
theorem a_bateriaref02_checkLoad (f_1 : T_api_Float) (l_2 : T_api_Load) : [(A_api_Float f_1), (A_api_Load l_2)].mapM (ren []) = some [(A_api_Float f_1), (A_api_Load l_2)] := by simp [ren, ren1, AV.plain, AV.plain1, AV.clean, cleanL, cleanI, cleanBo, cleanSt, cleanII, KL_bateriakit_Drum, KL_api_Span, KL_api_Load, KL_api_Float, A_bateriakit_Drum, C_bateriakit_Drum, A_api_Span, C_api_Span, A_api_Load, C_api_Load, A_api_Float, C_api_Float]
theorem b_bateriaref02_checkLoad (r : Int) (n n2 m : Nat) : back n n2 m (v_bateriaref02_checkLoad r) = some (v_bateriaref02_checkLoad r) := by simp [v_bateriaref02_checkLoad, back, back1, AV.plain, AV.plain1, AV.clean, cleanL, cleanI, cleanBo, cleanSt, cleanII, KL_bateriakit_Drum, KL_api_Span, KL_api_Load, KL_api_Float, A_bateriakit_Drum, C_bateriakit_Drum, A_api_Span, C_api_Span, A_api_Load, C_api_Load, A_api_Float, C_api_Float]
theorem d_bateriaref02_checkLoad (N : Nat) (f_1 : T_api_Float) (l_2 : T_api_Load) (r : Int) (h : p_bateriaref02_checkLoad N f_1 l_2 = some r) : Does Try.prog 92 [(A_api_Float f_1), (A_api_Load l_2)] [] fun v c => v = v_bateriaref02_checkLoad r ∧ c = [] := by
  unfold p_bateriaref02_checkLoad at h
  refine Does.ofL comp92 _ _ rfl rfl ?_
  refine Ex.seq ?_
  refine regH 3 [] [2, 3] [] (mkS 48 [(2, .ptr 0 0), (3, .ptr 1 0)]) (⟨[(C_api_Float f_1), (C_api_Load l_2)], []⟩) (by kernel_rfl) trivial rfl ?_
  refine Ex.seq ?_
  refine Ex.seq ?_
  obtain ⟨r_3, hr_3, h⟩ := Option.bind_eq_some_iff.1 h
  refine Ex.reg ?_
  refine runH 6 [] [3, 8, 10, 12] [] (mkS 48 [(3, .ptr 1 0), (8, .int .i64 l_2.At), (10, .int .i64 f_1.Front), (12, .int .i64 f_1.Rear)]) (⟨[(C_api_Float f_1), (C_api_Load l_2)], []⟩) (by kernel_rfl) trivial ?_
  refine ExO.callL [] [.int .i64 l_2.At, .int .i64 f_1.Front, .int .i64 f_1.Rear] rfl rfl (a_bateriaref02_within l_2.At f_1.Front f_1.Rear) rfl rfl (d_bateriaref02_within N l_2.At f_1.Front f_1.Rear r_3 hr_3) (b_bateriaref02_within _ _ _ _) rfl ?_
  refine runH 1 [] [3, 14] [] (mkS 48 [(3, .ptr 1 0), (14, .bool (!r_3))]) (⟨[(C_api_Float f_1), (C_api_Load l_2)], []⟩) (by kernel_rfl) trivial ?_
  refine ExO.nil ?_
  rcases condI h with ⟨hc_4, h⟩ | ⟨hc_4, h⟩
  · refine Ex.condT _ rfl hc_4 ?_
    refine Ex.seq ?_
    refine regH 1 [] [4] [] (mkS 48 [(4, .int .i64 2)]) (⟨[(C_api_Float f_1), (C_api_Load l_2)], []⟩) (by kernel_rfl) trivial rfl ?_
    refine Ex.ret ?_
    obtain rfl := Option.some.inj h
    exact ⟨.inr rfl, .int .i64 2, by kernel_rfl, by kernel_rfl, by kernel_rfl, by kernel_rfl⟩
  · refine Ex.condF _ rfl hc_4 ?_
    refine Ex.skip ?_
    refine Ex.seq ?_
    refine Ex.seq ?_
    obtain ⟨r_5, hr_5, h⟩ := Option.bind_eq_some_iff.1 h
    refine Ex.reg ?_
    refine runH 2 [] [3, 16] [] (mkS 48 [(3, .ptr 1 0), (16, (A_api_Span l_2.Kilos))]) (⟨[(C_api_Float f_1), (C_api_Load l_2)], []⟩) (by kernel_rfl) trivial ?_
    refine ExO.callL [] [(A_api_Span l_2.Kilos), .int .i64 100000] rfl rfl (a_bateriaref02_checkSpan l_2.Kilos 100000) rfl rfl (d_bateriaref02_checkSpan N l_2.Kilos 100000 r_5 hr_5) (b_bateriaref02_checkSpan _ _ _ _) rfl ?_
    refine runH 1 [] [3, 5] [] (mkS 48 [(3, .ptr 1 0), (5, .int .i64 r_5)]) (⟨[(C_api_Float f_1), (C_api_Load l_2)], []⟩) (by kernel_rfl) trivial ?_
    refine ExO.nil ?_
    refine Ex.seq ?_
    refine regH 2 [] [3, 5, 19] [] (mkS 48 [(3, .ptr 1 0), (5, .int .i64 r_5), (19, .bool (r_5 != 0))]) (⟨[(C_api_Float f_1), (C_api_Load l_2)], []⟩) (by kernel_rfl) trivial rfl ?_
    rcases condI h with ⟨hc_6, h⟩ | ⟨hc_6, h⟩
    · refine Ex.condT _ rfl hc_6 ?_
      refine Ex.seq ?_
      refine regH 2 [] [4] [] (mkS 48 [(4, .int .i64 r_5)]) (⟨[(C_api_Float f_1), (C_api_Load l_2)], []⟩) (by kernel_rfl) trivial rfl ?_
      refine Ex.ret ?_
      obtain rfl := Option.some.inj h
      exact ⟨.inr rfl, .int .i64 r_5, by kernel_rfl, by kernel_rfl, by kernel_rfl, by kernel_rfl⟩
    · refine Ex.condF _ rfl hc_6 ?_
      refine Ex.skip ?_
      refine Ex.seq ?_
      refine Ex.seq ?_
      obtain ⟨r_7, hr_7, h⟩ := Option.bind_eq_some_iff.1 h
      refine Ex.reg ?_
      refine runH 2 [] [3, 22] [] (mkS 48 [(3, .ptr 1 0), (22, (A_api_Span l_2.Top))]) (⟨[(C_api_Float f_1), (C_api_Load l_2)], []⟩) (by kernel_rfl) trivial ?_
      refine ExO.callL [] [(A_api_Span l_2.Top), .int .i64 2000] rfl rfl (a_bateriaref02_checkSpan l_2.Top 2000) rfl rfl (d_bateriaref02_checkSpan N l_2.Top 2000 r_7 hr_7) (b_bateriaref02_checkSpan _ _ _ _) rfl ?_
      refine runH 1 [] [3, 6] [] (mkS 48 [(3, .ptr 1 0), (6, .int .i64 r_7)]) (⟨[(C_api_Float f_1), (C_api_Load l_2)], []⟩) (by kernel_rfl) trivial ?_
      refine ExO.nil ?_
      refine Ex.seq ?_
      refine regH 2 [] [3, 6, 25] [] (mkS 48 [(3, .ptr 1 0), (6, .int .i64 r_7), (25, .bool (r_7 != 0))]) (⟨[(C_api_Float f_1), (C_api_Load l_2)], []⟩) (by kernel_rfl) trivial rfl ?_
      rcases condI h with ⟨hc_8, h⟩ | ⟨hc_8, h⟩
      · refine Ex.condT _ rfl hc_8 ?_
        refine Ex.seq ?_
        refine regH 2 [] [4] [] (mkS 48 [(4, .int .i64 r_7)]) (⟨[(C_api_Float f_1), (C_api_Load l_2)], []⟩) (by kernel_rfl) trivial rfl ?_
        refine Ex.ret ?_
        obtain rfl := Option.some.inj h
        exact ⟨.inr rfl, .int .i64 r_7, by kernel_rfl, by kernel_rfl, by kernel_rfl, by kernel_rfl⟩
      · refine Ex.condF _ rfl hc_8 ?_
        refine Ex.skip ?_
        refine Ex.seq ?_
        refine Ex.seq ?_
        obtain ⟨r_9, hr_9, h⟩ := Option.bind_eq_some_iff.1 h
        refine Ex.reg ?_
        refine runH 2 [] [3, 28] [] (mkS 48 [(3, .ptr 1 0), (28, .int .i64 l_2.Kind)]) (⟨[(C_api_Float f_1), (C_api_Load l_2)], []⟩) (by kernel_rfl) trivial ?_
        refine ExO.callL [] [.int .i64 l_2.Kind, .int .i64 1, .int .i64 4] rfl rfl (a_bateriaref02_within l_2.Kind 1 4) rfl rfl (d_bateriaref02_within N l_2.Kind 1 4 r_9 hr_9) (b_bateriaref02_within _ _ _ _) rfl ?_
        refine runH 1 [] [3, 30] [] (mkS 48 [(3, .ptr 1 0), (30, .bool (!r_9))]) (⟨[(C_api_Float f_1), (C_api_Load l_2)], []⟩) (by kernel_rfl) trivial ?_
        refine ExO.nil ?_
        rcases condI h with ⟨hc_10, h⟩ | ⟨hc_10, h⟩
        · refine Ex.condT _ rfl hc_10 ?_
          refine Ex.seq ?_
          refine regH 1 [] [4] [] (mkS 48 [(4, .int .i64 3)]) (⟨[(C_api_Float f_1), (C_api_Load l_2)], []⟩) (by kernel_rfl) trivial rfl ?_
          refine Ex.ret ?_
          obtain rfl := Option.some.inj h
          exact ⟨.inr rfl, .int .i64 3, by kernel_rfl, by kernel_rfl, by kernel_rfl, by kernel_rfl⟩
        · refine Ex.condF _ rfl hc_10 ?_
          refine Ex.skip ?_
          refine Ex.seq ?_
          refine Ex.seq ?_
          obtain ⟨r_11, hr_11, h⟩ := Option.bind_eq_some_iff.1 h
          refine Ex.reg ?_
          refine runH 2 [] [3, 32] [] (mkS 48 [(3, .ptr 1 0), (32, .int .i64 l_2.Watts)]) (⟨[(C_api_Float f_1), (C_api_Load l_2)], []⟩) (by kernel_rfl) trivial ?_
          refine ExO.callL [] [.int .i64 l_2.Watts, .int .i64 0, .int .i64 1000000] rfl rfl (a_bateriaref02_within l_2.Watts 0 1000000) rfl rfl (d_bateriaref02_within N l_2.Watts 0 1000000 r_11 hr_11) (b_bateriaref02_within _ _ _ _) rfl ?_
          refine runH 1 [] [3, 34] [] (mkS 48 [(3, .ptr 1 0), (34, .bool (!r_11))]) (⟨[(C_api_Float f_1), (C_api_Load l_2)], []⟩) (by kernel_rfl) trivial ?_
          refine ExO.nil ?_
          rcases condI h with ⟨hc_12, h⟩ | ⟨hc_12, h⟩
          · refine Ex.condT _ rfl hc_12 ?_
            refine Ex.seq ?_
            refine regH 1 [] [4] [] (mkS 48 [(4, .int .i64 2)]) (⟨[(C_api_Float f_1), (C_api_Load l_2)], []⟩) (by kernel_rfl) trivial rfl ?_
            refine Ex.ret ?_
            obtain rfl := Option.some.inj h
            exact ⟨.inr rfl, .int .i64 2, by kernel_rfl, by kernel_rfl, by kernel_rfl, by kernel_rfl⟩
          · refine Ex.condF _ rfl hc_12 ?_
            refine Ex.skip ?_
            refine Ex.seq ?_
            obtain ⟨K_15, hK_16, h⟩ := letE h
            refine Ex.seqJ (fun a S => ∃ (y_13 : Bool), K_15 y_13 = some r ∧ a = mkS 48 [(47, .bool y_13)] ∧ S = ⟨[], []⟩) ?_ ?_
            · rcases condI h with ⟨hc_17, h⟩ | ⟨hc_17, h⟩
              · rcases condI h with ⟨hc_18, h⟩ | ⟨hc_18, h⟩
                · refine regH 13 [(3, .eq (.bool true)), (8, .eq (.bool true))] [47] [AV.bool (decide (l_2.Watts > 0)) = AV.bool true, AV.bool (l_2.Kind != 2) = AV.bool true] (mkS 48 [(47, .bool (l_2.Kind != 3))]) (⟨[(C_api_Float f_1), (C_api_Load l_2)], []⟩) (by kernel_rfl) ⟨congrArg AV.bool hc_17, congrArg AV.bool hc_18, trivial⟩ rfl ?_
                  (try simp only [reduceCtorEq, AEx.ex.injEq, Nat.reduceEqDiff, if_true, if_false])
                  exact ⟨_, _, forgetA (m := 48) 0 [] [(47, .bool (l_2.Kind != 3))] [] [] (by simp) (by simp) ⟨rfl, trivial⟩ (by simp [re, re1, AV.clean, List.idxOf?, List.findIdx?, List.findIdx?.go, cleanL, cleanI, cleanBo, cleanSt, cleanII, KL_bateriakit_Drum, KL_api_Span, KL_api_Load, KL_api_Float, KB_bateriakit_Drum, KB_api_Span, KB_api_Load, KB_api_Float]) rfl (by decide), (l_2.Kind != 3), h, rfl, rfl⟩
                · refine regH 13 [(3, .eq (.bool true)), (8, .eq (.bool false))] [47] [AV.bool (decide (l_2.Watts > 0)) = AV.bool true, AV.bool (l_2.Kind != 2) = AV.bool false] (mkS 48 [(47, .bool false)]) (⟨[(C_api_Float f_1), (C_api_Load l_2)], []⟩) (by kernel_rfl) ⟨congrArg AV.bool hc_17, congrArg AV.bool hc_18, trivial⟩ rfl ?_
                  (try simp only [reduceCtorEq, AEx.ex.injEq, Nat.reduceEqDiff, if_true, if_false])
                  exact ⟨_, _, forgetA (m := 48) 0 [] [(47, .bool false)] [] [] (by simp) (by simp) ⟨rfl, trivial⟩ (by simp [re, re1, AV.clean, List.idxOf?, List.findIdx?, List.findIdx?.go, cleanL, cleanI, cleanBo, cleanSt, cleanII, KL_bateriakit_Drum, KL_api_Span, KL_api_Load, KL_api_Float, KB_bateriakit_Drum, KB_api_Span, KB_api_Load, KB_api_Float]) rfl (by decide), false, h, rfl, rfl⟩
              · refine regH 13 [(3, .eq (.bool false))] [47] [AV.bool (decide (l_2.Watts > 0)) = AV.bool false] (mkS 48 [(47, .bool false)]) (⟨[(C_api_Float f_1), (C_api_Load l_2)], []⟩) (by kernel_rfl) ⟨congrArg AV.bool hc_17, trivial⟩ rfl ?_
                (try simp only [reduceCtorEq, AEx.ex.injEq, Nat.reduceEqDiff, if_true, if_false])
                exact ⟨_, _, forgetA (m := 48) 0 [] [(47, .bool false)] [] [] (by simp) (by simp) ⟨rfl, trivial⟩ (by simp [re, re1, AV.clean, List.idxOf?, List.findIdx?, List.findIdx?.go, cleanL, cleanI, cleanBo, cleanSt, cleanII, KL_bateriakit_Drum, KL_api_Span, KL_api_Load, KL_api_Float, KB_bateriakit_Drum, KB_api_Span, KB_api_Load, KB_api_Float]) rfl (by decide), false, h, rfl, rfl⟩
            · rintro a S ⟨y_13, h, rfl, rfl⟩
              subst hK_16
              rcases condI h with ⟨hc_19, h⟩ | ⟨hc_19, h⟩
              · refine Ex.condT _ rfl hc_19 ?_
                refine Ex.seq ?_
                refine regH 1 [] [4] [] (mkS 48 [(4, .int .i64 1)]) (⟨[], []⟩) (by kernel_rfl) trivial rfl ?_
                refine Ex.ret ?_
                obtain rfl := Option.some.inj h
                exact ⟨.inr rfl, .int .i64 1, by kernel_rfl, by kernel_rfl, by kernel_rfl, by kernel_rfl⟩
              · refine Ex.condF _ rfl hc_19 ?_
                refine Ex.skip ?_
                refine Ex.seq ?_
                refine regH 1 [] [4] [] (mkS 48 [(4, .int .i64 0)]) (⟨[], []⟩) (by kernel_rfl) trivial rfl ?_
                refine Ex.ret ?_
                obtain rfl := Option.some.inj h
                exact ⟨.inr rfl, .int .i64 0, by kernel_rfl, by kernel_rfl, by kernel_rfl, by kernel_rfl⟩
def p_bateriaref02_Check (N : Nat) (f_1 : T_api_Float) : Option (Int) := (letJ (fun (y_2 : Bool) => (bif y_2 then some 2 else (bif (decide (f_1.Front ≥ f_1.Rear)) then some 9 else (letJ (fun (y_15 : Bool) => (bif y_15 then some 2 else (bif (decide (((f_1.Loads.length : Nat) : Int) > 20)) then some 5 else (letJ (fun (_ : Unit) => some 0) (fun k_28 => (loop1 (fun rec_32 (i_31 : Int) => (bif (decide (i_31 < ((f_1.Loads.length : Nat) : Int))) then ((getI f_1.Loads i_31).bind fun x_36 => ((p_bateriaref02_checkLoad N f_1 x_36).bind fun r_37 => (bif (r_37 != 0) then some r_37 else (rec_32 (IntKind.i64.wrap (i_31 + 1)))))) else (k_28 ()))) N 0)))))) (fun k_16 => ((p_bateriaref02_within N f_1.Turn 0 20000).bind fun r_19 => (bif (!r_19) then (k_16 true) else ((p_bateriaref02_within N f_1.Kilos 0 100000).bind fun r_21 => (bif (!r_21) then (k_16 true) else ((p_bateriaref02_within N f_1.Middle 0 f_1.Length).bind fun r_23 => (bif (!r_23) then (k_16 true) else ((p_bateriaref02_within N f_1.High 0 2000).bind fun r_25 => (k_16 (!r_25)))))))))))))) (fun k_3 => ((p_bateriaref02_within N f_1.Length 1 3000).bind fun r_6 => (bif (!r_6) then (k_3 true) else ((p_bateriaref02_within N f_1.Width 1 1000).bind fun r_8 => (bif (!r_8) then (k_3 true) else ((p_bateriaref02_within N f_1.Front 0 f_1.Length).bind fun r_10 => (bif (!r_10) then (k_3 true) else ((p_bateriaref02_within N f_1.Rear 0 f_1.Length).bind fun r_12 => (k_3 (!r_12)))))))))))
def v_bateriaref02_Check (r : Int) : AV := .int .i64 r
theorem a_bateriaref02_Check (f_1 : T_api_Float) : [(A_api_Float f_1)].mapM (ren []) = some [(A_api_Float f_1)] := by simp [ren, ren1, AV.plain, AV.plain1, AV.clean, cleanL, cleanI, cleanBo, cleanSt, cleanII, KL_bateriakit_Drum, KL_api_Span, KL_api_Load, KL_api_Float, A_bateriakit_Drum, C_bateriakit_Drum, A_api_Span, C_api_Span, A_api_Load, C_api_Load, A_api_Float, C_api_Float]
theorem b_bateriaref02_Check (r : Int) (n n2 m : Nat) : back n n2 m (v_bateriaref02_Check r) = some (v_bateriaref02_Check r) := by simp [v_bateriaref02_Check, back, back1, AV.plain, AV.plain1, AV.clean, cleanL, cleanI, cleanBo, cleanSt, cleanII, KL_bateriakit_Drum, KL_api_Span, KL_api_Load, KL_api_Float, A_bateriakit_Drum, C_bateriakit_Drum, A_api_Span, C_api_Span, A_api_Load, C_api_Load, A_api_Float, C_api_Float]
theorem d_bateriaref02_Check (N : Nat) (f_1 : T_api_Float) (r : Int) (h : p_bateriaref02_Check N f_1 = some r) : Does Try.prog 49 [(A_api_Float f_1)] [] fun v c => v = v_bateriaref02_Check r ∧ c = [] := by
  unfold p_bateriaref02_Check at h
  refine Does.ofL comp49 _ _ rfl rfl ?_
  refine Ex.seq ?_
  refine regH 2 [] [1] [] (mkS 81 [(1, .ptr 0 0)]) (⟨[(C_api_Float f_1)], []⟩) (by kernel_rfl) trivial rfl ?_
  refine Ex.seq ?_
  obtain ⟨K_4, hK_5, h⟩ := letE h
  refine Ex.seqJ (fun a S => ∃ (y_2 : Bool), K_4 y_2 = some r ∧ a = mkS 81 [(1, .ptr 0 0), (30, .bool y_2)] ∧ S = ⟨[(C_api_Float f_1)], []⟩) ?_ ?_
  · obtain ⟨r_6, hr_6, h⟩ := Option.bind_eq_some_iff.1 h
    refine Ex.reg ?_
    refine runH 2 [] [1, 6] [] (mkS 81 [(1, .ptr 0 0), (6, .int .i64 f_1.Length)]) (⟨[(C_api_Float f_1)], []⟩) (by kernel_rfl) trivial ?_
    refine ExO.callL [] [.int .i64 f_1.Length, .int .i64 1, .int .i64 3000] rfl rfl (a_bateriaref02_within f_1.Length 1 3000) rfl rfl (d_bateriaref02_within N f_1.Length 1 3000 r_6 hr_6) (b_bateriaref02_within _ _ _ _) rfl ?_
    rcases condI h with ⟨hc_7, h⟩ | ⟨hc_7, h⟩
    · refine runH 23 [(1, .eq (.bool true))] [1, 30] [AV.bool (!r_6) = AV.bool true] (mkS 81 [(1, .ptr 0 0), (30, .bool true)]) (⟨[(C_api_Float f_1)], []⟩) (by kernel_rfl) ⟨congrArg AV.bool hc_7, trivial⟩ ?_
      refine ExO.nil ?_
      (try simp only [reduceCtorEq, AEx.ex.injEq, Nat.reduceEqDiff, if_true, if_false])
      exact ⟨_, _, Forgets.refl _ _ _, true, h, rfl, rfl⟩
    · obtain ⟨r_8, hr_8, h⟩ := Option.bind_eq_some_iff.1 h
      refine runH 4 [(1, .eq (.bool false))] [1, 9, 11] [AV.bool (!r_6) = AV.bool false] (mkS 81 [(1, .ptr 0 0), (9, .bool false), (11, .int .i64 f_1.Width)]) (⟨[(C_api_Float f_1)], []⟩) (by kernel_rfl) ⟨congrArg AV.bool hc_7, trivial⟩ ?_
      refine ExO.callL [] [.int .i64 f_1.Width, .int .i64 1, .int .i64 1000] rfl rfl (a_bateriaref02_within f_1.Width 1 1000) rfl rfl (d_bateriaref02_within N f_1.Width 1 1000 r_8 hr_8) (b_bateriaref02_within _ _ _ _) rfl ?_
      rcases condI h with ⟨hc_9, h⟩ | ⟨hc_9, h⟩
      · refine runH 18 [(2, .eq (.bool true))] [1, 30] [AV.bool (!r_8) = AV.bool true] (mkS 81 [(1, .ptr 0 0), (30, .bool true)]) (⟨[(C_api_Float f_1)], []⟩) (by kernel_rfl) ⟨congrArg AV.bool hc_9, trivial⟩ ?_
        refine ExO.nil ?_
        (try simp only [reduceCtorEq, AEx.ex.injEq, Nat.reduceEqDiff, if_true, if_false])
        exact ⟨_, _, Forgets.refl _ _ _, true, h, rfl, rfl⟩
      · obtain ⟨r_10, hr_10, h⟩ := Option.bind_eq_some_iff.1 h
        refine runH 7 [(2, .eq (.bool false))] [1, 15, 17, 19] [AV.bool (!r_8) = AV.bool false] (mkS 81 [(1, .ptr 0 0), (15, .bool false), (17, .int .i64 f_1.Front), (19, .int .i64 f_1.Length)]) (⟨[(C_api_Float f_1)], []⟩) (by kernel_rfl) ⟨congrArg AV.bool hc_9, trivial⟩ ?_
        refine ExO.callL [] [.int .i64 f_1.Front, .int .i64 0, .int .i64 f_1.Length] rfl rfl (a_bateriaref02_within f_1.Front 0 f_1.Length) rfl rfl (d_bateriaref02_within N f_1.Front 0 f_1.Length r_10 hr_10) (b_bateriaref02_within _ _ _ _) rfl ?_
        rcases condI h with ⟨hc_11, h⟩ | ⟨hc_11, h⟩
        · refine runH 10 [(2, .eq (.bool true))] [1, 30] [AV.bool (!r_10) = AV.bool true] (mkS 81 [(1, .ptr 0 0), (30, .bool true)]) (⟨[(C_api_Float f_1)], []⟩) (by kernel_rfl) ⟨congrArg AV.bool hc_11, trivial⟩ ?_
          refine ExO.nil ?_
          (try simp only [reduceCtorEq, AEx.ex.injEq, Nat.reduceEqDiff, if_true, if_false])
          exact ⟨_, _, Forgets.refl _ _ _, true, h, rfl, rfl⟩
        · obtain ⟨r_12, hr_12, h⟩ := Option.bind_eq_some_iff.1 h
          refine runH 7 [(2, .eq (.bool false))] [1, 23, 25, 27] [AV.bool (!r_10) = AV.bool false] (mkS 81 [(1, .ptr 0 0), (23, .bool false), (25, .int .i64 f_1.Rear), (27, .int .i64 f_1.Length)]) (⟨[(C_api_Float f_1)], []⟩) (by kernel_rfl) ⟨congrArg AV.bool hc_11, trivial⟩ ?_
          refine ExO.callL [] [.int .i64 f_1.Rear, .int .i64 0, .int .i64 f_1.Length] rfl rfl (a_bateriaref02_within f_1.Rear 0 f_1.Length) rfl rfl (d_bateriaref02_within N f_1.Rear 0 f_1.Length r_12 hr_12) (b_bateriaref02_within _ _ _ _) rfl ?_
          refine runH 2 [] [1, 30] [] (mkS 81 [(1, .ptr 0 0), (30, .bool (!r_12))]) (⟨[(C_api_Float f_1)], []⟩) (by kernel_rfl) trivial ?_
          refine ExO.nil ?_
          (try simp only [reduceCtorEq, AEx.ex.injEq, Nat.reduceEqDiff, if_true, if_false])
          exact ⟨_, _, Forgets.refl _ _ _, (!r_12), h, rfl, rfl⟩
  · rintro a S ⟨y_2, h, rfl, rfl⟩
    subst hK_5
    rcases condI h with ⟨hc_13, h⟩ | ⟨hc_13, h⟩
    · refine Ex.condT _ rfl hc_13 ?_
      refine Ex.seq ?_
      refine regH 1 [] [2] [] (mkS 81 [(2, .int .i64 2)]) (⟨[(C_api_Float f_1)], []⟩) (by kernel_rfl) trivial rfl ?_
      refine Ex.ret ?_
      obtain rfl := Option.some.inj h
      exact ⟨.inr rfl, .int .i64 2, by kernel_rfl, by kernel_rfl, by kernel_rfl, by kernel_rfl⟩
    · refine Ex.condF _ rfl hc_13 ?_
      refine Ex.skip ?_
      refine Ex.seq ?_
      refine Ex.seq ?_
      refine regH 5 [] [1, 35] [] (mkS 81 [(1, .ptr 0 0), (35, .bool (decide (f_1.Front ≥ f_1.Rear)))]) (⟨[(C_api_Float f_1)], []⟩) (by kernel_rfl) trivial rfl ?_
      rcases condI h with ⟨hc_14, h⟩ | ⟨hc_14, h⟩
      · refine Ex.condT _ rfl hc_14 ?_
        refine Ex.seq ?_
        refine regH 1 [] [2] [] (mkS 81 [(2, .int .i64 9)]) (⟨[(C_api_Float f_1)], []⟩) (by kernel_rfl) trivial rfl ?_
        refine Ex.ret ?_
        obtain rfl := Option.some.inj h
        exact ⟨.inr rfl, .int .i64 9, by kernel_rfl, by kernel_rfl, by kernel_rfl, by kernel_rfl⟩
      · refine Ex.condF _ rfl hc_14 ?_
        refine Ex.skip ?_
        refine Ex.seq ?_
        obtain ⟨K_17, hK_18, h⟩ := letE h
        refine Ex.seqJ (fun a S => ∃ (y_15 : Bool), K_17 y_15 = some r ∧ a = mkS 81 [(1, .ptr 0 0), (59, .bool y_15)] ∧ S = ⟨[(C_api_Float f_1)], []⟩) ?_ ?_
        · obtain ⟨r_19, hr_19, h⟩ := Option.bind_eq_some_iff.1 h
          refine Ex.reg ?_
          refine runH 2 [] [1, 37] [] (mkS 81 [(1, .ptr 0 0), (37, .int .i64 f_1.Turn)]) (⟨[(C_api_Float f_1)], []⟩) (by kernel_rfl) trivial ?_
          refine ExO.callL [] [.int .i64 f_1.Turn, .int .i64 0, .int .i64 20000] rfl rfl (a_bateriaref02_within f_1.Turn 0 20000) rfl rfl (d_bateriaref02_within N f_1.Turn 0 20000 r_19 hr_19) (b_bateriaref02_within _ _ _ _) rfl ?_
          rcases condI h with ⟨hc_20, h⟩ | ⟨hc_20, h⟩
          · refine runH 21 [(1, .eq (.bool true))] [1, 59] [AV.bool (!r_19) = AV.bool true] (mkS 81 [(1, .ptr 0 0), (59, .bool true)]) (⟨[(C_api_Float f_1)], []⟩) (by kernel_rfl) ⟨congrArg AV.bool hc_20, trivial⟩ ?_
            refine ExO.nil ?_
            (try simp only [reduceCtorEq, AEx.ex.injEq, Nat.reduceEqDiff, if_true, if_false])
            exact ⟨_, _, Forgets.refl _ _ _, true, h, rfl, rfl⟩
          · obtain ⟨r_21, hr_21, h⟩ := Option.bind_eq_some_iff.1 h
            refine runH 4 [(1, .eq (.bool false))] [1, 40, 42] [AV.bool (!r_19) = AV.bool false] (mkS 81 [(1, .ptr 0 0), (40, .bool false), (42, .int .i64 f_1.Kilos)]) (⟨[(C_api_Float f_1)], []⟩) (by kernel_rfl) ⟨congrArg AV.bool hc_20, trivial⟩ ?_
            refine ExO.callL [] [.int .i64 f_1.Kilos, .int .i64 0, .int .i64 100000] rfl rfl (a_bateriaref02_within f_1.Kilos 0 100000) rfl rfl (d_bateriaref02_within N f_1.Kilos 0 100000 r_21 hr_21) (b_bateriaref02_within _ _ _ _) rfl ?_
            rcases condI h with ⟨hc_22, h⟩ | ⟨hc_22, h⟩
            · refine runH 16 [(2, .eq (.bool true))] [1, 59] [AV.bool (!r_21) = AV.bool true] (mkS 81 [(1, .ptr 0 0), (59, .bool true)]) (⟨[(C_api_Float f_1)], []⟩) (by kernel_rfl) ⟨congrArg AV.bool hc_22, trivial⟩ ?_
              refine ExO.nil ?_
              (try simp only [reduceCtorEq, AEx.ex.injEq, Nat.reduceEqDiff, if_true, if_false])
              exact ⟨_, _, Forgets.refl _ _ _, true, h, rfl, rfl⟩
            · obtain ⟨r_23, hr_23, h⟩ := Option.bind_eq_some_iff.1 h
              refine runH 7 [(2, .eq (.bool false))] [1, 46, 48, 50] [AV.bool (!r_21) = AV.bool false] (mkS 81 [(1, .ptr 0 0), (46, .bool false), (48, .int .i64 f_1.Middle), (50, .int .i64 f_1.Length)]) (⟨[(C_api_Float f_1)], []⟩) (by kernel_rfl) ⟨congrArg AV.bool hc_22, trivial⟩ ?_
              refine ExO.callL [] [.int .i64 f_1.Middle, .int .i64 0, .int .i64 f_1.Length] rfl rfl (a_bateriaref02_within f_1.Middle 0 f_1.Length) rfl rfl (d_bateriaref02_within N f_1.Middle 0 f_1.Length r_23 hr_23) (b_bateriaref02_within _ _ _ _) rfl ?_
              rcases condI h with ⟨hc_24, h⟩ | ⟨hc_24, h⟩
              · refine runH 8 [(2, .eq (.bool true))] [1, 59] [AV.bool (!r_23) = AV.bool true] (mkS 81 [(1, .ptr 0 0), (59, .bool true)]) (⟨[(C_api_Float f_1)], []⟩) (by kernel_rfl) ⟨congrArg AV.bool hc_24, trivial⟩ ?_
                refine ExO.nil ?_
                (try simp only [reduceCtorEq, AEx.ex.injEq, Nat.reduceEqDiff, if_true, if_false])
                exact ⟨_, _, Forgets.refl _ _ _, true, h, rfl, rfl⟩
              · obtain ⟨r_25, hr_25, h⟩ := Option.bind_eq_some_iff.1 h
                refine runH 5 [(2, .eq (.bool false))] [1, 54, 56] [AV.bool (!r_23) = AV.bool false] (mkS 81 [(1, .ptr 0 0), (54, .bool false), (56, .int .i64 f_1.High)]) (⟨[(C_api_Float f_1)], []⟩) (by kernel_rfl) ⟨congrArg AV.bool hc_24, trivial⟩ ?_
                refine ExO.callL [] [.int .i64 f_1.High, .int .i64 0, .int .i64 2000] rfl rfl (a_bateriaref02_within f_1.High 0 2000) rfl rfl (d_bateriaref02_within N f_1.High 0 2000 r_25 hr_25) (b_bateriaref02_within _ _ _ _) rfl ?_
                refine runH 2 [] [1, 59] [] (mkS 81 [(1, .ptr 0 0), (59, .bool (!r_25))]) (⟨[(C_api_Float f_1)], []⟩) (by kernel_rfl) trivial ?_
                refine ExO.nil ?_
                (try simp only [reduceCtorEq, AEx.ex.injEq, Nat.reduceEqDiff, if_true, if_false])
                exact ⟨_, _, Forgets.refl _ _ _, (!r_25), h, rfl, rfl⟩
        · rintro a S ⟨y_15, h, rfl, rfl⟩
          subst hK_18
          rcases condI h with ⟨hc_26, h⟩ | ⟨hc_26, h⟩
          · refine Ex.condT _ rfl hc_26 ?_
            refine Ex.seq ?_
            refine regH 1 [] [2] [] (mkS 81 [(2, .int .i64 2)]) (⟨[(C_api_Float f_1)], []⟩) (by kernel_rfl) trivial rfl ?_
            refine Ex.ret ?_
            obtain rfl := Option.some.inj h
            exact ⟨.inr rfl, .int .i64 2, by kernel_rfl, by kernel_rfl, by kernel_rfl, by kernel_rfl⟩
          · refine Ex.condF _ rfl hc_26 ?_
            refine Ex.skip ?_
            refine Ex.seq ?_
            refine Ex.seq ?_
            refine regH 4 [(2, .eq (.int .i64 ((f_1.Loads.length : Nat) : Int)))] [1, 63] [AV.int .i64 (((f_1.Loads.map A_api_Load).length : Nat) : Int) = AV.int .i64 ((f_1.Loads.length : Nat) : Int)] (mkS 81 [(1, .ptr 0 0), (63, .bool (decide (((f_1.Loads.length : Nat) : Int) > 20)))]) (⟨[(C_api_Float f_1)], []⟩) (by kernel_rfl) ⟨lenM _ _, trivial⟩ rfl ?_
            rcases condI h with ⟨hc_27, h⟩ | ⟨hc_27, h⟩
            · refine Ex.condT _ rfl hc_27 ?_
              refine Ex.seq ?_
              refine regH 1 [] [2] [] (mkS 81 [(2, .int .i64 5)]) (⟨[(C_api_Float f_1)], []⟩) (by kernel_rfl) trivial rfl ?_
              refine Ex.ret ?_
              obtain rfl := Option.some.inj h
              exact ⟨.inr rfl, .int .i64 5, by kernel_rfl, by kernel_rfl, by kernel_rfl, by kernel_rfl⟩
            · refine Ex.condF _ rfl hc_27 ?_
              refine Ex.skip ?_
              refine Ex.seq ?_
              refine Ex.seq ?_
              refine regH 1 [] [1, 3] [] (mkS 81 [(1, .ptr 0 0), (3, .int .i64 0)]) (⟨[(C_api_Float f_1)], []⟩) (by kernel_rfl) trivial rfl ?_
              obtain ⟨K_29, hK_30, h⟩ := letE h
              refine Ex.blockJ (fun a S => K_29 () = some r ∧ a = mkS 81 [] ∧ S = ⟨[], []⟩) ?_ ?_ (by first | exact fun _ _ _ _ hf h => Ex.forget hf h | exact fun _ _ _ _ hf ⟨a2, S2, hf2, h⟩ => ⟨a2, S2, hf.trans hf2, h⟩)
              · obtain ⟨B_33, hB_34, h⟩ := loop1I h
                refine Ex.loopF (fun k a S => ∃ (i_31 : Int), loop1 B_33 k i_31 = some r ∧ a = mkS 81 [(1, .ptr 0 0), (3, .int .i64 i_31)] ∧ S = ⟨[(C_api_Float f_1)], []⟩) N ⟨_, _, Forgets.refl _ _ _, 0, h, rfl, rfl⟩ ?_
                rintro k a S ⟨i_31, h, rfl, rfl⟩
                cases k with
                | zero => exact (loop1Z h).elim
                | succ k =>
                  replace h := loop1S h hB_34
                  refine Ex.seq ?_
                  refine Ex.seq ?_
                  refine regH 5 [(3, .eq (.int .i64 ((f_1.Loads.length : Nat) : Int)))] [1, 3, 68] [AV.int .i64 (((f_1.Loads.map A_api_Load).length : Nat) : Int) = AV.int .i64 ((f_1.Loads.length : Nat) : Int)] (mkS 81 [(1, .ptr 0 0), (3, .int .i64 i_31), (68, .bool (decide (i_31 < ((f_1.Loads.length : Nat) : Int))))]) (⟨[(C_api_Float f_1)], []⟩) (by kernel_rfl) ⟨lenM _ _, trivial⟩ rfl ?_
                  rcases condI h with ⟨hc_35, h⟩ | ⟨hc_35, h⟩
                  · refine Ex.condT _ rfl hc_35 ?_
                    refine Ex.skip ?_
                    refine Ex.seq ?_
                    refine Ex.blockK ?_
                    refine Ex.seq ?_
                    obtain ⟨x_36, hx_36, h⟩ := Option.bind_eq_some_iff.1 h
                    refine Ex.drawE (a1 := mkS 81 [(1, .ptr 0 0), (3, .int .i64 i_31), (68, .bool (decide (i_31 < ((f_1.Loads.length : Nat) : Int)))), (71, (A_api_Float f_1)), (72, .ptr 0 8), (73, .sl (f_1.Loads.map A_api_Load) none), (74, .int .i64 i_31), (75, .rop (C_api_Load x_36)), (76, (A_api_Load x_36))]) (noClr_ok _) [] [] [] ?_ ?_
                    · refine drS [0] 6 [(4, .rop (C_api_Load x_36))] [LGet (f_1.Loads.map A_api_Load) i_31 7 (C_api_Load x_36)] (mkS 81 [(1, .ptr 0 0), (3, .int .i64 i_31), (68, .bool (decide (i_31 < ((f_1.Loads.length : Nat) : Int)))), (71, (A_api_Float f_1)), (72, .ptr 0 8), (73, .sl (f_1.Loads.map A_api_Load) none), (74, .int .i64 i_31), (75, .rop (C_api_Load x_36)), (76, (A_api_Load x_36))]) (by simp) (by kernel_rfl) ⟨LGet.of hx_36 rfl, trivial⟩ (by kernel_rfl) ?_
                      exact DrO.nil rfl
                    · dsimp only [List.getLastD_cons, List.getLastD_nil]
                      obtain ⟨r_37, hr_37, h⟩ := Option.bind_eq_some_iff.1 h
                      refine ExO.callL [] [(A_api_Float f_1), (A_api_Load x_36)] rfl rfl (a_bateriaref02_checkLoad f_1 x_36) rfl rfl (d_bateriaref02_checkLoad N f_1 x_36 r_37 hr_37) (b_bateriaref02_checkLoad _ _ _ _) rfl ?_
                      refine runH 1 [] [1, 3, 4] [] (mkS 81 [(1, .ptr 0 0), (3, .int .i64 i_31), (4, .int .i64 r_37)]) (⟨[(C_api_Float f_1)], []⟩) (by kernel_rfl) trivial ?_
                      refine ExO.nil ?_
                      refine Ex.seq ?_
                      refine regH 2 [] [1, 3, 4, 79] [] (mkS 81 [(1, .ptr 0 0), (3, .int .i64 i_31), (4, .int .i64 r_37), (79, .bool (r_37 != 0))]) (⟨[(C_api_Float f_1)], []⟩) (by kernel_rfl) trivial rfl ?_
                      rcases condI h with ⟨hc_38, h⟩ | ⟨hc_38, h⟩
                      · refine Ex.condT _ rfl hc_38 ?_
                        refine Ex.seq ?_
                        refine regH 2 [] [2] [] (mkS 81 [(2, .int .i64 r_37)]) (⟨[(C_api_Float f_1)], []⟩) (by kernel_rfl) trivial rfl ?_
                        refine Ex.ret ?_
                        obtain rfl := Option.some.inj h
                        exact ⟨.inr rfl, .int .i64 r_37, by kernel_rfl, by kernel_rfl, by kernel_rfl, by kernel_rfl⟩
                      · refine Ex.condF _ rfl hc_38 ?_
                        refine Ex.skip ?_
                        refine regH 3 [] [1, 3] [] (mkS 81 [(1, .ptr 0 0), (3, .int .i64 (IntKind.i64.wrap (i_31 + 1)))]) (⟨[(C_api_Float f_1)], []⟩) (by kernel_rfl) trivial rfl ?_
                        dsimp only
                        exact ⟨_, _, Forgets.refl _ _ _, k, Nat.lt_succ_self k, (IntKind.i64.wrap (i_31 + 1)), h, rfl, rfl⟩
                  · refine Ex.condF _ rfl hc_35 ?_
                    refine Ex.exit ?_
                    (try simp only [reduceCtorEq, AEx.ex.injEq, Nat.reduceEqDiff, if_true, if_false])
                    exact ⟨_, _, forgetA (m := 81) 0 [] [] [] [] (by simp) (by simp) trivial (by simp [re, re1, AV.clean, List.idxOf?, List.findIdx?, List.findIdx?.go, cleanL, cleanI, cleanBo, cleanSt, cleanII, KL_bateriakit_Drum, KL_api_Span, KL_api_Load, KL_api_Float, KB_bateriakit_Drum, KB_api_Span, KB_api_Load, KB_api_Float]) rfl (by decide), h, rfl, rfl⟩
              · rintro a S ⟨h, rfl, rfl⟩
                subst hK_30
                refine Ex.seq ?_
                refine regH 1 [] [2] [] (mkS 81 [(2, .int .i64 0)]) (⟨[], []⟩) (by kernel_rfl) trivial rfl ?_
                refine Ex.ret ?_
                obtain rfl := Option.some.inj h
                exact ⟨.inr rfl, .int .i64 0, by kernel_rfl, by kernel_rfl, by kernel_rfl, by kernel_rfl⟩
structure T_bateriaref02_Truth where
  Kilos : (List Int)
  Tops : (List Int)
  deriving Inhabited
def C_bateriaref02_Truth (x : T_bateriaref02_Truth) : List AV := [.sl (x.Kilos.map (AV.int .i64)) none, .sl (x.Tops.map (AV.int .i64)) none]
def A_bateriaref02_Truth (x : T_bateriaref02_Truth) : AV := .agg (C_bateriaref02_Truth x)
theorem KC_bateriaref02_Truth (x : T_bateriaref02_Truth) : cleanL (C_bateriaref02_Truth x) = true := by simp [C_bateriaref02_Truth, cleanL, AV.clean, KL_bateriakit_Drum, KL_api_Span, KL_api_Load, KL_api_Float, cleanI, cleanBo, cleanSt, cleanII]
theorem KA_bateriaref02_Truth (x : T_bateriaref02_Truth) : (A_bateriaref02_Truth x).clean = true := KC_bateriaref02_Truth x
theorem KL_bateriaref02_Truth (l : List T_bateriaref02_Truth) : cleanL (l.map A_bateriaref02_Truth) = true := cleanM KA_bateriaref02_Truth l
theorem KB_bateriaref02_Truth (x : T_bateriaref02_Truth) (n : Nat) (σ : List Nat) : (C_bateriaref02_Truth x).mapM (re n σ) = some (C_bateriaref02_Truth x) := by simp [C_bateriaref02_Truth, re, re1, AV.clean, KL_bateriakit_Drum, KL_api_Span, KL_api_Load, KL_api_Float, cleanI, cleanBo, cleanSt, cleanII]
def p_bateriaref02_Least (N : Nat) (f_1 : T_api_Float) : Option (T_bateriaref02_Truth) := (letJ (fun (b_2 : List Int) (b_3 : List Int) => some (⟨b_2, b_3⟩ : T_bateriaref02_Truth)) (fun k_4 => (loop3 (fun rec_10 (i_7 : Int) (b_8 : List Int) (b_9 : List Int) => (bif (decide (i_7 < ((f_1.Loads.length : Nat) : Int))) then ((getI f_1.Loads i_7).bind fun x_14 => ((pushI b_8 ([x_14.Kilos.Lo] : List Int)).bind fun l_15 => ((getI f_1.Loads i_7).bind fun x_16 => ((pushI b_9 ([x_16.Top.Lo] : List Int)).bind fun l_17 => (rec_10 (IntKind.i64.wrap (i_7 + 1)) l_15 l_17))))) else (k_4 b_8 b_9))) N 0 [] [])))
def v_bateriaref02_Least (r : T_bateriaref02_Truth) : AV := (A_bateriaref02_Truth r)
theorem b_bateriaref02_Least (r : T_bateriaref02_Truth) (n n2 m : Nat) : back n n2 m (v_bateriaref02_Least r) = some (v_bateriaref02_Least r) := by simp [v_bateriaref02_Least, back, back1, AV.plain, AV.plain1, AV.clean, cleanL, cleanI, cleanBo, cleanSt, cleanII, KL_bateriakit_Drum, KL_api_Span, KL_api_Load, KL_api_Float, KL_bateriaref02_Truth, A_bateriakit_Drum, C_bateriakit_Drum, A_api_Span, C_api_Span, A_api_Load, C_api_Load, A_api_Float, C_api_Float, A_bateriaref02_Truth, C_bateriaref02_Truth]
theorem d_bateriaref02_Least (N : Nat) (f_1 : T_api_Float) (r : T_bateriaref02_Truth) (h : p_bateriaref02_Least N f_1 = some r) : Does Try.prog 86 [(A_api_Float f_1)] [] fun v c => v = v_bateriaref02_Least r ∧ c = [] := by
  unfold p_bateriaref02_Least at h
  refine Does.ofL comp86 _ _ rfl rfl ?_
  refine Ex.seq ?_
  refine regH 2 [] [1, 2] [] (mkS 37 [(1, .ptr 0 0), (2, .ptr 1 0)]) (⟨[(C_api_Float f_1), [.nils, .nils]], []⟩) (by kernel_rfl) trivial rfl ?_
  refine Ex.seq ?_
  refine regH 1 [] [1, 2, 3] [] (mkS 37 [(1, .ptr 0 0), (2, .ptr 1 0), (3, .ptr 2 0)]) (⟨[(C_api_Float f_1), [.nils, .nils], [.nils, .nils]], []⟩) (by kernel_rfl) trivial rfl ?_
  refine Ex.seq ?_
  refine Ex.seq ?_
  refine regH 1 [] [1, 2, 3, 4] [] (mkS 37 [(1, .ptr 0 0), (2, .ptr 1 0), (3, .ptr 2 0), (4, .int .i64 0)]) (⟨[(C_api_Float f_1), [.nils, .nils], [.nils, .nils]], []⟩) (by kernel_rfl) trivial rfl ?_
  obtain ⟨K_5, hK_6, h⟩ := letE h
  refine Ex.blockJ (fun a S => ∃ (b_2 : List Int), ∃ (b_3 : List Int), K_5 b_2 b_3 = some r ∧ a = mkS 37 [(2, .ptr 1 0), (3, .ptr 2 0)] ∧ S = ⟨[(C_api_Float f_1), [.nils, .nils], [.sl (b_2.map (AV.int .i64)) (some 0), .sl (b_3.map (AV.int .i64)) (some 1)]], [(b_2.length, 1), (b_3.length, 1)]⟩) ?_ ?_ (by first | exact fun _ _ _ _ hf h => Ex.forget hf h | exact fun _ _ _ _ hf ⟨a2, S2, hf2, h⟩ => ⟨a2, S2, hf.trans hf2, h⟩)
  · refine Ex.forget (nilB 2 0 1 [.nils, .nils] rfl rfl) ?_
    refine Ex.forget (nilB 2 1 1 [.sl (([] : List Int).map (AV.int .i64)) (some 0), .nils] rfl rfl) ?_
    refine Ex.castA (a2 := mkS 37 [(1, .ptr 0 0), (2, .ptr 1 0), (3, .ptr 2 0), (4, .int .i64 0)]) (S2 := ⟨[(C_api_Float f_1), [.nils, .nils], [.sl (([] : List Int).map (AV.int .i64)) (some 0), .sl (([] : List Int).map (AV.int .i64)) (some 1)]], [(0, 1), (0, 1)]⟩) (by kernel_rfl) (by kernel_rfl) ?_
    obtain ⟨B_11, hB_12, h⟩ := loop3I h
    refine Ex.loopF (fun k a S => ∃ (i_7 : Int), ∃ (b_8 : List Int), ∃ (b_9 : List Int), loop3 B_11 k i_7 b_8 b_9 = some r ∧ a = mkS 37 [(1, .ptr 0 0), (2, .ptr 1 0), (3, .ptr 2 0), (4, .int .i64 i_7)] ∧ S = ⟨[(C_api_Float f_1), [.nils, .nils], [.sl (b_8.map (AV.int .i64)) (some 0), .sl (b_9.map (AV.int .i64)) (some 1)]], [(b_8.length, 1), (b_9.length, 1)]⟩) N ⟨_, _, Forgets.refl _ _ _, 0, [], [], h, rfl, rfl⟩ ?_
    rintro k a S ⟨i_7, b_8, b_9, h, rfl, rfl⟩
    cases k with
    | zero => exact (loop3Z h).elim
    | succ k =>
      replace h := loop3S h hB_12
      refine Ex.seq ?_
      refine Ex.seq ?_
      refine regH 5 [(3, .eq (.int .i64 ((f_1.Loads.length : Nat) : Int)))] [1, 2, 3, 4, 9] [AV.int .i64 (((f_1.Loads.map A_api_Load).length : Nat) : Int) = AV.int .i64 ((f_1.Loads.length : Nat) : Int)] (mkS 37 [(1, .ptr 0 0), (2, .ptr 1 0), (3, .ptr 2 0), (4, .int .i64 i_7), (9, .bool (decide (i_7 < ((f_1.Loads.length : Nat) : Int))))]) (⟨[(C_api_Float f_1), [.nils, .nils], [.sl (b_8.map (AV.int .i64)) (some 0), .sl (b_9.map (AV.int .i64)) (some 1)]], [(b_8.length, 1), (b_9.length, 1)]⟩) (by kernel_rfl) ⟨lenM _ _, trivial⟩ rfl ?_
      rcases condI h with ⟨hc_13, h⟩ | ⟨hc_13, h⟩
      · refine Ex.condT _ rfl hc_13 ?_
        refine Ex.skip ?_
        refine Ex.seq ?_
        refine Ex.blockK ?_
        obtain ⟨x_14, hx_14, h⟩ := Option.bind_eq_some_iff.1 h
        obtain ⟨l_15, hl_15, h⟩ := Option.bind_eq_some_iff.1 h
        obtain ⟨x_16, hx_16, h⟩ := Option.bind_eq_some_iff.1 h
        obtain ⟨l_17, hl_17, h⟩ := Option.bind_eq_some_iff.1 h
        refine Ex.drawE (a1 := mkS 37 [(1, .ptr 0 0), (2, .ptr 1 0), (3, .ptr 2 0), (4, .int .i64 i_7), (9, .bool (decide (i_7 < ((f_1.Loads.length : Nat) : Int)))), (12, .ptr 2 0), (13, .sl (b_8.map (AV.int .i64)) (some 0)), (14, .ptr 0 8), (15, .sl (f_1.Loads.map A_api_Load) none), (16, .int .i64 i_7), (17, .rop (C_api_Load x_14)), (18, .rop [.int .i64 x_14.Kilos.Lo, .int .i64 x_14.Kilos.Hi, .int .i64 x_14.Top.Lo, .int .i64 x_14.Top.Hi, .int .i64 x_14.Kind, .int .i64 x_14.Watts]), (19, .rop [.int .i64 x_14.Kilos.Lo, .int .i64 x_14.Kilos.Hi, .int .i64 x_14.Top.Lo, .int .i64 x_14.Top.Hi, .int .i64 x_14.Kind, .int .i64 x_14.Watts]), (20, .int .i64 x_14.Kilos.Lo), (21, .sl (([x_14.Kilos.Lo] : List Int).map (AV.int .i64)) (some 2)), (22, .sl (l_15.map (AV.int .i64)) (some 0)), (23, .ptr 2 1), (24, .sl (b_9.map (AV.int .i64)) (some 1)), (25, .ptr 0 8), (26, .sl (f_1.Loads.map A_api_Load) none), (27, .int .i64 i_7), (28, .rop (C_api_Load x_16)), (29, .rop [.int .i64 x_16.Top.Lo, .int .i64 x_16.Top.Hi, .int .i64 x_16.Kind, .int .i64 x_16.Watts]), (30, .rop [.int .i64 x_16.Top.Lo, .int .i64 x_16.Top.Hi, .int .i64 x_16.Kind, .int .i64 x_16.Watts]), (31, .int .i64 x_16.Top.Lo), (32, .sl (([x_16.Top.Lo] : List Int).map (AV.int .i64)) (some 3)), (33, .sl (l_17.map (AV.int .i64)) (some 1)), (34, .ptr 2 0)]) (noClr_ok _) [] [(1, 1), (1, 1)] [⟨[(C_api_Float f_1), [.nils, .nils], [.sl (b_8.map (AV.int .i64)) (some 0), .sl (b_9.map (AV.int .i64)) (some 1)]], [(l_15.length, 1), (b_9.length, 1), (1, 1), (1, 1)]⟩, ⟨[(C_api_Float f_1), [.nils, .nils], [.sl (b_8.map (AV.int .i64)) (some 0), .sl (b_9.map (AV.int .i64)) (some 1)]], [(l_15.length, 1), (l_17.length, 1), (1, 1), (1, 1)]⟩] ?_ ?_
        · refine drS [0, 1, 2] 9 [(5, .rop (C_api_Load x_14))] [LGet (f_1.Loads.map A_api_Load) i_7 7 (C_api_Load x_14)] (mkS 37 [(1, .ptr 0 0), (2, .ptr 1 0), (3, .ptr 2 0), (4, .int .i64 i_7), (9, .bool (decide (i_7 < ((f_1.Loads.length : Nat) : Int)))), (12, .ptr 2 0), (13, .sl (b_8.map (AV.int .i64)) (some 0)), (14, .ptr 0 8), (15, .sl (f_1.Loads.map A_api_Load) none), (16, .int .i64 i_7), (17, .rop (C_api_Load x_14)), (18, .rop [.int .i64 x_14.Kilos.Lo, .int .i64 x_14.Kilos.Hi, .int .i64 x_14.Top.Lo, .int .i64 x_14.Top.Hi, .int .i64 x_14.Kind, .int .i64 x_14.Watts]), (19, .rop [.int .i64 x_14.Kilos.Lo, .int .i64 x_14.Kilos.Hi, .int .i64 x_14.Top.Lo, .int .i64 x_14.Top.Hi, .int .i64 x_14.Kind, .int .i64 x_14.Watts]), (20, .int .i64 x_14.Kilos.Lo)]) (by simp) (by kernel_rfl) ⟨LGet.of hx_14 rfl, trivial⟩ (by kernel_rfl) ?_
          refine drR 2 1 (([x_14.Kilos.Lo] : List Int).map (AV.int .i64)) rfl rfl (fun _ => rfl) (by simp) rfl rfl ?_
          refine drE (some (.app (l_15.map (AV.int .i64)) l_15.length)) (some (LApp b_8.length (b_8.map (AV.int .i64)) (([x_14.Kilos.Lo] : List Int).map (AV.int .i64)) 1 (l_15.map (AV.int .i64)) l_15.length)) (.sl (l_15.map (AV.int .i64)) (some 0)) _ _ rfl rfl rfl rfl rfl (by kernel_rfl) (LApp.of hl_15 (fun _ => rfl)) ?_
          refine drS [0, 1, 2] 9 [(5, .rop (C_api_Load x_16))] [LGet (f_1.Loads.map A_api_Load) i_7 7 (C_api_Load x_16)] (mkS 37 [(1, .ptr 0 0), (2, .ptr 1 0), (3, .ptr 2 0), (4, .int .i64 i_7), (9, .bool (decide (i_7 < ((f_1.Loads.length : Nat) : Int)))), (12, .ptr 2 0), (13, .sl (b_8.map (AV.int .i64)) (some 0)), (14, .ptr 0 8), (15, .sl (f_1.Loads.map A_api_Load) none), (16, .int .i64 i_7), (17, .rop (C_api_Load x_14)), (18, .rop [.int .i64 x_14.Kilos.Lo, .int .i64 x_14.Kilos.Hi, .int .i64 x_14.Top.Lo, .int .i64 x_14.Top.Hi, .int .i64 x_14.Kind, .int .i64 x_14.Watts]), (19, .rop [.int .i64 x_14.Kilos.Lo, .int .i64 x_14.Kilos.Hi, .int .i64 x_14.Top.Lo, .int .i64 x_14.Top.Hi, .int .i64 x_14.Kind, .int .i64 x_14.Watts]), (20, .int .i64 x_14.Kilos.Lo), (21, .sl (([x_14.Kilos.Lo] : List Int).map (AV.int .i64)) (some 2)), (22, .sl (l_15.map (AV.int .i64)) (some 0)), (23, .ptr 2 1), (24, .sl (b_9.map (AV.int .i64)) (some 1)), (25, .ptr 0 8), (26, .sl (f_1.Loads.map A_api_Load) none), (27, .int .i64 i_7), (28, .rop (C_api_Load x_16)), (29, .rop [.int .i64 x_16.Top.Lo, .int .i64 x_16.Top.Hi, .int .i64 x_16.Kind, .int .i64 x_16.Watts]), (30, .rop [.int .i64 x_16.Top.Lo, .int .i64 x_16.Top.Hi, .int .i64 x_16.Kind, .int .i64 x_16.Watts]), (31, .int .i64 x_16.Top.Lo)]) (by simp) (by kernel_rfl) ⟨LGet.of hx_16 rfl, trivial⟩ (by kernel_rfl) ?_
          refine drR 3 1 (([x_16.Top.Lo] : List Int).map (AV.int .i64)) rfl rfl (fun _ => rfl) (by simp) rfl rfl ?_
          refine drE (some (.app (l_17.map (AV.int .i64)) l_17.length)) (some (LApp b_9.length (b_9.map (AV.int .i64)) (([x_16.Top.Lo] : List Int).map (AV.int .i64)) 1 (l_17.map (AV.int .i64)) l_17.length)) (.sl (l_17.map (AV.int .i64)) (some 1)) _ _ rfl rfl rfl rfl rfl (by kernel_rfl) (LApp.of hl_17 (fun _ => rfl)) ?_
          refine drS [0, 1, 2] 1 [] [] (mkS 37 [(1, .ptr 0 0), (2, .ptr 1 0), (3, .ptr 2 0), (4, .int .i64 i_7), (9, .bool (decide (i_7 < ((f_1.Loads.length : Nat) : Int)))), (12, .ptr 2 0), (13, .sl (b_8.map (AV.int .i64)) (some 0)), (14, .ptr 0 8), (15, .sl (f_1.Loads.map A_api_Load) none), (16, .int .i64 i_7), (17, .rop (C_api_Load x_14)), (18, .rop [.int .i64 x_14.Kilos.Lo, .int .i64 x_14.Kilos.Hi, .int .i64 x_14.Top.Lo, .int .i64 x_14.Top.Hi, .int .i64 x_14.Kind, .int .i64 x_14.Watts]), (19, .rop [.int .i64 x_14.Kilos.Lo, .int .i64 x_14.Kilos.Hi, .int .i64 x_14.Top.Lo, .int .i64 x_14.Top.Hi, .int .i64 x_14.Kind, .int .i64 x_14.Watts]), (20, .int .i64 x_14.Kilos.Lo), (21, .sl (([x_14.Kilos.Lo] : List Int).map (AV.int .i64)) (some 2)), (22, .sl (l_15.map (AV.int .i64)) (some 0)), (23, .ptr 2 1), (24, .sl (b_9.map (AV.int .i64)) (some 1)), (25, .ptr 0 8), (26, .sl (f_1.Loads.map A_api_Load) none), (27, .int .i64 i_7), (28, .rop (C_api_Load x_16)), (29, .rop [.int .i64 x_16.Top.Lo, .int .i64 x_16.Top.Hi, .int .i64 x_16.Kind, .int .i64 x_16.Watts]), (30, .rop [.int .i64 x_16.Top.Lo, .int .i64 x_16.Top.Hi, .int .i64 x_16.Kind, .int .i64 x_16.Watts]), (31, .int .i64 x_16.Top.Lo), (32, .sl (([x_16.Top.Lo] : List Int).map (AV.int .i64)) (some 3)), (33, .sl (l_17.map (AV.int .i64)) (some 1)), (34, .ptr 2 0)]) (by simp) (by kernel_rfl) trivial (by kernel_rfl) ?_
          exact DrO.nil rfl
        · dsimp only [List.getLastD_cons, List.getLastD_nil]
          refine runH 3 [] [1, 2, 3, 4] [] (mkS 37 [(1, .ptr 0 0), (2, .ptr 1 0), (3, .ptr 2 0), (4, .int .i64 i_7)]) (⟨[(C_api_Float f_1), [.nils, .nils], [.sl (l_15.map (AV.int .i64)) (some 0), .sl (l_17.map (AV.int .i64)) (some 1)]], [(l_15.length, 1), (l_17.length, 1), (1, 1), (1, 1)]⟩) (by kernel_rfl) trivial ?_
          refine ExO.nil ?_
          refine regH 3 [] [1, 2, 3, 4] [] (mkS 37 [(1, .ptr 0 0), (2, .ptr 1 0), (3, .ptr 2 0), (4, .int .i64 (IntKind.i64.wrap (i_7 + 1)))]) (⟨[(C_api_Float f_1), [.nils, .nils], [.sl (l_15.map (AV.int .i64)) (some 0), .sl (l_17.map (AV.int .i64)) (some 1)]], [(l_15.length, 1), (l_17.length, 1), (1, 1), (1, 1)]⟩) (by kernel_rfl) trivial rfl ?_
          dsimp only
          exact ⟨_, _, forgetA (m := 37) 3 [0, 1] [(1, .ptr 0 0), (2, .ptr 1 0), (3, .ptr 2 0), (4, .int .i64 (IntKind.i64.wrap (i_7 + 1)))] [(C_api_Float f_1), [.nils, .nils], [.sl (l_15.map (AV.int .i64)) (some 0), .sl (l_17.map (AV.int .i64)) (some 1)]] [(l_15.length, 1), (l_17.length, 1)] (by simp) (by simp) ⟨rfl, rfl, rfl, rfl, trivial⟩ (by simp [re, re1, AV.clean, List.idxOf?, List.findIdx?, List.findIdx?.go, cleanL, cleanI, cleanBo, cleanSt, cleanII, KL_bateriakit_Drum, KL_api_Span, KL_api_Load, KL_api_Float, KL_bateriaref02_Truth, KB_bateriakit_Drum, KB_api_Span, KB_api_Load, KB_api_Float, KB_bateriaref02_Truth]) rfl (by decide), k, Nat.lt_succ_self k, (IntKind.i64.wrap (i_7 + 1)), l_15, l_17, h, rfl, rfl⟩
      · refine Ex.condF _ rfl hc_13 ?_
        refine Ex.exit ?_
        (try simp only [reduceCtorEq, AEx.ex.injEq, Nat.reduceEqDiff, if_true, if_false])
        exact ⟨_, _, forgetK [2, 3], b_8, b_9, h, rfl, rfl⟩
  · rintro a S ⟨b_2, b_3, h, rfl, rfl⟩
    subst hK_6
    refine Ex.seq ?_
    refine regH 2 [] [2] [] (mkS 37 [(2, .ptr 1 0)]) (⟨[(C_api_Float f_1), [.sl (b_2.map (AV.int .i64)) (some 0), .sl (b_3.map (AV.int .i64)) (some 1)], [.sl (b_2.map (AV.int .i64)) (some 0), .sl (b_3.map (AV.int .i64)) (some 1)]], [(b_2.length, 1), (b_3.length, 1)]⟩) (by kernel_rfl) trivial rfl ?_
    refine Ex.ret ?_
    obtain rfl := Option.some.inj h
    exact ⟨.inr rfl, .agg [.sl (b_2.map (AV.int .i64)) (some 0), .sl (b_3.map (AV.int .i64)) (some 1)], by kernel_rfl, by kernel_rfl, by kernel_rfl, by kernel_rfl⟩
def p_bateriaref02_Weighs (N : Nat) (f_1 : T_api_Float) (t_2 : T_bateriaref02_Truth) : Option (Int) := (letJ (fun (sum_3 : Int) => some sum_3) (fun k_4 => (loop2 (fun rec_9 (sum_7 : Int) (i_8 : Int) => (bif (decide (i_8 < ((t_2.Kilos.length : Nat) : Int))) then ((getI t_2.Kilos i_8).bind fun x_13 => (rec_9 (IntKind.i64.wrap (sum_7 + x_13)) (IntKind.i64.wrap (i_8 + 1)))) else (k_4 sum_7))) N f_1.Kilos 0)))
def v_bateriaref02_Weighs (r : Int) : AV := .int .i64 r
theorem a_bateriaref02_Weighs (f_1 : T_api_Float) (t_2 : T_bateriaref02_Truth) : [(A_api_Float f_1), (A_bateriaref02_Truth t_2)].mapM (ren []) = some [(A_api_Float f_1), (A_bateriaref02_Truth t_2)] := by simp [ren, ren1, AV.plain, AV.plain1, AV.clean, cleanL, cleanI, cleanBo, cleanSt, cleanII, KL_bateriakit_Drum, KL_api_Span, KL_api_Load, KL_api_Float, KL_bateriaref02_Truth, A_bateriakit_Drum, C_bateriakit_Drum, A_api_Span, C_api_Span, A_api_Load, C_api_Load, A_api_Float, C_api_Float, A_bateriaref02_Truth, C_bateriaref02_Truth]
theorem b_bateriaref02_Weighs (r : Int) (n n2 m : Nat) : back n n2 m (v_bateriaref02_Weighs r) = some (v_bateriaref02_Weighs r) := by simp [v_bateriaref02_Weighs, back, back1, AV.plain, AV.plain1, AV.clean, cleanL, cleanI, cleanBo, cleanSt, cleanII, KL_bateriakit_Drum, KL_api_Span, KL_api_Load, KL_api_Float, KL_bateriaref02_Truth, A_bateriakit_Drum, C_bateriakit_Drum, A_api_Span, C_api_Span, A_api_Load, C_api_Load, A_api_Float, C_api_Float, A_bateriaref02_Truth, C_bateriaref02_Truth]
theorem d_bateriaref02_Weighs (N : Nat) (f_1 : T_api_Float) (t_2 : T_bateriaref02_Truth) (r : Int) (h : p_bateriaref02_Weighs N f_1 t_2 = some r) : Does Try.prog 21 [(A_api_Float f_1), (A_bateriaref02_Truth t_2)] [] fun v c => v = v_bateriaref02_Weighs r ∧ c = [] := by
  unfold p_bateriaref02_Weighs at h
  refine Does.ofL comp21 _ _ rfl rfl ?_
  refine Ex.seq ?_
  refine regH 3 [] [2, 3] [] (mkS 24 [(2, .ptr 0 0), (3, .ptr 1 0)]) (⟨[(C_api_Float f_1), (C_bateriaref02_Truth t_2)], []⟩) (by kernel_rfl) trivial rfl ?_
  refine Ex.seq ?_
  refine regH 3 [] [3, 5] [] (mkS 24 [(3, .ptr 1 0), (5, .int .i64 f_1.Kilos)]) (⟨[(C_api_Float f_1), (C_bateriaref02_Truth t_2)], []⟩) (by kernel_rfl) trivial rfl ?_
  refine Ex.seq ?_
  refine Ex.seq ?_
  refine regH 1 [] [3, 5, 6] [] (mkS 24 [(3, .ptr 1 0), (5, .int .i64 f_1.Kilos), (6, .int .i64 0)]) (⟨[(C_api_Float f_1), (C_bateriaref02_Truth t_2)], []⟩) (by kernel_rfl) trivial rfl ?_
  obtain ⟨K_5, hK_6, h⟩ := letE h
  refine Ex.blockJ (fun a S => ∃ (sum_3 : Int), K_5 sum_3 = some r ∧ a = mkS 24 [(5, .int .i64 sum_3)] ∧ S = ⟨[], []⟩) ?_ ?_ (by first | exact fun _ _ _ _ hf h => Ex.forget hf h | exact fun _ _ _ _ hf ⟨a2, S2, hf2, h⟩ => ⟨a2, S2, hf.trans hf2, h⟩)
  · obtain ⟨B_10, hB_11, h⟩ := loop2I h
    refine Ex.loopF (fun k a S => ∃ (sum_7 : Int), ∃ (i_8 : Int), loop2 B_10 k sum_7 i_8 = some r ∧ a = mkS 24 [(3, .ptr 1 0), (5, .int .i64 sum_7), (6, .int .i64 i_8)] ∧ S = ⟨[(C_api_Float f_1), (C_bateriaref02_Truth t_2)], []⟩) N ⟨_, _, Forgets.refl _ _ _, f_1.Kilos, 0, h, rfl, rfl⟩ ?_
    rintro k a S ⟨sum_7, i_8, h, rfl, rfl⟩
    cases k with
    | zero => exact (loop2Z h).elim
    | succ k =>
      replace h := loop2S h hB_11
      refine Ex.seq ?_
      refine Ex.seq ?_
      refine regH 5 [(3, .eq (.int .i64 ((t_2.Kilos.length : Nat) : Int)))] [3, 5, 6, 13] [AV.int .i64 (((t_2.Kilos.map (AV.int .i64)).length : Nat) : Int) = AV.int .i64 ((t_2.Kilos.length : Nat) : Int)] (mkS 24 [(3, .ptr 1 0), (5, .int .i64 sum_7), (6, .int .i64 i_8), (13, .bool (decide (i_8 < ((t_2.Kilos.length : Nat) : Int))))]) (⟨[(C_api_Float f_1), (C_bateriaref02_Truth t_2)], []⟩) (by kernel_rfl) ⟨lenM _ _, trivial⟩ rfl ?_
      rcases condI h with ⟨hc_12, h⟩ | ⟨hc_12, h⟩
      · refine Ex.condT _ rfl hc_12 ?_
        refine Ex.skip ?_
        refine Ex.seq ?_
        refine Ex.blockK ?_
        obtain ⟨x_13, hx_13, h⟩ := Option.bind_eq_some_iff.1 h
        refine regH 8 [(4, .rop [.int .i64 x_13])] [3, 5, 6] [LGet (t_2.Kilos.map (AV.int .i64)) i_8 1 [.int .i64 x_13]] (mkS 24 [(3, .ptr 1 0), (5, .int .i64 (IntKind.i64.wrap (sum_7 + x_13))), (6, .int .i64 i_8)]) (⟨[(C_api_Float f_1), (C_bateriaref02_Truth t_2)], []⟩) (by kernel_rfl) ⟨LGet.of hx_13 rfl, trivial⟩ rfl ?_
        refine regH 3 [] [3, 5, 6] [] (mkS 24 [(3, .ptr 1 0), (5, .int .i64 (IntKind.i64.wrap (sum_7 + x_13))), (6, .int .i64 (IntKind.i64.wrap (i_8 + 1)))]) (⟨[(C_api_Float f_1), (C_bateriaref02_Truth t_2)], []⟩) (by kernel_rfl) trivial rfl ?_
        dsimp only
        exact ⟨_, _, Forgets.refl _ _ _, k, Nat.lt_succ_self k, (IntKind.i64.wrap (sum_7 + x_13)), (IntKind.i64.wrap (i_8 + 1)), h, rfl, rfl⟩
      · refine Ex.condF _ rfl hc_12 ?_
        refine Ex.exit ?_
        (try simp only [reduceCtorEq, AEx.ex.injEq, Nat.reduceEqDiff, if_true, if_false])
        exact ⟨_, _, forgetA (m := 24) 0 [] [(5, .int .i64 sum_7)] [] [] (by simp) (by simp) ⟨rfl, trivial⟩ (by simp [re, re1, AV.clean, List.idxOf?, List.findIdx?, List.findIdx?.go, cleanL, cleanI, cleanBo, cleanSt, cleanII, KL_bateriakit_Drum, KL_api_Span, KL_api_Load, KL_api_Float, KL_bateriaref02_Truth, KB_bateriakit_Drum, KB_api_Span, KB_api_Load, KB_api_Float, KB_bateriaref02_Truth]) rfl (by decide), sum_7, h, rfl, rfl⟩
  · rintro a S ⟨sum_3, h, rfl, rfl⟩
    subst hK_6
    refine Ex.seq ?_
    refine regH 2 [] [4] [] (mkS 24 [(4, .int .i64 sum_3)]) (⟨[], []⟩) (by kernel_rfl) trivial rfl ?_
    refine Ex.ret ?_
    obtain rfl := Option.some.inj h
    exact ⟨.inr rfl, .int .i64 sum_3, by kernel_rfl, by kernel_rfl, by kernel_rfl, by kernel_rfl⟩
def p_bateriaref02_Greatest (N : Nat) (f_1 : T_api_Float) : Option (T_bateriaref02_Truth) := (letJ (fun (b_2 : List Int) (b_3 : List Int) => some (⟨b_2, b_3⟩ : T_bateriaref02_Truth)) (fun k_4 => (loop3 (fun rec_10 (i_7 : Int) (b_8 : List Int) (b_9 : List Int) => (bif (decide (i_7 < ((f_1.Loads.length : Nat) : Int))) then ((getI f_1.Loads i_7).bind fun x_14 => ((pushI b_8 ([x_14.Kilos.Hi] : List Int)).bind fun l_15 => ((getI f_1.Loads i_7).bind fun x_16 => ((pushI b_9 ([x_16.Top.Hi] : List Int)).bind fun l_17 => (rec_10 (IntKind.i64.wrap (i_7 + 1)) l_15 l_17))))) else (k_4 b_8 b_9))) N 0 [] [])))
def v_bateriaref02_Greatest (r : T_bateriaref02_Truth) : AV := (A_bateriaref02_Truth r)
theorem b_bateriaref02_Greatest (r : T_bateriaref02_Truth) (n n2 m : Nat) : back n n2 m (v_bateriaref02_Greatest r) = some (v_bateriaref02_Greatest r) := by simp [v_bateriaref02_Greatest, back, back1, AV.plain, AV.plain1, AV.clean, cleanL, cleanI, cleanBo, cleanSt, cleanII, KL_bateriakit_Drum, KL_api_Span, KL_api_Load, KL_api_Float, KL_bateriaref02_Truth, A_bateriakit_Drum, C_bateriakit_Drum, A_api_Span, C_api_Span, A_api_Load, C_api_Load, A_api_Float, C_api_Float, A_bateriaref02_Truth, C_bateriaref02_Truth]
theorem d_bateriaref02_Greatest (N : Nat) (f_1 : T_api_Float) (r : T_bateriaref02_Truth) (h : p_bateriaref02_Greatest N f_1 = some r) : Does Try.prog 87 [(A_api_Float f_1)] [] fun v c => v = v_bateriaref02_Greatest r ∧ c = [] := by
  unfold p_bateriaref02_Greatest at h
  refine Does.ofL comp87 _ _ rfl rfl ?_
  refine Ex.seq ?_
  refine regH 2 [] [1, 2] [] (mkS 37 [(1, .ptr 0 0), (2, .ptr 1 0)]) (⟨[(C_api_Float f_1), [.nils, .nils]], []⟩) (by kernel_rfl) trivial rfl ?_
  refine Ex.seq ?_
  refine regH 1 [] [1, 2, 3] [] (mkS 37 [(1, .ptr 0 0), (2, .ptr 1 0), (3, .ptr 2 0)]) (⟨[(C_api_Float f_1), [.nils, .nils], [.nils, .nils]], []⟩) (by kernel_rfl) trivial rfl ?_
  refine Ex.seq ?_
  refine Ex.seq ?_
  refine regH 1 [] [1, 2, 3, 4] [] (mkS 37 [(1, .ptr 0 0), (2, .ptr 1 0), (3, .ptr 2 0), (4, .int .i64 0)]) (⟨[(C_api_Float f_1), [.nils, .nils], [.nils, .nils]], []⟩) (by kernel_rfl) trivial rfl ?_
  obtain ⟨K_5, hK_6, h⟩ := letE h
  refine Ex.blockJ (fun a S => ∃ (b_2 : List Int), ∃ (b_3 : List Int), K_5 b_2 b_3 = some r ∧ a = mkS 37 [(2, .ptr 1 0), (3, .ptr 2 0)] ∧ S = ⟨[(C_api_Float f_1), [.nils, .nils], [.sl (b_2.map (AV.int .i64)) (some 0), .sl (b_3.map (AV.int .i64)) (some 1)]], [(b_2.length, 1), (b_3.length, 1)]⟩) ?_ ?_ (by first | exact fun _ _ _ _ hf h => Ex.forget hf h | exact fun _ _ _ _ hf ⟨a2, S2, hf2, h⟩ => ⟨a2, S2, hf.trans hf2, h⟩)
  · refine Ex.forget (nilB 2 0 1 [.nils, .nils] rfl rfl) ?_
    refine Ex.forget (nilB 2 1 1 [.sl (([] : List Int).map (AV.int .i64)) (some 0), .nils] rfl rfl) ?_
    refine Ex.castA (a2 := mkS 37 [(1, .ptr 0 0), (2, .ptr 1 0), (3, .ptr 2 0), (4, .int .i64 0)]) (S2 := ⟨[(C_api_Float f_1), [.nils, .nils], [.sl (([] : List Int).map (AV.int .i64)) (some 0), .sl (([] : List Int).map (AV.int .i64)) (some 1)]], [(0, 1), (0, 1)]⟩) (by kernel_rfl) (by kernel_rfl) ?_
    obtain ⟨B_11, hB_12, h⟩ := loop3I h
    refine Ex.loopF (fun k a S => ∃ (i_7 : Int), ∃ (b_8 : List Int), ∃ (b_9 : List Int), loop3 B_11 k i_7 b_8 b_9 = some r ∧ a = mkS 37 [(1, .ptr 0 0), (2, .ptr 1 0), (3, .ptr 2 0), (4, .int .i64 i_7)] ∧ S = ⟨[(C_api_Float f_1), [.nils, .nils], [.sl (b_8.map (AV.int .i64)) (some 0), .sl (b_9.map (AV.int .i64)) (some 1)]], [(b_8.length, 1), (b_9.length, 1)]⟩) N ⟨_, _, Forgets.refl _ _ _, 0, [], [], h, rfl, rfl⟩ ?_
    rintro k a S ⟨i_7, b_8, b_9, h, rfl, rfl⟩
    cases k with
    | zero => exact (loop3Z h).elim
    | succ k =>
      replace h := loop3S h hB_12
      refine Ex.seq ?_
      refine Ex.seq ?_
      refine regH 5 [(3, .eq (.int .i64 ((f_1.Loads.length : Nat) : Int)))] [1, 2, 3, 4, 9] [AV.int .i64 (((f_1.Loads.map A_api_Load).length : Nat) : Int) = AV.int .i64 ((f_1.Loads.length : Nat) : Int)] (mkS 37 [(1, .ptr 0 0), (2, .ptr 1 0), (3, .ptr 2 0), (4, .int .i64 i_7), (9, .bool (decide (i_7 < ((f_1.Loads.length : Nat) : Int))))]) (⟨[(C_api_Float f_1), [.nils, .nils], [.sl (b_8.map (AV.int .i64)) (some 0), .sl (b_9.map (AV.int .i64)) (some 1)]], [(b_8.length, 1), (b_9.length, 1)]⟩) (by kernel_rfl) ⟨lenM _ _, trivial⟩ rfl ?_
      rcases condI h with ⟨hc_13, h⟩ | ⟨hc_13, h⟩
      · refine Ex.condT _ rfl hc_13 ?_
        refine Ex.skip ?_
        refine Ex.seq ?_
        refine Ex.blockK ?_
        obtain ⟨x_14, hx_14, h⟩ := Option.bind_eq_some_iff.1 h
        obtain ⟨l_15, hl_15, h⟩ := Option.bind_eq_some_iff.1 h
        obtain ⟨x_16, hx_16, h⟩ := Option.bind_eq_some_iff.1 h
        obtain ⟨l_17, hl_17, h⟩ := Option.bind_eq_some_iff.1 h
        refine Ex.drawE (a1 := mkS 37 [(1, .ptr 0 0), (2, .ptr 1 0), (3, .ptr 2 0), (4, .int .i64 i_7), (9, .bool (decide (i_7 < ((f_1.Loads.length : Nat) : Int)))), (12, .ptr 2 0), (13, .sl (b_8.map (AV.int .i64)) (some 0)), (14, .ptr 0 8), (15, .sl (f_1.Loads.map A_api_Load) none), (16, .int .i64 i_7), (17, .rop (C_api_Load x_14)), (18, .rop [.int .i64 x_14.Kilos.Lo, .int .i64 x_14.Kilos.Hi, .int .i64 x_14.Top.Lo, .int .i64 x_14.Top.Hi, .int .i64 x_14.Kind, .int .i64 x_14.Watts]), (19, .rop [.int .i64 x_14.Kilos.Hi, .int .i64 x_14.Top.Lo, .int .i64 x_14.Top.Hi, .int .i64 x_14.Kind, .int .i64 x_14.Watts]), (20, .int .i64 x_14.Kilos.Hi), (21, .sl (([x_14.Kilos.Hi] : List Int).map (AV.int .i64)) (some 2)), (22, .sl (l_15.map (AV.int .i64)) (some 0)), (23, .ptr 2 1), (24, .sl (b_9.map (AV.int .i64)) (some 1)), (25, .ptr 0 8), (26, .sl (f_1.Loads.map A_api_Load) none), (27, .int .i64 i_7), (28, .rop (C_api_Load x_16)), (29, .rop [.int .i64 x_16.Top.Lo, .int .i64 x_16.Top.Hi, .int .i64 x_16.Kind, .int .i64 x_16.Watts]), (30, .rop [.int .i64 x_16.Top.Hi, .int .i64 x_16.Kind, .int .i64 x_16.Watts]), (31, .int .i64 x_16.Top.Hi), (32, .sl (([x_16.Top.Hi] : List Int).map (AV.int .i64)) (some 3)), (33, .sl (l_17.map (AV.int .i64)) (some 1)), (34, .ptr 2 0)]) (noClr_ok _) [] [(1, 1), (1, 1)] [⟨[(C_api_Float f_1), [.nils, .nils], [.sl (b_8.map (AV.int .i64)) (some 0), .sl (b_9.map (AV.int .i64)) (some 1)]], [(l_15.length, 1), (b_9.length, 1), (1, 1), (1, 1)]⟩, ⟨[(C_api_Float f_1), [.nils, .nils], [.sl (b_8.map (AV.int .i64)) (some 0), .sl (b_9.map (AV.int .i64)) (some 1)]], [(l_15.length, 1), (l_17.length, 1), (1, 1), (1, 1)]⟩] ?_ ?_
        · refine drS [0, 1, 2] 9 [(5, .rop (C_api_Load x_14))] [LGet (f_1.Loads.map A_api_Load) i_7 7 (C_api_Load x_14)] (mkS 37 [(1, .ptr 0 0), (2, .ptr 1 0), (3, .ptr 2 0), (4, .int .i64 i_7), (9, .bool (decide (i_7 < ((f_1.Loads.length : Nat) : Int)))), (12, .ptr 2 0), (13, .sl (b_8.map (AV.int .i64)) (some 0)), (14, .ptr 0 8), (15, .sl (f_1.Loads.map A_api_Load) none), (16, .int .i64 i_7), (17, .rop (C_api_Load x_14)), (18, .rop [.int .i64 x_14.Kilos.Lo, .int .i64 x_14.Kilos.Hi, .int .i64 x_14.Top.Lo, .int .i64 x_14.Top.Hi, .int .i64 x_14.Kind, .int .i64 x_14.Watts]), (19, .rop [.int .i64 x_14.Kilos.Hi, .int .i64 x_14.Top.Lo, .int .i64 x_14.Top.Hi, .int .i64 x_14.Kind, .int .i64 x_14.Watts]), (20, .int .i64 x_14.Kilos.Hi)]) (by simp) (by kernel_rfl) ⟨LGet.of hx_14 rfl, trivial⟩ (by kernel_rfl) ?_
          refine drR 2 1 (([x_14.Kilos.Hi] : List Int).map (AV.int .i64)) rfl rfl (fun _ => rfl) (by simp) rfl rfl ?_
          refine drE (some (.app (l_15.map (AV.int .i64)) l_15.length)) (some (LApp b_8.length (b_8.map (AV.int .i64)) (([x_14.Kilos.Hi] : List Int).map (AV.int .i64)) 1 (l_15.map (AV.int .i64)) l_15.length)) (.sl (l_15.map (AV.int .i64)) (some 0)) _ _ rfl rfl rfl rfl rfl (by kernel_rfl) (LApp.of hl_15 (fun _ => rfl)) ?_
          refine drS [0, 1, 2] 9 [(5, .rop (C_api_Load x_16))] [LGet (f_1.Loads.map A_api_Load) i_7 7 (C_api_Load x_16)] (mkS 37 [(1, .ptr 0 0), (2, .ptr 1 0), (3, .ptr 2 0), (4, .int .i64 i_7), (9, .bool (decide (i_7 < ((f_1.Loads.length : Nat) : Int)))), (12, .ptr 2 0), (13, .sl (b_8.map (AV.int .i64)) (some 0)), (14, .ptr 0 8), (15, .sl (f_1.Loads.map A_api_Load) none), (16, .int .i64 i_7), (17, .rop (C_api_Load x_14)), (18, .rop [.int .i64 x_14.Kilos.Lo, .int .i64 x_14.Kilos.Hi, .int .i64 x_14.Top.Lo, .int .i64 x_14.Top.Hi, .int .i64 x_14.Kind, .int .i64 x_14.Watts]), (19, .rop [.int .i64 x_14.Kilos.Hi, .int .i64 x_14.Top.Lo, .int .i64 x_14.Top.Hi, .int .i64 x_14.Kind, .int .i64 x_14.Watts]), (20, .int .i64 x_14.Kilos.Hi), (21, .sl (([x_14.Kilos.Hi] : List Int).map (AV.int .i64)) (some 2)), (22, .sl (l_15.map (AV.int .i64)) (some 0)), (23, .ptr 2 1), (24, .sl (b_9.map (AV.int .i64)) (some 1)), (25, .ptr 0 8), (26, .sl (f_1.Loads.map A_api_Load) none), (27, .int .i64 i_7), (28, .rop (C_api_Load x_16)), (29, .rop [.int .i64 x_16.Top.Lo, .int .i64 x_16.Top.Hi, .int .i64 x_16.Kind, .int .i64 x_16.Watts]), (30, .rop [.int .i64 x_16.Top.Hi, .int .i64 x_16.Kind, .int .i64 x_16.Watts]), (31, .int .i64 x_16.Top.Hi)]) (by simp) (by kernel_rfl) ⟨LGet.of hx_16 rfl, trivial⟩ (by kernel_rfl) ?_
          refine drR 3 1 (([x_16.Top.Hi] : List Int).map (AV.int .i64)) rfl rfl (fun _ => rfl) (by simp) rfl rfl ?_
          refine drE (some (.app (l_17.map (AV.int .i64)) l_17.length)) (some (LApp b_9.length (b_9.map (AV.int .i64)) (([x_16.Top.Hi] : List Int).map (AV.int .i64)) 1 (l_17.map (AV.int .i64)) l_17.length)) (.sl (l_17.map (AV.int .i64)) (some 1)) _ _ rfl rfl rfl rfl rfl (by kernel_rfl) (LApp.of hl_17 (fun _ => rfl)) ?_
          refine drS [0, 1, 2] 1 [] [] (mkS 37 [(1, .ptr 0 0), (2, .ptr 1 0), (3, .ptr 2 0), (4, .int .i64 i_7), (9, .bool (decide (i_7 < ((f_1.Loads.length : Nat) : Int)))), (12, .ptr 2 0), (13, .sl (b_8.map (AV.int .i64)) (some 0)), (14, .ptr 0 8), (15, .sl (f_1.Loads.map A_api_Load) none), (16, .int .i64 i_7), (17, .rop (C_api_Load x_14)), (18, .rop [.int .i64 x_14.Kilos.Lo, .int .i64 x_14.Kilos.Hi, .int .i64 x_14.Top.Lo, .int .i64 x_14.Top.Hi, .int .i64 x_14.Kind, .int .i64 x_14.Watts]), (19, .rop [.int .i64 x_14.Kilos.Hi, .int .i64 x_14.Top.Lo, .int .i64 x_14.Top.Hi, .int .i64 x_14.Kind, .int .i64 x_14.Watts]), (20, .int .i64 x_14.Kilos.Hi), (21, .sl (([x_14.Kilos.Hi] : List Int).map (AV.int .i64)) (some 2)), (22, .sl (l_15.map (AV.int .i64)) (some 0)), (23, .ptr 2 1), (24, .sl (b_9.map (AV.int .i64)) (some 1)), (25, .ptr 0 8), (26, .sl (f_1.Loads.map A_api_Load) none), (27, .int .i64 i_7), (28, .rop (C_api_Load x_16)), (29, .rop [.int .i64 x_16.Top.Lo, .int .i64 x_16.Top.Hi, .int .i64 x_16.Kind, .int .i64 x_16.Watts]), (30, .rop [.int .i64 x_16.Top.Hi, .int .i64 x_16.Kind, .int .i64 x_16.Watts]), (31, .int .i64 x_16.Top.Hi), (32, .sl (([x_16.Top.Hi] : List Int).map (AV.int .i64)) (some 3)), (33, .sl (l_17.map (AV.int .i64)) (some 1)), (34, .ptr 2 0)]) (by simp) (by kernel_rfl) trivial (by kernel_rfl) ?_
          exact DrO.nil rfl
        · dsimp only [List.getLastD_cons, List.getLastD_nil]
          refine runH 3 [] [1, 2, 3, 4] [] (mkS 37 [(1, .ptr 0 0), (2, .ptr 1 0), (3, .ptr 2 0), (4, .int .i64 i_7)]) (⟨[(C_api_Float f_1), [.nils, .nils], [.sl (l_15.map (AV.int .i64)) (some 0), .sl (l_17.map (AV.int .i64)) (some 1)]], [(l_15.length, 1), (l_17.length, 1), (1, 1), (1, 1)]⟩) (by kernel_rfl) trivial ?_
          refine ExO.nil ?_
          refine regH 3 [] [1, 2, 3, 4] [] (mkS 37 [(1, .ptr 0 0), (2, .ptr 1 0), (3, .ptr 2 0), (4, .int .i64 (IntKind.i64.wrap (i_7 + 1)))]) (⟨[(C_api_Float f_1), [.nils, .nils], [.sl (l_15.map (AV.int .i64)) (some 0), .sl (l_17.map (AV.int .i64)) (some 1)]], [(l_15.length, 1), (l_17.length, 1), (1, 1), (1, 1)]⟩) (by kernel_rfl) trivial rfl ?_
          dsimp only
          exact ⟨_, _, forgetA (m := 37) 3 [0, 1] [(1, .ptr 0 0), (2, .ptr 1 0), (3, .ptr 2 0), (4, .int .i64 (IntKind.i64.wrap (i_7 + 1)))] [(C_api_Float f_1), [.nils, .nils], [.sl (l_15.map (AV.int .i64)) (some 0), .sl (l_17.map (AV.int .i64)) (some 1)]] [(l_15.length, 1), (l_17.length, 1)] (by simp) (by simp) ⟨rfl, rfl, rfl, rfl, trivial⟩ (by simp [re, re1, AV.clean, List.idxOf?, List.findIdx?, List.findIdx?.go, cleanL, cleanI, cleanBo, cleanSt, cleanII, KL_bateriakit_Drum, KL_api_Span, KL_api_Load, KL_api_Float, KL_bateriaref02_Truth, KB_bateriakit_Drum, KB_api_Span, KB_api_Load, KB_api_Float, KB_bateriaref02_Truth]) rfl (by decide), k, Nat.lt_succ_self k, (IntKind.i64.wrap (i_7 + 1)), l_15, l_17, h, rfl, rfl⟩
      · refine Ex.condF _ rfl hc_13 ?_
        refine Ex.exit ?_
        (try simp only [reduceCtorEq, AEx.ex.injEq, Nat.reduceEqDiff, if_true, if_false])
        exact ⟨_, _, forgetK [2, 3], b_8, b_9, h, rfl, rfl⟩
  · rintro a S ⟨b_2, b_3, h, rfl, rfl⟩
    subst hK_6
    refine Ex.seq ?_
    refine regH 2 [] [2] [] (mkS 37 [(2, .ptr 1 0)]) (⟨[(C_api_Float f_1), [.sl (b_2.map (AV.int .i64)) (some 0), .sl (b_3.map (AV.int .i64)) (some 1)], [.sl (b_2.map (AV.int .i64)) (some 0), .sl (b_3.map (AV.int .i64)) (some 1)]], [(b_2.length, 1), (b_3.length, 1)]⟩) (by kernel_rfl) trivial rfl ?_
    refine Ex.ret ?_
    obtain rfl := Option.some.inj h
    exact ⟨.inr rfl, .agg [.sl (b_2.map (AV.int .i64)) (some 0), .sl (b_3.map (AV.int .i64)) (some 1)], by kernel_rfl, by kernel_rfl, by kernel_rfl, by kernel_rfl⟩
def p_bateriaref02_Total (N : Nat) (f_1 : T_api_Float) : Option (T_api_Span × Int) := ((p_bateriaref02_Check N f_1).bind fun r_2 => (bif (r_2 != 0) then some ((⟨0, 0⟩ : T_api_Span), r_2) else ((p_bateriaref02_Least N f_1).bind fun r_4 => ((p_bateriaref02_Weighs N f_1 r_4).bind fun r_5 => ((p_bateriaref02_Greatest N f_1).bind fun r_6 => ((p_bateriaref02_Weighs N f_1 r_6).bind fun r_8 => some ((⟨r_5, r_8⟩ : T_api_Span), 0)))))))
def v_bateriaref02_Total (r : T_api_Span × Int) : AV := .tup [(A_api_Span r.1), .int .i64 r.2]
theorem a_bateriaref02_Total (f_1 : T_api_Float) : [(A_api_Float f_1)].mapM (ren []) = some [(A_api_Float f_1)] := by simp [ren, ren1, AV.plain, AV.plain1, AV.clean, cleanL, cleanI, cleanBo, cleanSt, cleanII, KL_bateriakit_Drum, KL_api_Span, KL_api_Load, KL_api_Float, KL_bateriaref02_Truth, A_bateriakit_Drum, C_bateriakit_Drum, A_api_Span, C_api_Span, A_api_Load, C_api_Load, A_api_Float, C_api_Float, A_bateriaref02_Truth, C_bateriaref02_Truth]
theorem b_bateriaref02_Total (r : T_api_Span × Int) (n n2 m : Nat) : back n n2 m (v_bateriaref02_Total r) = some (v_bateriaref02_Total r) := by simp [v_bateriaref02_Total, back, back1, AV.plain, AV.plain1, AV.clean, cleanL, cleanI, cleanBo, cleanSt, cleanII, KL_bateriakit_Drum, KL_api_Span, KL_api_Load, KL_api_Float, KL_bateriaref02_Truth, A_bateriakit_Drum, C_bateriakit_Drum, A_api_Span, C_api_Span, A_api_Load, C_api_Load, A_api_Float, C_api_Float, A_bateriaref02_Truth, C_bateriaref02_Truth]
theorem d_bateriaref02_Total (N : Nat) (f_1 : T_api_Float) (r : T_api_Span × Int) (h : p_bateriaref02_Total N f_1 = some r) : Does Try.prog 44 [(A_api_Float f_1)] [] fun v c => v = v_bateriaref02_Total r ∧ c = [] := by
  unfold p_bateriaref02_Total at h
  refine Does.ofL comp44 _ _ rfl rfl ?_
  refine Ex.seq ?_
  refine regH 3 [] [1, 2] [] (mkS 20 [(1, .ptr 0 0), (2, .ptr 1 0)]) (⟨[(C_api_Float f_1), [.int .i64 0, .int .i64 0]], []⟩) (by kernel_rfl) trivial rfl ?_
  refine Ex.seq ?_
  refine Ex.seq ?_
  obtain ⟨r_2, hr_2, h⟩ := Option.bind_eq_some_iff.1 h
  refine Ex.reg ?_
  refine runH 1 [] [1, 2, 5] [] (mkS 20 [(1, .ptr 0 0), (2, .ptr 1 0), (5, (A_api_Float f_1))]) (⟨[(C_api_Float f_1), [.int .i64 0, .int .i64 0]], []⟩) (by kernel_rfl) trivial ?_
  refine ExO.callL [] [(A_api_Float f_1)] rfl rfl (a_bateriaref02_Check f_1) rfl rfl (d_bateriaref02_Check N f_1 r_2 hr_2) (b_bateriaref02_Check _ _ _ _) rfl ?_
  refine runH 1 [] [1, 2, 4] [] (mkS 20 [(1, .ptr 0 0), (2, .ptr 1 0), (4, .int .i64 r_2)]) (⟨[(C_api_Float f_1), [.int .i64 0, .int .i64 0]], []⟩) (by kernel_rfl) trivial ?_
  refine ExO.nil ?_
  refine Ex.seq ?_
  refine regH 2 [] [1, 2, 4, 8] [] (mkS 20 [(1, .ptr 0 0), (2, .ptr 1 0), (4, .int .i64 r_2), (8, .bool (r_2 != 0))]) (⟨[(C_api_Float f_1), [.int .i64 0, .int .i64 0]], []⟩) (by kernel_rfl) trivial rfl ?_
  rcases condI h with ⟨hc_3, h⟩ | ⟨hc_3, h⟩
  · refine Ex.condT _ rfl hc_3 ?_
    refine Ex.seq ?_
    refine regH 4 [] [2, 3] [] (mkS 20 [(2, .ptr 1 0), (3, .int .i64 r_2)]) (⟨[(C_api_Float f_1), [.int .i64 0, .int .i64 0]], []⟩) (by kernel_rfl) trivial rfl ?_
    refine Ex.ret ?_
    obtain rfl := Option.some.inj h
    exact ⟨.inr rfl, .tup [.agg [.int .i64 0, .int .i64 0], .int .i64 r_2], by kernel_rfl, by kernel_rfl, by kernel_rfl, by kernel_rfl⟩
  · refine Ex.condF _ rfl hc_3 ?_
    refine Ex.skip ?_
    refine Ex.seq ?_
    obtain ⟨r_4, hr_4, h⟩ := Option.bind_eq_some_iff.1 h
    obtain ⟨r_5, hr_5, h⟩ := Option.bind_eq_some_iff.1 h
    obtain ⟨r_6, hr_6, h⟩ := Option.bind_eq_some_iff.1 h
    have hT_7 : DoesA Try.prog [⟨86, [(A_api_Float f_1)], [], (v_bateriaref02_Least r_4), []⟩, ⟨21, [(A_api_Float f_1), (A_bateriaref02_Truth r_4)], [], (v_bateriaref02_Weighs r_5), []⟩, ⟨87, [(A_api_Float f_1)], [], (v_bateriaref02_Greatest r_6), []⟩] ∧ ConsA [⟨86, [(A_api_Float f_1)], [], (v_bateriaref02_Least r_4), []⟩, ⟨21, [(A_api_Float f_1), (A_bateriaref02_Truth r_4)], [], (v_bateriaref02_Weighs r_5), []⟩, ⟨87, [(A_api_Float f_1)], [], (v_bateriaref02_Greatest r_6), []⟩] := ⟨⟨(d_bateriaref02_Least N f_1 r_4 hr_4), rfl, (d_bateriaref02_Weighs N f_1 r_4 r_5 hr_5), rfl, (d_bateriaref02_Greatest N f_1 r_6 hr_6), rfl, trivial⟩, ⟨⟨ConsR.ne rfl, ConsR.ne rfl, trivial⟩, ⟨ConsR.ne rfl, trivial⟩, trivial, trivial⟩⟩
    refine Ex.drawE (a1 := mkS 20 [(1, .ptr 0 0), (2, .ptr 1 0), (4, .int .i64 r_2), (8, .bool (r_2 != 0)), (11, (A_api_Float f_1)), (12, (A_api_Float f_1)), (13, (A_bateriaref02_Truth r_4)), (14, .int .i64 r_5), (15, (A_api_Float f_1)), (16, (A_api_Float f_1)), (17, (A_bateriaref02_Truth r_6))]) (tabO_ok hT_7.1) [] [] [] ?_ ?_
    · refine drS [0, 1] 2 [] [] (mkS 20 [(1, .ptr 0 0), (2, .ptr 1 0), (4, .int .i64 r_2), (8, .bool (r_2 != 0)), (11, (A_api_Float f_1)), (12, (A_api_Float f_1))]) (by simp) (by kernel_rfl) trivial (by kernel_rfl) ?_
      refine drC hT_7.2 0 _ [(A_api_Float f_1)] (v_bateriaref02_Least r_4) rfl rfl rfl rfl rfl (fun _ => rfl) rfl (by simp [ren, ren1, AV.plain, AV.plain1, AV.clean, List.idxOf?, List.findIdx?, List.findIdx?.go, cleanL, cleanI, cleanBo, cleanSt, cleanII, KL_bateriakit_Drum, KL_api_Span, KL_api_Load, KL_api_Float, KL_bateriaref02_Truth, A_bateriakit_Drum, C_bateriakit_Drum, A_api_Span, C_api_Span, A_api_Load, C_api_Load, A_api_Float, C_api_Float, A_bateriaref02_Truth, C_bateriaref02_Truth]; try rfl) (fun _ => b_bateriaref02_Least _ _ _ _) ?_
      refine drC hT_7.2 1 _ [(A_api_Float f_1), (A_bateriaref02_Truth r_4)] (v_bateriaref02_Weighs r_5) rfl rfl rfl rfl rfl (fun _ => rfl) rfl (by simp [ren, ren1, AV.plain, AV.plain1, AV.clean, List.idxOf?, List.findIdx?, List.findIdx?.go, cleanL, cleanI, cleanBo, cleanSt, cleanII, KL_bateriakit_Drum, KL_api_Span, KL_api_Load, KL_api_Float, KL_bateriaref02_Truth, A_bateriakit_Drum, C_bateriakit_Drum, A_api_Span, C_api_Span, A_api_Load, C_api_Load, A_api_Float, C_api_Float, A_bateriaref02_Truth, C_bateriaref02_Truth]; try rfl) (fun _ => b_bateriaref02_Weighs _ _ _ _) ?_
      refine drS [0, 1] 2 [] [] (mkS 20 [(1, .ptr 0 0), (2, .ptr 1 0), (4, .int .i64 r_2), (8, .bool (r_2 != 0)), (11, (A_api_Float f_1)), (12, (A_api_Float f_1)), (13, (A_bateriaref02_Truth r_4)), (14, .int .i64 r_5), (15, (A_api_Float f_1)), (16, (A_api_Float f_1))]) (by simp) (by kernel_rfl) trivial (by kernel_rfl) ?_
      refine drC hT_7.2 2 _ [(A_api_Float f_1)] (v_bateriaref02_Greatest r_6) rfl rfl rfl rfl rfl (fun _ => rfl) rfl (by simp [ren, ren1, AV.plain, AV.plain1, AV.clean, List.idxOf?, List.findIdx?, List.findIdx?.go, cleanL, cleanI, cleanBo, cleanSt, cleanII, KL_bateriakit_Drum, KL_api_Span, KL_api_Load, KL_api_Float, KL_bateriaref02_Truth, A_bateriakit_Drum, C_bateriakit_Drum, A_api_Span, C_api_Span, A_api_Load, C_api_Load, A_api_Float, C_api_Float, A_bateriaref02_Truth, C_bateriaref02_Truth]; try rfl) (fun _ => b_bateriaref02_Greatest _ _ _ _) ?_
      exact DrO.nil rfl
    · dsimp only [List.getLastD_cons, List.getLastD_nil]
      obtain ⟨r_8, hr_8, h⟩ := Option.bind_eq_some_iff.1 h
      refine ExO.callL [] [(A_api_Float f_1), (A_bateriaref02_Truth r_6)] rfl rfl (a_bateriaref02_Weighs f_1 r_6) rfl rfl (d_bateriaref02_Weighs N f_1 r_6 r_8 hr_8) (b_bateriaref02_Weighs _ _ _ _) rfl ?_
      refine runH 3 [] [2, 3] [] (mkS 20 [(2, .ptr 1 0), (3, .int .i64 0)]) (⟨[(C_api_Float f_1), [.int .i64 r_5, .int .i64 r_8]], []⟩) (by kernel_rfl) trivial ?_
      refine ExO.nil ?_
      refine Ex.ret ?_
      obtain rfl := Option.some.inj h
      exact ⟨.inr rfl, .tup [.agg [.int .i64 r_5, .int .i64 r_8], .int .i64 0], by kernel_rfl, by kernel_rfl, by kernel_rfl, by kernel_rfl⟩
def p_bateriaref02_Carries (N : Nat) (f_1 : T_api_Float) (t_2 : T_bateriaref02_Truth) : Option (Int × Int) := (letJ (fun (front_3 : Int) (rear_4 : Int) => some (front_3, rear_4)) (fun k_5 => (loop3 (fun rec_11 (front_8 : Int) (rear_9 : Int) (i_10 : Int) => (bif (decide (i_10 < ((t_2.Kilos.length : Nat) : Int))) then ((getI f_1.Loads i_10).bind fun x_15 => ((getI t_2.Kilos i_10).bind fun x_16 => ((getI t_2.Kilos i_10).bind fun x_17 => (rec_11 (IntKind.i64.wrap (front_8 + (IntKind.i64.wrap (x_16 * (IntKind.i64.wrap (f_1.Rear - x_15.At)))))) (IntKind.i64.wrap (rear_9 + (IntKind.i64.wrap (x_17 * (IntKind.i64.wrap (x_15.At - f_1.Front)))))) (IntKind.i64.wrap (i_10 + 1)))))) else (k_5 front_8 rear_9))) N (IntKind.i64.wrap (f_1.Kilos * (IntKind.i64.wrap (f_1.Rear - f_1.Middle)))) (IntKind.i64.wrap (f_1.Kilos * (IntKind.i64.wrap (f_1.Middle - f_1.Front)))) 0)))
def v_bateriaref02_Carries (r : Int × Int) : AV := .tup [.int .i64 r.1, .int .i64 r.2]
theorem b_bateriaref02_Carries (r : Int × Int) (n n2 m : Nat) : back n n2 m (v_bateriaref02_Carries r) = some (v_bateriaref02_Carries r) := by simp [v_bateriaref02_Carries, back, back1, AV.plain, AV.plain1, AV.clean, cleanL, cleanI, cleanBo, cleanSt, cleanII, KL_bateriakit_Drum, KL_api_Span, KL_api_Load, KL_api_Float, KL_bateriaref02_Truth, A_bateriakit_Drum, C_bateriakit_Drum, A_api_Span, C_api_Span, A_api_Load, C_api_Load, A_api_Float, C_api_Float, A_bateriaref02_Truth, C_bateriaref02_Truth]
theorem d_bateriaref02_Carries (N : Nat) (f_1 : T_api_Float) (t_2 : T_bateriaref02_Truth) (r : Int × Int) (h : p_bateriaref02_Carries N f_1 t_2 = some r) : Does Try.prog 19 [(A_api_Float f_1), (A_bateriaref02_Truth t_2)] [] fun v c => v = v_bateriaref02_Carries r ∧ c = [] := by
  unfold p_bateriaref02_Carries at h
  refine Does.ofL comp19 _ _ rfl rfl ?_
  refine Ex.seq ?_
  refine regH 4 [] [2, 3] [] (mkS 65 [(2, .ptr 0 0), (3, .ptr 1 0)]) (⟨[(C_api_Float f_1), (C_bateriaref02_Truth t_2)], []⟩) (by kernel_rfl) trivial rfl ?_
  refine Ex.seq ?_
  refine Ex.drawE (a1 := mkS 65 [(2, .ptr 0 0), (3, .ptr 1 0), (6, .int .i64 (IntKind.i64.wrap (f_1.Kilos * (IntKind.i64.wrap (f_1.Rear - f_1.Middle))))), (10, .ptr 0 5), (11, .int .i64 f_1.Kilos), (12, .ptr 0 3), (13, .int .i64 f_1.Rear), (14, .ptr 0 6), (15, .int .i64 f_1.Middle), (16, .int .i64 (IntKind.i64.wrap (f_1.Rear - f_1.Middle))), (17, .int .i64 (IntKind.i64.wrap (f_1.Kilos * (IntKind.i64.wrap (f_1.Rear - f_1.Middle))))), (18, .ptr 0 5), (19, .int .i64 f_1.Kilos), (20, .ptr 0 6), (21, .int .i64 f_1.Middle), (22, .ptr 0 2), (23, .int .i64 f_1.Front), (24, .int .i64 (IntKind.i64.wrap (f_1.Middle - f_1.Front))), (25, .int .i64 (IntKind.i64.wrap (f_1.Kilos * (IntKind.i64.wrap (f_1.Middle - f_1.Front)))))]) (noClr_ok _) [] [] [] ?_ ?_
  · refine drS [0, 1] 17 [] [] (mkS 65 [(2, .ptr 0 0), (3, .ptr 1 0), (6, .int .i64 (IntKind.i64.wrap (f_1.Kilos * (IntKind.i64.wrap (f_1.Rear - f_1.Middle))))), (10, .ptr 0 5), (11, .int .i64 f_1.Kilos), (12, .ptr 0 3), (13, .int .i64 f_1.Rear), (14, .ptr 0 6), (15, .int .i64 f_1.Middle), (16, .int .i64 (IntKind.i64.wrap (f_1.Rear - f_1.Middle))), (17, .int .i64 (IntKind.i64.wrap (f_1.Kilos * (IntKind.i64.wrap (f_1.Rear - f_1.Middle))))), (18, .ptr 0 5), (19, .int .i64 f_1.Kilos), (20, .ptr 0 6), (21, .int .i64 f_1.Middle), (22, .ptr 0 2), (23, .int .i64 f_1.Front), (24, .int .i64 (IntKind.i64.wrap (f_1.Middle - f_1.Front))), (25, .int .i64 (IntKind.i64.wrap (f_1.Kilos * (IntKind.i64.wrap (f_1.Middle - f_1.Front)))))]) (by simp) (by kernel_rfl) trivial (by kernel_rfl) ?_
    exact DrO.nil rfl
  · dsimp only [List.getLastD_cons, List.getLastD_nil]
    refine runH 1 [] [2, 3, 6, 7] [] (mkS 65 [(2, .ptr 0 0), (3, .ptr 1 0), (6, .int .i64 (IntKind.i64.wrap (f_1.Kilos * (IntKind.i64.wrap (f_1.Rear - f_1.Middle))))), (7, .int .i64 (IntKind.i64.wrap (f_1.Kilos * (IntKind.i64.wrap (f_1.Middle - f_1.Front)))))]) (⟨[(C_api_Float f_1), (C_bateriaref02_Truth t_2)], []⟩) (by kernel_rfl) trivial ?_
    refine ExO.nil ?_
    refine Ex.seq ?_
    refine Ex.seq ?_
    refine regH 1 [] [2, 3, 6, 7, 8] [] (mkS 65 [(2, .ptr 0 0), (3, .ptr 1 0), (6, .int .i64 (IntKind.i64.wrap (f_1.Kilos * (IntKind.i64.wrap (f_1.Rear - f_1.Middle))))), (7, .int .i64 (IntKind.i64.wrap (f_1.Kilos * (IntKind.i64.wrap (f_1.Middle - f_1.Front))))), (8, .int .i64 0)]) (⟨[(C_api_Float f_1), (C_bateriaref02_Truth t_2)], []⟩) (by kernel_rfl) trivial rfl ?_
    obtain ⟨K_6, hK_7, h⟩ := letE h
    refine Ex.blockJ (fun a S => ∃ (front_3 : Int), ∃ (rear_4 : Int), K_6 front_3 rear_4 = some r ∧ a = mkS 65 [(6, .int .i64 front_3), (7, .int .i64 rear_4)] ∧ S = ⟨[], []⟩) ?_ ?_ (by first | exact fun _ _ _ _ hf h => Ex.forget hf h | exact fun _ _ _ _ hf ⟨a2, S2, hf2, h⟩ => ⟨a2, S2, hf.trans hf2, h⟩)
    · obtain ⟨B_12, hB_13, h⟩ := loop3I h
      refine Ex.loopF (fun k a S => ∃ (front_8 : Int), ∃ (rear_9 : Int), ∃ (i_10 : Int), loop3 B_12 k front_8 rear_9 i_10 = some r ∧ a = mkS 65 [(2, .ptr 0 0), (3, .ptr 1 0), (6, .int .i64 front_8), (7, .int .i64 rear_9), (8, .int .i64 i_10)] ∧ S = ⟨[(C_api_Float f_1), (C_bateriaref02_Truth t_2)], []⟩) N ⟨_, _, Forgets.refl _ _ _, (IntKind.i64.wrap (f_1.Kilos * (IntKind.i64.wrap (f_1.Rear - f_1.Middle)))), (IntKind.i64.wrap (f_1.Kilos * (IntKind.i64.wrap (f_1.Middle - f_1.Front)))), 0, h, rfl, rfl⟩ ?_
      rintro k a S ⟨front_8, rear_9, i_10, h, rfl, rfl⟩
      cases k with
      | zero => exact (loop3Z h).elim
      | succ k =>
        replace h := loop3S h hB_13
        refine Ex.seq ?_
        refine Ex.seq ?_
        refine regH 5 [(3, .eq (.int .i64 ((t_2.Kilos.length : Nat) : Int)))] [2, 3, 6, 7, 8, 30] [AV.int .i64 (((t_2.Kilos.map (AV.int .i64)).length : Nat) : Int) = AV.int .i64 ((t_2.Kilos.length : Nat) : Int)] (mkS 65 [(2, .ptr 0 0), (3, .ptr 1 0), (6, .int .i64 front_8), (7, .int .i64 rear_9), (8, .int .i64 i_10), (30, .bool (decide (i_10 < ((t_2.Kilos.length : Nat) : Int))))]) (⟨[(C_api_Float f_1), (C_bateriaref02_Truth t_2)], []⟩) (by kernel_rfl) ⟨lenM _ _, trivial⟩ rfl ?_
        rcases condI h with ⟨hc_14, h⟩ | ⟨hc_14, h⟩
        · refine Ex.condT _ rfl hc_14 ?_
          refine Ex.skip ?_
          refine Ex.seq ?_
          refine Ex.blockK ?_
          refine Ex.seq ?_
          obtain ⟨x_15, hx_15, h⟩ := Option.bind_eq_some_iff.1 h
          refine regH 7 [(3, .rop (C_api_Load x_15))] [2, 3, 6, 7, 8, 9] [LGet (f_1.Loads.map A_api_Load) i_10 7 (C_api_Load x_15)] (mkS 65 [(2, .ptr 0 0), (3, .ptr 1 0), (6, .int .i64 front_8), (7, .int .i64 rear_9), (8, .int .i64 i_10), (9, .int .i64 x_15.At)]) (⟨[(C_api_Float f_1), (C_bateriaref02_Truth t_2)], []⟩) (by kernel_rfl) ⟨LGet.of hx_15 rfl, trivial⟩ rfl ?_
          obtain ⟨x_16, hx_16, h⟩ := Option.bind_eq_some_iff.1 h
          obtain ⟨x_17, hx_17, h⟩ := Option.bind_eq_some_iff.1 h
          refine Ex.drawE (a1 := mkS 65 [(2, .ptr 0 0), (3, .ptr 1 0), (6, .int .i64 (IntKind.i64.wrap (front_8 + (IntKind.i64.wrap (x_16 * (IntKind.i64.wrap (f_1.Rear - x_15.At))))))), (7, .int .i64 rear_9), (8, .int .i64 i_10), (9, .int .i64 x_15.At), (39, .int .i64 front_8), (40, .ptr 1 0), (41, .sl (t_2.Kilos.map (AV.int .i64)) none), (42, .int .i64 i_10), (43, .rop [.int .i64 x_16]), (44, .int .i64 x_16), (45, .ptr 0 3), (46, .int .i64 f_1.Rear), (47, .int .i64 x_15.At), (48, .int .i64 (IntKind.i64.wrap (f_1.Rear - x_15.At))), (49, .int .i64 (IntKind.i64.wrap (x_16 * (IntKind.i64.wrap (f_1.Rear - x_15.At))))), (50, .int .i64 (IntKind.i64.wrap (front_8 + (IntKind.i64.wrap (x_16 * (IntKind.i64.wrap (f_1.Rear - x_15.At))))))), (51, .int .i64 rear_9), (52, .ptr 1 0), (53, .sl (t_2.Kilos.map (AV.int .i64)) none), (54, .int .i64 i_10), (55, .rop [.int .i64 x_17]), (56, .int .i64 x_17), (57, .int .i64 x_15.At), (58, .ptr 0 2), (59, .int .i64 f_1.Front), (60, .int .i64 (IntKind.i64.wrap (x_15.At - f_1.Front))), (61, .int .i64 (IntKind.i64.wrap (x_17 * (IntKind.i64.wrap (x_15.At - f_1.Front))))), (62, .int .i64 (IntKind.i64.wrap (rear_9 + (IntKind.i64.wrap (x_17 * (IntKind.i64.wrap (x_15.At - f_1.Front)))))))]) (noClr_ok _) [] [] [] ?_ ?_
          · refine drS [0, 1] 25 [(4, .rop [.int .i64 x_16]), (16, .rop [.int .i64 x_17])] [LGet (t_2.Kilos.map (AV.int .i64)) i_10 1 [.int .i64 x_16], LGet (t_2.Kilos.map (AV.int .i64)) i_10 1 [.int .i64 x_17]] (mkS 65 [(2, .ptr 0 0), (3, .ptr 1 0), (6, .int .i64 (IntKind.i64.wrap (front_8 + (IntKind.i64.wrap (x_16 * (IntKind.i64.wrap (f_1.Rear - x_15.At))))))), (7, .int .i64 rear_9), (8, .int .i64 i_10), (9, .int .i64 x_15.At), (39, .int .i64 front_8), (40, .ptr 1 0), (41, .sl (t_2.Kilos.map (AV.int .i64)) none), (42, .int .i64 i_10), (43, .rop [.int .i64 x_16]), (44, .int .i64 x_16), (45, .ptr 0 3), (46, .int .i64 f_1.Rear), (47, .int .i64 x_15.At), (48, .int .i64 (IntKind.i64.wrap (f_1.Rear - x_15.At))), (49, .int .i64 (IntKind.i64.wrap (x_16 * (IntKind.i64.wrap (f_1.Rear - x_15.At))))), (50, .int .i64 (IntKind.i64.wrap (front_8 + (IntKind.i64.wrap (x_16 * (IntKind.i64.wrap (f_1.Rear - x_15.At))))))), (51, .int .i64 rear_9), (52, .ptr 1 0), (53, .sl (t_2.Kilos.map (AV.int .i64)) none), (54, .int .i64 i_10), (55, .rop [.int .i64 x_17]), (56, .int .i64 x_17), (57, .int .i64 x_15.At), (58, .ptr 0 2), (59, .int .i64 f_1.Front), (60, .int .i64 (IntKind.i64.wrap (x_15.At - f_1.Front))), (61, .int .i64 (IntKind.i64.wrap (x_17 * (IntKind.i64.wrap (x_15.At - f_1.Front))))), (62, .int .i64 (IntKind.i64.wrap (rear_9 + (IntKind.i64.wrap (x_17 * (IntKind.i64.wrap (x_15.At - f_1.Front)))))))]) (by simp) (by kernel_rfl) ⟨LGet.of hx_16 rfl, LGet.of hx_17 rfl, trivial⟩ (by kernel_rfl) ?_
            exact DrO.nil rfl
          · dsimp only [List.getLastD_cons, List.getLastD_nil]
            refine runH 1 [] [2, 3, 6, 7, 8] [] (mkS 65 [(2, .ptr 0 0), (3, .ptr 1 0), (6, .int .i64 (IntKind.i64.wrap (front_8 + (IntKind.i64.wrap (x_16 * (IntKind.i64.wrap (f_1.Rear - x_15.At))))))), (7, .int .i64 (IntKind.i64.wrap (rear_9 + (IntKind.i64.wrap (x_17 * (IntKind.i64.wrap (x_15.At - f_1.Front))))))), (8, .int .i64 i_10)]) (⟨[(C_api_Float f_1), (C_bateriaref02_Truth t_2)], []⟩) (by kernel_rfl) trivial ?_
            refine ExO.nil ?_
            refine regH 3 [] [2, 3, 6, 7, 8] [] (mkS 65 [(2, .ptr 0 0), (3, .ptr 1 0), (6, .int .i64 (IntKind.i64.wrap (front_8 + (IntKind.i64.wrap (x_16 * (IntKind.i64.wrap (f_1.Rear - x_15.At))))))), (7, .int .i64 (IntKind.i64.wrap (rear_9 + (IntKind.i64.wrap (x_17 * (IntKind.i64.wrap (x_15.At - f_1.Front))))))), (8, .int .i64 (IntKind.i64.wrap (i_10 + 1)))]) (⟨[(C_api_Float f_1), (C_bateriaref02_Truth t_2)], []⟩) (by kernel_rfl) trivial rfl ?_
            dsimp only
            exact ⟨_, _, Forgets.refl _ _ _, k, Nat.lt_succ_self k, (IntKind.i64.wrap (front_8 + (IntKind.i64.wrap (x_16 * (IntKind.i64.wrap (f_1.Rear - x_15.At)))))), (IntKind.i64.wrap (rear_9 + (IntKind.i64.wrap (x_17 * (IntKind.i64.wrap (x_15.At - f_1.Front)))))), (IntKind.i64.wrap (i_10 + 1)), h, rfl, rfl⟩
        · refine Ex.condF _ rfl hc_14 ?_
          refine Ex.exit ?_
          (try simp only [reduceCtorEq, AEx.ex.injEq, Nat.reduceEqDiff, if_true, if_false])
          exact ⟨_, _, forgetA (m := 65) 0 [] [(6, .int .i64 front_8), (7, .int .i64 rear_9)] [] [] (by simp) (by simp) ⟨rfl, rfl, trivial⟩ (by simp [re, re1, AV.clean, List.idxOf?, List.findIdx?, List.findIdx?.go, cleanL, cleanI, cleanBo, cleanSt, cleanII, KL_bateriakit_Drum, KL_api_Span, KL_api_Load, KL_api_Float, KL_bateriaref02_Truth, KB_bateriakit_Drum, KB_api_Span, KB_api_Load, KB_api_Float, KB_bateriaref02_Truth]) rfl (by decide), front_8, rear_9, h, rfl, rfl⟩
    · rintro a S ⟨front_3, rear_4, h, rfl, rfl⟩
      subst hK_7
      refine Ex.seq ?_
      refine regH 4 [] [4, 5] [] (mkS 65 [(4, .int .i64 front_3), (5, .int .i64 rear_4)]) (⟨[], []⟩) (by kernel_rfl) trivial rfl ?_
      refine Ex.ret ?_
      obtain rfl := Option.some.inj h
      exact ⟨.inr rfl, .tup [.int .i64 front_3, .int .i64 rear_4], by kernel_rfl, by kernel_rfl, by kernel_rfl, by kernel_rfl⟩
def p_bateriaref02_Down (N : Nat) (n_1 : Int) (d_2 : Int) : Option (Int) := ((nzI d_2).bind fun u_3 => ((nzI d_2).bind fun u_4 => (bif (decide ((Int.tmod n_1 d_2) < 0)) then some (IntKind.i64.wrap ((IntKind.i64.wrap (Int.tdiv n_1 d_2)) - 1)) else some (IntKind.i64.wrap (Int.tdiv n_1 d_2)))))
def v_bateriaref02_Down (r : Int) : AV := .int .i64 r
theorem a_bateriaref02_Down (n_1 : Int) (d_2 : Int) : [.int .i64 n_1, .int .i64 d_2].mapM (ren []) = some [.int .i64 n_1, .int .i64 d_2] := by simp [ren, ren1, AV.plain, AV.plain1, AV.clean, cleanL, cleanI, cleanBo, cleanSt, cleanII, KL_bateriakit_Drum, KL_api_Span, KL_api_Load, KL_api_Float, KL_bateriaref02_Truth, A_bateriakit_Drum, C_bateriakit_Drum, A_api_Span, C_api_Span, A_api_Load, C_api_Load, A_api_Float, C_api_Float, A_bateriaref02_Truth, C_bateriaref02_Truth]
theorem b_bateriaref02_Down (r : Int) (n n2 m : Nat) : back n n2 m (v_bateriaref02_Down r) = some (v_bateriaref02_Down r) := by simp [v_bateriaref02_Down, back, back1, AV.plain, AV.plain1, AV.clean, cleanL, cleanI, cleanBo, cleanSt, cleanII, KL_bateriakit_Drum, KL_api_Span, KL_api_Load, KL_api_Float, KL_bateriaref02_Truth, A_bateriakit_Drum, C_bateriakit_Drum, A_api_Span, C_api_Span, A_api_Load, C_api_Load, A_api_Float, C_api_Float, A_bateriaref02_Truth, C_bateriaref02_Truth]
theorem d_bateriaref02_Down (N : Nat) (n_1 : Int) (d_2 : Int) (r : Int) (h : p_bateriaref02_Down N n_1 d_2 = some r) : Does Try.prog 30 [.int .i64 n_1, .int .i64 d_2] [] fun v c => v = v_bateriaref02_Down r ∧ c = [] := by
  unfold p_bateriaref02_Down at h
  refine Does.ofL comp30 _ _ rfl rfl ?_
  refine Ex.seq ?_
  refine regH 1 [] [0, 1] [] (mkS 16 [(0, .int .i64 n_1), (1, .int .i64 d_2)]) (⟨[], []⟩) (by kernel_rfl) trivial rfl ?_
  refine Ex.seq ?_
  obtain ⟨u_3, hu_3, h⟩ := Option.bind_eq_some_iff.1 h
  refine regH 4 [(2, .bin (.int .i64 (IntKind.i64.wrap (Int.tdiv n_1 d_2))))] [0, 1, 5] [binA .quo (.int .i64 n_1) (.int .i64 d_2) = some (.int .i64 (IntKind.i64.wrap (Int.tdiv n_1 d_2)))] (mkS 16 [(0, .int .i64 n_1), (1, .int .i64 d_2), (5, .int .i64 (IntKind.i64.wrap (Int.tdiv n_1 d_2)))]) (⟨[], []⟩) (by kernel_rfl) ⟨binQ hu_3, trivial⟩ rfl ?_
  refine Ex.seq ?_
  refine Ex.seq ?_
  obtain ⟨u_4, hu_4, h⟩ := Option.bind_eq_some_iff.1 h
  refine regH 4 [(2, .bin (.int .i64 (Int.tmod n_1 d_2)))] [5, 12] [binA .rem (.int .i64 n_1) (.int .i64 d_2) = some (.int .i64 (Int.tmod n_1 d_2))] (mkS 16 [(5, .int .i64 (IntKind.i64.wrap (Int.tdiv n_1 d_2))), (12, .bool (decide ((Int.tmod n_1 d_2) < 0)))]) (⟨[], []⟩) (by kernel_rfl) ⟨binR hu_4, trivial⟩ rfl ?_
  rcases condI h with ⟨hc_5, h⟩ | ⟨hc_5, h⟩
  · refine Ex.condT _ rfl hc_5 ?_
    refine regH 3 [] [5] [] (mkS 16 [(5, .int .i64 (IntKind.i64.wrap ((IntKind.i64.wrap (Int.tdiv n_1 d_2)) - 1)))]) (⟨[], []⟩) (by kernel_rfl) trivial rfl ?_
    refine Ex.seq ?_
    refine regH 2 [] [4] [] (mkS 16 [(4, .int .i64 (IntKind.i64.wrap ((IntKind.i64.wrap (Int.tdiv n_1 d_2)) - 1)))]) (⟨[], []⟩) (by kernel_rfl) trivial rfl ?_
    refine Ex.ret ?_
    obtain rfl := Option.some.inj h
    exact ⟨.inr rfl, .int .i64 (IntKind.i64.wrap ((IntKind.i64.wrap (Int.tdiv n_1 d_2)) - 1)), by kernel_rfl, by kernel_rfl, by kernel_rfl, by kernel_rfl⟩
  · refine Ex.condF _ rfl hc_5 ?_
    refine Ex.skip ?_
    refine Ex.seq ?_
    refine regH 2 [] [4] [] (mkS 16 [(4, .int .i64 (IntKind.i64.wrap (Int.tdiv n_1 d_2)))]) (⟨[], []⟩) (by kernel_rfl) trivial rfl ?_
    refine Ex.ret ?_
    obtain rfl := Option.some.inj h
    exact ⟨.inr rfl, .int .i64 (IntKind.i64.wrap (Int.tdiv n_1 d_2)), by kernel_rfl, by kernel_rfl, by kernel_rfl, by kernel_rfl⟩
def p_bateriaref02_Up (N : Nat) (n_1 : Int) (d_2 : Int) : Option (Int) := ((p_bateriaref02_Down N (IntKind.i64.wrap (0 - n_1)) d_2).bind fun r_3 => some (IntKind.i64.wrap (0 - r_3)))
def v_bateriaref02_Up (r : Int) : AV := .int .i64 r
theorem a_bateriaref02_Up (n_1 : Int) (d_2 : Int) : [.int .i64 n_1, .int .i64 d_2].mapM (ren []) = some [.int .i64 n_1, .int .i64 d_2] := by simp [ren, ren1, AV.plain, AV.plain1, AV.clean, cleanL, cleanI, cleanBo, cleanSt, cleanII, KL_bateriakit_Drum, KL_api_Span, KL_api_Load, KL_api_Float, KL_bateriaref02_Truth, A_bateriakit_Drum, C_bateriakit_Drum, A_api_Span, C_api_Span, A_api_Load, C_api_Load, A_api_Float, C_api_Float, A_bateriaref02_Truth, C_bateriaref02_Truth]
theorem b_bateriaref02_Up (r : Int) (n n2 m : Nat) : back n n2 m (v_bateriaref02_Up r) = some (v_bateriaref02_Up r) := by simp [v_bateriaref02_Up, back, back1, AV.plain, AV.plain1, AV.clean, cleanL, cleanI, cleanBo, cleanSt, cleanII, KL_bateriakit_Drum, KL_api_Span, KL_api_Load, KL_api_Float, KL_bateriaref02_Truth, A_bateriakit_Drum, C_bateriakit_Drum, A_api_Span, C_api_Span, A_api_Load, C_api_Load, A_api_Float, C_api_Float, A_bateriaref02_Truth, C_bateriaref02_Truth]
theorem d_bateriaref02_Up (N : Nat) (n_1 : Int) (d_2 : Int) (r : Int) (h : p_bateriaref02_Up N n_1 d_2 = some r) : Does Try.prog 31 [.int .i64 n_1, .int .i64 d_2] [] fun v c => v = v_bateriaref02_Up r ∧ c = [] := by
  unfold p_bateriaref02_Up at h
  refine Does.ofL comp31 _ _ rfl rfl ?_
  refine Ex.seq ?_
  refine regH 1 [] [0, 1] [] (mkS 10 [(0, .int .i64 n_1), (1, .int .i64 d_2)]) (⟨[], []⟩) (by kernel_rfl) trivial rfl ?_
  refine Ex.seq ?_
  obtain ⟨r_3, hr_3, h⟩ := Option.bind_eq_some_iff.1 h
  refine Ex.reg ?_
  refine runH 3 [] [6, 7] [] (mkS 10 [(6, .int .i64 (IntKind.i64.wrap (0 - n_1))), (7, .int .i64 d_2)]) (⟨[], []⟩) (by kernel_rfl) trivial ?_
  refine ExO.callL [] [.int .i64 (IntKind.i64.wrap (0 - n_1)), .int .i64 d_2] rfl rfl (a_bateriaref02_Down (IntKind.i64.wrap (0 - n_1)) d_2) rfl rfl (d_bateriaref02_Down N (IntKind.i64.wrap (0 - n_1)) d_2 r_3 hr_3) (b_bateriaref02_Down _ _ _ _) rfl ?_
  refine runH 2 [] [4] [] (mkS 10 [(4, .int .i64 (IntKind.i64.wrap (0 - r_3)))]) (⟨[], []⟩) (by kernel_rfl) trivial ?_
  refine ExO.nil ?_
  refine Ex.ret ?_
  obtain rfl := Option.some.inj h
  exact ⟨.inr rfl, .int .i64 (IntKind.i64.wrap (0 - r_3)), by kernel_rfl, by kernel_rfl, by kernel_rfl, by kernel_rfl⟩
def p_bateriaref02_Axles (N : Nat) (f_1 : T_api_Float) : Option (T_api_Span × T_api_Span × Int) := ((p_bateriaref02_Check N f_1).bind fun r_2 => (bif (r_2 != 0) then some ((⟨0, 0⟩ : T_api_Span), (⟨0, 0⟩ : T_api_Span), r_2) else ((p_bateriaref02_Least N f_1).bind fun r_4 => ((p_bateriaref02_Carries N f_1 r_4).bind fun r_5 => ((p_bateriaref02_Greatest N f_1).bind fun r_7 => ((p_bateriaref02_Carries N f_1 r_7).bind fun r_8 => ((p_bateriaref02_Down N r_5.1 (IntKind.i64.wrap (f_1.Rear - f_1.Front))).bind fun r_10 => ((p_bateriaref02_Up N r_8.1 (IntKind.i64.wrap (f_1.Rear - f_1.Front))).bind fun r_11 => ((p_bateriaref02_Down N r_5.2 (IntKind.i64.wrap (f_1.Rear - f_1.Front))).bind fun r_12 => ((p_bateriaref02_Up N r_8.2 (IntKind.i64.wrap (f_1.Rear - f_1.Front))).bind fun r_13 => some ((⟨r_10, r_11⟩ : T_api_Span), (⟨r_12, r_13⟩ : T_api_Span), 0)))))))))))
def v_bateriaref02_Axles (r : T_api_Span × T_api_Span × Int) : AV := .tup [(A_api_Span r.1), (A_api_Span r.2.1), .int .i64 r.2.2]
theorem a_bateriaref02_Axles (f_1 : T_api_Float) : [(A_api_Float f_1)].mapM (ren []) = some [(A_api_Float f_1)] := by simp [ren, ren1, AV.plain, AV.plain1, AV.clean, cleanL, cleanI, cleanBo, cleanSt, cleanII, KL_bateriakit_Drum, KL_api_Span, KL_api_Load, KL_api_Float, KL_bateriaref02_Truth, A_bateriakit_Drum, C_bateriakit_Drum, A_api_Span, C_api_Span, A_api_Load, C_api_Load, A_api_Float, C_api_Float, A_bateriaref02_Truth, C_bateriaref02_Truth]
theorem b_bateriaref02_Axles (r : T_api_Span × T_api_Span × Int) (n n2 m : Nat) : back n n2 m (v_bateriaref02_Axles r) = some (v_bateriaref02_Axles r) := by simp [v_bateriaref02_Axles, back, back1, AV.plain, AV.plain1, AV.clean, cleanL, cleanI, cleanBo, cleanSt, cleanII, KL_bateriakit_Drum, KL_api_Span, KL_api_Load, KL_api_Float, KL_bateriaref02_Truth, A_bateriakit_Drum, C_bateriakit_Drum, A_api_Span, C_api_Span, A_api_Load, C_api_Load, A_api_Float, C_api_Float, A_bateriaref02_Truth, C_bateriaref02_Truth]
theorem d_bateriaref02_Axles (N : Nat) (f_1 : T_api_Float) (r : T_api_Span × T_api_Span × Int) (h : p_bateriaref02_Axles N f_1 = some r) : Does Try.prog 45 [(A_api_Float f_1)] [] fun v c => v = v_bateriaref02_Axles r ∧ c = [] := by
  unfold p_bateriaref02_Axles at h
  refine Does.ofL comp45 _ _ rfl rfl ?_
  refine Ex.seq ?_
  refine regH 4 [] [1, 2, 3] [] (mkS 51 [(1, .ptr 0 0), (2, .ptr 1 0), (3, .ptr 2 0)]) (⟨[(C_api_Float f_1), [.int .i64 0, .int .i64 0], [.int .i64 0, .int .i64 0]], []⟩) (by kernel_rfl) trivial rfl ?_
  refine Ex.seq ?_
  refine Ex.seq ?_
  obtain ⟨r_2, hr_2, h⟩ := Option.bind_eq_some_iff.1 h
  refine Ex.reg ?_
  refine runH 1 [] [1, 2, 3, 11] [] (mkS 51 [(1, .ptr 0 0), (2, .ptr 1 0), (3, .ptr 2 0), (11, (A_api_Float f_1))]) (⟨[(C_api_Float f_1), [.int .i64 0, .int .i64 0], [.int .i64 0, .int .i64 0]], []⟩) (by kernel_rfl) trivial ?_
  refine ExO.callL [] [(A_api_Float f_1)] rfl rfl (a_bateriaref02_Check f_1) rfl rfl (d_bateriaref02_Check N f_1 r_2 hr_2) (b_bateriaref02_Check _ _ _ _) rfl ?_
  refine runH 1 [] [1, 2, 3, 5] [] (mkS 51 [(1, .ptr 0 0), (2, .ptr 1 0), (3, .ptr 2 0), (5, .int .i64 r_2)]) (⟨[(C_api_Float f_1), [.int .i64 0, .int .i64 0], [.int .i64 0, .int .i64 0]], []⟩) (by kernel_rfl) trivial ?_
  refine ExO.nil ?_
  refine Ex.seq ?_
  refine regH 2 [] [1, 2, 3, 5, 14] [] (mkS 51 [(1, .ptr 0 0), (2, .ptr 1 0), (3, .ptr 2 0), (5, .int .i64 r_2), (14, .bool (r_2 != 0))]) (⟨[(C_api_Float f_1), [.int .i64 0, .int .i64 0], [.int .i64 0, .int .i64 0]], []⟩) (by kernel_rfl) trivial rfl ?_
  rcases condI h with ⟨hc_3, h⟩ | ⟨hc_3, h⟩
  · refine Ex.condT _ rfl hc_3 ?_
    refine Ex.seq ?_
    refine regH 6 [] [2, 3, 4] [] (mkS 51 [(2, .ptr 1 0), (3, .ptr 2 0), (4, .int .i64 r_2)]) (⟨[(C_api_Float f_1), [.int .i64 0, .int .i64 0], [.int .i64 0, .int .i64 0]], []⟩) (by kernel_rfl) trivial rfl ?_
    refine Ex.ret ?_
    obtain rfl := Option.some.inj h
    exact ⟨.inr rfl, .tup [.agg [.int .i64 0, .int .i64 0], .agg [.int .i64 0, .int .i64 0], .int .i64 r_2], by kernel_rfl, by kernel_rfl, by kernel_rfl, by kernel_rfl⟩
  · refine Ex.condF _ rfl hc_3 ?_
    refine Ex.skip ?_
    refine Ex.seq ?_
    obtain ⟨r_4, hr_4, h⟩ := Option.bind_eq_some_iff.1 h
    obtain ⟨r_5, hr_5, h⟩ := Option.bind_eq_some_iff.1 h
    have hT_6 : DoesA Try.prog [⟨86, [(A_api_Float f_1)], [], (v_bateriaref02_Least r_4), []⟩, ⟨19, [(A_api_Float f_1), (A_bateriaref02_Truth r_4)], [], (v_bateriaref02_Carries r_5), []⟩] ∧ ConsA [⟨86, [(A_api_Float f_1)], [], (v_bateriaref02_Least r_4), []⟩, ⟨19, [(A_api_Float f_1), (A_bateriaref02_Truth r_4)], [], (v_bateriaref02_Carries r_5), []⟩] := ⟨⟨(d_bateriaref02_Least N f_1 r_4 hr_4), rfl, (d_bateriaref02_Carries N f_1 r_4 r_5 hr_5), rfl, trivial⟩, ⟨⟨ConsR.ne rfl, trivial⟩, trivial, trivial⟩⟩
    refine Ex.drawE (a1 := mkS 51 [(1, .ptr 0 0), (2, .ptr 1 0), (3, .ptr 2 0), (5, .int .i64 r_2), (6, .int .i64 r_5.1), (14, .bool (r_2 != 0)), (18, .tup [.int .i64 r_5.1, .int .i64 r_5.2]), (19, (A_api_Float f_1)), (20, (A_api_Float f_1)), (21, (A_bateriaref02_Truth r_4)), (22, .tup [.int .i64 r_5.1, .int .i64 r_5.2]), (23, .int .i64 r_5.1), (24, .int .i64 r_5.2)]) (tabO_ok hT_6.1) [] [] [] ?_ ?_
    · refine drS [0, 1, 2] 2 [] [] (mkS 51 [(1, .ptr 0 0), (2, .ptr 1 0), (3, .ptr 2 0), (5, .int .i64 r_2), (14, .bool (r_2 != 0)), (19, (A_api_Float f_1)), (20, (A_api_Float f_1))]) (by simp) (by kernel_rfl) trivial (by kernel_rfl) ?_
      refine drC hT_6.2 0 _ [(A_api_Float f_1)] (v_bateriaref02_Least r_4) rfl rfl rfl rfl rfl (fun _ => rfl) rfl (by simp [ren, ren1, AV.plain, AV.plain1, AV.clean, List.idxOf?, List.findIdx?, List.findIdx?.go, cleanL, cleanI, cleanBo, cleanSt, cleanII, KL_bateriakit_Drum, KL_api_Span, KL_api_Load, KL_api_Float, KL_bateriaref02_Truth, A_bateriakit_Drum, C_bateriakit_Drum, A_api_Span, C_api_Span, A_api_Load, C_api_Load, A_api_Float, C_api_Float, A_bateriaref02_Truth, C_bateriaref02_Truth]; try rfl) (fun _ => b_bateriaref02_Least _ _ _ _) ?_
      refine drC hT_6.2 1 _ [(A_api_Float f_1), (A_bateriaref02_Truth r_4)] (v_bateriaref02_Carries r_5) rfl rfl rfl rfl rfl (fun _ => rfl) rfl (by simp [ren, ren1, AV.plain, AV.plain1, AV.clean, List.idxOf?, List.findIdx?, List.findIdx?.go, cleanL, cleanI, cleanBo, cleanSt, cleanII, KL_bateriakit_Drum, KL_api_Span, KL_api_Load, KL_api_Float, KL_bateriaref02_Truth, A_bateriakit_Drum, C_bateriakit_Drum, A_api_Span, C_api_Span, A_api_Load, C_api_Load, A_api_Float, C_api_Float, A_bateriaref02_Truth, C_bateriaref02_Truth]; try rfl) (fun _ => b_bateriaref02_Carries _ _ _ _) ?_
      refine drS [0, 1, 2] 4 [] [] (mkS 51 [(1, .ptr 0 0), (2, .ptr 1 0), (3, .ptr 2 0), (5, .int .i64 r_2), (6, .int .i64 r_5.1), (14, .bool (r_2 != 0)), (18, .tup [.int .i64 r_5.1, .int .i64 r_5.2]), (19, (A_api_Float f_1)), (20, (A_api_Float f_1)), (21, (A_bateriaref02_Truth r_4)), (22, .tup [.int .i64 r_5.1, .int .i64 r_5.2]), (23, .int .i64 r_5.1), (24, .int .i64 r_5.2)]) (by simp) (by kernel_rfl) trivial (by kernel_rfl) ?_
      exact DrO.nil rfl
    · dsimp only [List.getLastD_cons, List.getLastD_nil]
      refine runH 1 [] [1, 2, 3, 6, 7] [] (mkS 51 [(1, .ptr 0 0), (2, .ptr 1 0), (3, .ptr 2 0), (6, .int .i64 r_5.1), (7, .int .i64 r_5.2)]) (⟨[(C_api_Float f_1), [.int .i64 0, .int .i64 0], [.int .i64 0, .int .i64 0]], []⟩) (by kernel_rfl) trivial ?_
      refine ExO.nil ?_
      refine Ex.seq ?_
      obtain ⟨r_7, hr_7, h⟩ := Option.bind_eq_some_iff.1 h
      obtain ⟨r_8, hr_8, h⟩ := Option.bind_eq_some_iff.1 h
      have hT_9 : DoesA Try.prog [⟨87, [(A_api_Float f_1)], [], (v_bateriaref02_Greatest r_7), []⟩, ⟨19, [(A_api_Float f_1), (A_bateriaref02_Truth r_7)], [], (v_bateriaref02_Carries r_8), []⟩] ∧ ConsA [⟨87, [(A_api_Float f_1)], [], (v_bateriaref02_Greatest r_7), []⟩, ⟨19, [(A_api_Float f_1), (A_bateriaref02_Truth r_7)], [], (v_bateriaref02_Carries r_8), []⟩] := ⟨⟨(d_bateriaref02_Greatest N f_1 r_7 hr_7), rfl, (d_bateriaref02_Carries N f_1 r_7 r_8 hr_8), rfl, trivial⟩, ⟨⟨ConsR.ne rfl, trivial⟩, trivial, trivial⟩⟩
      refine Ex.drawE (a1 := mkS 51 [(1, .ptr 0 0), (2, .ptr 1 0), (3, .ptr 2 0), (6, .int .i64 r_5.1), (7, .int .i64 r_5.2), (8, .int .i64 r_8.1), (25, .tup [.int .i64 r_8.1, .int .i64 r_8.2]), (26, (A_api_Float f_1)), (27, (A_api_Float f_1)), (28, (A_bateriaref02_Truth r_7)), (29, .tup [.int .i64 r_8.1, .int .i64 r_8.2]), (30, .int .i64 r_8.1), (31, .int .i64 r_8.2)]) (tabO_ok hT_9.1) [] [] [] ?_ ?_
      · refine drS [0, 1, 2] 2 [] [] (mkS 51 [(1, .ptr 0 0), (2, .ptr 1 0), (3, .ptr 2 0), (6, .int .i64 r_5.1), (7, .int .i64 r_5.2), (26, (A_api_Float f_1)), (27, (A_api_Float f_1))]) (by simp) (by kernel_rfl) trivial (by kernel_rfl) ?_
        refine drC hT_9.2 0 _ [(A_api_Float f_1)] (v_bateriaref02_Greatest r_7) rfl rfl rfl rfl rfl (fun _ => rfl) rfl (by simp [ren, ren1, AV.plain, AV.plain1, AV.clean, List.idxOf?, List.findIdx?, List.findIdx?.go, cleanL, cleanI, cleanBo, cleanSt, cleanII, KL_bateriakit_Drum, KL_api_Span, KL_api_Load, KL_api_Float, KL_bateriaref02_Truth, A_bateriakit_Drum, C_bateriakit_Drum, A_api_Span, C_api_Span, A_api_Load, C_api_Load, A_api_Float, C_api_Float, A_bateriaref02_Truth, C_bateriaref02_Truth]; try rfl) (fun _ => b_bateriaref02_Greatest _ _ _ _) ?_
        refine drC hT_9.2 1 _ [(A_api_Float f_1), (A_bateriaref02_Truth r_7)] (v_bateriaref02_Carries r_8) rfl rfl rfl rfl rfl (fun _ => rfl) rfl (by simp [ren, ren1, AV.plain, AV.plain1, AV.clean, List.idxOf?, List.findIdx?, List.findIdx?.go, cleanL, cleanI, cleanBo, cleanSt, cleanII, KL_bateriakit_Drum, KL_api_Span, KL_api_Load, KL_api_Float, KL_bateriaref02_Truth, A_bateriakit_Drum, C_bateriakit_Drum, A_api_Span, C_api_Span, A_api_Load, C_api_Load, A_api_Float, C_api_Float, A_bateriaref02_Truth, C_bateriaref02_Truth]; try rfl) (fun _ => b_bateriaref02_Carries _ _ _ _) ?_
        refine drS [0, 1, 2] 4 [] [] (mkS 51 [(1, .ptr 0 0), (2, .ptr 1 0), (3, .ptr 2 0), (6, .int .i64 r_5.1), (7, .int .i64 r_5.2), (8, .int .i64 r_8.1), (25, .tup [.int .i64 r_8.1, .int .i64 r_8.2]), (26, (A_api_Float f_1)), (27, (A_api_Float f_1)), (28, (A_bateriaref02_Truth r_7)), (29, .tup [.int .i64 r_8.1, .int .i64 r_8.2]), (30, .int .i64 r_8.1), (31, .int .i64 r_8.2)]) (by simp) (by kernel_rfl) trivial (by kernel_rfl) ?_
        exact DrO.nil rfl
      · dsimp only [List.getLastD_cons, List.getLastD_nil]
        refine runH 1 [] [1, 2, 3, 6, 7, 8, 9] [] (mkS 51 [(1, .ptr 0 0), (2, .ptr 1 0), (3, .ptr 2 0), (6, .int .i64 r_5.1), (7, .int .i64 r_5.2), (8, .int .i64 r_8.1), (9, .int .i64 r_8.2)]) (⟨[(C_api_Float f_1), [.int .i64 0, .int .i64 0], [.int .i64 0, .int .i64 0]], []⟩) (by kernel_rfl) trivial ?_
        refine ExO.nil ?_
        refine Ex.seq ?_
        refine regH 6 [] [2, 3, 6, 7, 8, 9, 10] [] (mkS 51 [(2, .ptr 1 0), (3, .ptr 2 0), (6, .int .i64 r_5.1), (7, .int .i64 r_5.2), (8, .int .i64 r_8.1), (9, .int .i64 r_8.2), (10, .int .i64 (IntKind.i64.wrap (f_1.Rear - f_1.Front)))]) (⟨[(C_api_Float f_1), [.int .i64 0, .int .i64 0], [.int .i64 0, .int .i64 0]], []⟩) (by kernel_rfl) trivial rfl ?_
        refine Ex.seq ?_
        obtain ⟨r_10, hr_10, h⟩ := Option.bind_eq_some_iff.1 h
        refine Ex.reg ?_
        refine runH 2 [] [2, 3, 7, 8, 9, 10, 37, 38] [] (mkS 51 [(2, .ptr 1 0), (3, .ptr 2 0), (7, .int .i64 r_5.2), (8, .int .i64 r_8.1), (9, .int .i64 r_8.2), (10, .int .i64 (IntKind.i64.wrap (f_1.Rear - f_1.Front))), (37, .int .i64 r_5.1), (38, .int .i64 (IntKind.i64.wrap (f_1.Rear - f_1.Front)))]) (⟨[(C_api_Float f_1), [.int .i64 0, .int .i64 0], [.int .i64 0, .int .i64 0]], []⟩) (by kernel_rfl) trivial ?_
        refine ExO.callL [] [.int .i64 r_5.1, .int .i64 (IntKind.i64.wrap (f_1.Rear - f_1.Front))] rfl rfl (a_bateriaref02_Down r_5.1 (IntKind.i64.wrap (f_1.Rear - f_1.Front))) rfl rfl (d_bateriaref02_Down N r_5.1 (IntKind.i64.wrap (f_1.Rear - f_1.Front)) r_10 hr_10) (b_bateriaref02_Down _ _ _ _) rfl ?_
        obtain ⟨r_11, hr_11, h⟩ := Option.bind_eq_some_iff.1 h
        refine runH 2 [] [2, 3, 7, 9, 10, 39, 40, 41] [] (mkS 51 [(2, .ptr 1 0), (3, .ptr 2 0), (7, .int .i64 r_5.2), (9, .int .i64 r_8.2), (10, .int .i64 (IntKind.i64.wrap (f_1.Rear - f_1.Front))), (39, .int .i64 r_10), (40, .int .i64 r_8.1), (41, .int .i64 (IntKind.i64.wrap (f_1.Rear - f_1.Front)))]) (⟨[(C_api_Float f_1), [.int .i64 0, .int .i64 0], [.int .i64 0, .int .i64 0]], []⟩) (by kernel_rfl) trivial ?_
        refine ExO.callL [] [.int .i64 r_8.1, .int .i64 (IntKind.i64.wrap (f_1.Rear - f_1.Front))] rfl rfl (a_bateriaref02_Up r_8.1 (IntKind.i64.wrap (f_1.Rear - f_1.Front))) rfl rfl (d_bateriaref02_Up N r_8.1 (IntKind.i64.wrap (f_1.Rear - f_1.Front)) r_11 hr_11) (b_bateriaref02_Up _ _ _ _) rfl ?_
        obtain ⟨r_12, hr_12, h⟩ := Option.bind_eq_some_iff.1 h
        refine runH 3 [] [2, 3, 9, 10, 43, 44, 45] [] (mkS 51 [(2, .ptr 1 0), (3, .ptr 2 0), (9, .int .i64 r_8.2), (10, .int .i64 (IntKind.i64.wrap (f_1.Rear - f_1.Front))), (43, .agg [.int .i64 r_10, .int .i64 r_11]), (44, .int .i64 r_5.2), (45, .int .i64 (IntKind.i64.wrap (f_1.Rear - f_1.Front)))]) (⟨[(C_api_Float f_1), [.int .i64 0, .int .i64 0], [.int .i64 0, .int .i64 0]], []⟩) (by kernel_rfl) trivial ?_
        refine ExO.callL [] [.int .i64 r_5.2, .int .i64 (IntKind.i64.wrap (f_1.Rear - f_1.Front))] rfl rfl (a_bateriaref02_Down r_5.2 (IntKind.i64.wrap (f_1.Rear - f_1.Front))) rfl rfl (d_bateriaref02_Down N r_5.2 (IntKind.i64.wrap (f_1.Rear - f_1.Front)) r_12 hr_12) (b_bateriaref02_Down _ _ _ _) rfl ?_
        obtain ⟨r_13, hr_13, h⟩ := Option.bind_eq_some_iff.1 h
        refine runH 2 [] [2, 3, 43, 46, 47, 48] [] (mkS 51 [(2, .ptr 1 0), (3, .ptr 2 0), (43, .agg [.int .i64 r_10, .int .i64 r_11]), (46, .int .i64 r_12), (47, .int .i64 r_8.2), (48, .int .i64 (IntKind.i64.wrap (f_1.Rear - f_1.Front)))]) (⟨[(C_api_Float f_1), [.int .i64 0, .int .i64 0], [.int .i64 0, .int .i64 0]], []⟩) (by kernel_rfl) trivial ?_
        refine ExO.callL [] [.int .i64 r_8.2, .int .i64 (IntKind.i64.wrap (f_1.Rear - f_1.Front))] rfl rfl (a_bateriaref02_Up r_8.2 (IntKind.i64.wrap (f_1.Rear - f_1.Front))) rfl rfl (d_bateriaref02_Up N r_8.2 (IntKind.i64.wrap (f_1.Rear - f_1.Front)) r_13 hr_13) (b_bateriaref02_Up _ _ _ _) rfl ?_
        refine runH 4 [] [2, 3, 4] [] (mkS 51 [(2, .ptr 1 0), (3, .ptr 2 0), (4, .int .i64 0)]) (⟨[(C_api_Float f_1), [.int .i64 r_10, .int .i64 r_11], [.int .i64 r_12, .int .i64 r_13]], []⟩) (by kernel_rfl) trivial ?_
        refine ExO.nil ?_
        refine Ex.ret ?_
        obtain rfl := Option.some.inj h
        exact ⟨.inr rfl, .tup [.agg [.int .i64 r_10, .int .i64 r_11], .agg [.int .i64 r_12, .int .i64 r_13], .int .i64 0], by kernel_rfl, by kernel_rfl, by kernel_rfl, by kernel_rfl⟩
def p_bateriaref02_Tall (N : Nat) (f_1 : T_api_Float) (t_2 : T_bateriaref02_Truth) : Option (Int) := (letJ (fun (n_3 : Int) => some n_3) (fun k_4 => (loop2 (fun rec_9 (n_7 : Int) (i_8 : Int) => (bif (decide (i_8 < ((t_2.Tops.length : Nat) : Int))) then ((getI t_2.Tops i_8).bind fun x_13 => (rec_9 (if x_13 > n_7 then x_13 else n_7) (IntKind.i64.wrap (i_8 + 1)))) else (k_4 n_7))) N f_1.High 0)))
def v_bateriaref02_Tall (r : Int) : AV := .int .i64 r
theorem a_bateriaref02_Tall (f_1 : T_api_Float) (t_2 : T_bateriaref02_Truth) : [(A_api_Float f_1), (A_bateriaref02_Truth t_2)].mapM (ren []) = some [(A_api_Float f_1), (A_bateriaref02_Truth t_2)] := by simp [ren, ren1, AV.plain, AV.plain1, AV.clean, cleanL, cleanI, cleanBo, cleanSt, cleanII, KL_bateriakit_Drum, KL_api_Span, KL_api_Load, KL_api_Float, KL_bateriaref02_Truth, A_bateriakit_Drum, C_bateriakit_Drum, A_api_Span, C_api_Span, A_api_Load, C_api_Load, A_api_Float, C_api_Float, A_bateriaref02_Truth, C_bateriaref02_Truth]
theorem b_bateriaref02_Tall (r : Int) (n n2 m : Nat) : back n n2 m (v_bateriaref02_Tall r) = some (v_bateriaref02_Tall r) := by simp [v_bateriaref02_Tall, back, back1, AV.plain, AV.plain1, AV.clean, cleanL, cleanI, cleanBo, cleanSt, cleanII, KL_bateriakit_Drum, KL_api_Span, KL_api_Load, KL_api_Float, KL_bateriaref02_Truth, A_bateriakit_Drum, C_bateriakit_Drum, A_api_Span, C_api_Span, A_api_Load, C_api_Load, A_api_Float, C_api_Float, A_bateriaref02_Truth, C_bateriaref02_Truth]
theorem d_bateriaref02_Tall (N : Nat) (f_1 : T_api_Float) (t_2 : T_bateriaref02_Truth) (r : Int) (h : p_bateriaref02_Tall N f_1 t_2 = some r) : Does Try.prog 22 [(A_api_Float f_1), (A_bateriaref02_Truth t_2)] [] fun v c => v = v_bateriaref02_Tall r ∧ c = [] := by
  unfold p_bateriaref02_Tall at h
  refine Does.ofL comp22 _ _ rfl rfl ?_
  refine Ex.seq ?_
  refine regH 3 [] [2, 3] [] (mkS 24 [(2, .ptr 0 0), (3, .ptr 1 0)]) (⟨[(C_api_Float f_1), (C_bateriaref02_Truth t_2)], []⟩) (by kernel_rfl) trivial rfl ?_
  refine Ex.seq ?_
  refine regH 3 [] [3, 5] [] (mkS 24 [(3, .ptr 1 0), (5, .int .i64 f_1.High)]) (⟨[(C_api_Float f_1), (C_bateriaref02_Truth t_2)], []⟩) (by kernel_rfl) trivial rfl ?_
  refine Ex.seq ?_
  refine Ex.seq ?_
  refine regH 1 [] [3, 5, 6] [] (mkS 24 [(3, .ptr 1 0), (5, .int .i64 f_1.High), (6, .int .i64 0)]) (⟨[(C_api_Float f_1), (C_bateriaref02_Truth t_2)], []⟩) (by kernel_rfl) trivial rfl ?_
  obtain ⟨K_5, hK_6, h⟩ := letE h
  refine Ex.blockJ (fun a S => ∃ (n_3 : Int), K_5 n_3 = some r ∧ a = mkS 24 [(5, .int .i64 n_3)] ∧ S = ⟨[], []⟩) ?_ ?_ (by first | exact fun _ _ _ _ hf h => Ex.forget hf h | exact fun _ _ _ _ hf ⟨a2, S2, hf2, h⟩ => ⟨a2, S2, hf.trans hf2, h⟩)
  · obtain ⟨B_10, hB_11, h⟩ := loop2I h
    refine Ex.loopF (fun k a S => ∃ (n_7 : Int), ∃ (i_8 : Int), loop2 B_10 k n_7 i_8 = some r ∧ a = mkS 24 [(3, .ptr 1 0), (5, .int .i64 n_7), (6, .int .i64 i_8)] ∧ S = ⟨[(C_api_Float f_1), (C_bateriaref02_Truth t_2)], []⟩) N ⟨_, _, Forgets.refl _ _ _, f_1.High, 0, h, rfl, rfl⟩ ?_
    rintro k a S ⟨n_7, i_8, h, rfl, rfl⟩
    cases k with
    | zero => exact (loop2Z h).elim
    | succ k =>
      replace h := loop2S h hB_11
      refine Ex.seq ?_
      refine Ex.seq ?_
      refine regH 5 [(3, .eq (.int .i64 ((t_2.Tops.length : Nat) : Int)))] [3, 5, 6, 13] [AV.int .i64 (((t_2.Tops.map (AV.int .i64)).length : Nat) : Int) = AV.int .i64 ((t_2.Tops.length : Nat) : Int)] (mkS 24 [(3, .ptr 1 0), (5, .int .i64 n_7), (6, .int .i64 i_8), (13, .bool (decide (i_8 < ((t_2.Tops.length : Nat) : Int))))]) (⟨[(C_api_Float f_1), (C_bateriaref02_Truth t_2)], []⟩) (by kernel_rfl) ⟨lenM _ _, trivial⟩ rfl ?_
      rcases condI h with ⟨hc_12, h⟩ | ⟨hc_12, h⟩
      · refine Ex.condT _ rfl hc_12 ?_
        refine Ex.skip ?_
        refine Ex.seq ?_
        refine Ex.blockK ?_
        obtain ⟨x_13, hx_13, h⟩ := Option.bind_eq_some_iff.1 h
        refine regH 8 [(4, .rop [.int .i64 x_13])] [3, 5, 6] [LGet (t_2.Tops.map (AV.int .i64)) i_8 1 [.int .i64 x_13]] (mkS 24 [(3, .ptr 1 0), (5, .int .i64 (if x_13 > n_7 then x_13 else n_7)), (6, .int .i64 i_8)]) (⟨[(C_api_Float f_1), (C_bateriaref02_Truth t_2)], []⟩) (by kernel_rfl) ⟨LGet.of hx_13 rfl, trivial⟩ rfl ?_
        refine regH 3 [] [3, 5, 6] [] (mkS 24 [(3, .ptr 1 0), (5, .int .i64 (if x_13 > n_7 then x_13 else n_7)), (6, .int .i64 (IntKind.i64.wrap (i_8 + 1)))]) (⟨[(C_api_Float f_1), (C_bateriaref02_Truth t_2)], []⟩) (by kernel_rfl) trivial rfl ?_
        dsimp only
        exact ⟨_, _, Forgets.refl _ _ _, k, Nat.lt_succ_self k, (if x_13 > n_7 then x_13 else n_7), (IntKind.i64.wrap (i_8 + 1)), h, rfl, rfl⟩
      · refine Ex.condF _ rfl hc_12 ?_
        refine Ex.exit ?_
        (try simp only [reduceCtorEq, AEx.ex.injEq, Nat.reduceEqDiff, if_true, if_false])
        exact ⟨_, _, forgetA (m := 24) 0 [] [(5, .int .i64 n_7)] [] [] (by simp) (by simp) ⟨rfl, trivial⟩ (by simp [re, re1, AV.clean, List.idxOf?, List.findIdx?, List.findIdx?.go, cleanL, cleanI, cleanBo, cleanSt, cleanII, KL_bateriakit_Drum, KL_api_Span, KL_api_Load, KL_api_Float, KL_bateriaref02_Truth, KB_bateriakit_Drum, KB_api_Span, KB_api_Load, KB_api_Float, KB_bateriaref02_Truth]) rfl (by decide), n_7, h, rfl, rfl⟩
  · rintro a S ⟨n_3, h, rfl, rfl⟩
    subst hK_6
    refine Ex.seq ?_
    refine regH 2 [] [4] [] (mkS 24 [(4, .int .i64 n_3)]) (⟨[], []⟩) (by kernel_rfl) trivial rfl ?_
    refine Ex.ret ?_
    obtain rfl := Option.some.inj h
    exact ⟨.inr rfl, .int .i64 n_3, by kernel_rfl, by kernel_rfl, by kernel_rfl, by kernel_rfl⟩
def p_bateriaref02_Height (N : Nat) (f_1 : T_api_Float) : Option (T_api_Span × Int) := ((p_bateriaref02_Check N f_1).bind fun r_2 => (bif (r_2 != 0) then some ((⟨0, 0⟩ : T_api_Span), r_2) else ((p_bateriaref02_Least N f_1).bind fun r_4 => ((p_bateriaref02_Tall N f_1 r_4).bind fun r_5 => ((p_bateriaref02_Greatest N f_1).bind fun r_6 => ((p_bateriaref02_Tall N f_1 r_6).bind fun r_8 => some ((⟨r_5, r_8⟩ : T_api_Span), 0)))))))
def v_bateriaref02_Height (r : T_api_Span × Int) : AV := .tup [(A_api_Span r.1), .int .i64 r.2]
theorem a_bateriaref02_Height (f_1 : T_api_Float) : [(A_api_Float f_1)].mapM (ren []) = some [(A_api_Float f_1)] := by simp [ren, ren1, AV.plain, AV.plain1, AV.clean, cleanL, cleanI, cleanBo, cleanSt, cleanII, KL_bateriakit_Drum, KL_api_Span, KL_api_Load, KL_api_Float, KL_bateriaref02_Truth, A_bateriakit_Drum, C_bateriakit_Drum, A_api_Span, C_api_Span, A_api_Load, C_api_Load, A_api_Float, C_api_Float, A_bateriaref02_Truth, C_bateriaref02_Truth]
theorem b_bateriaref02_Height (r : T_api_Span × Int) (n n2 m : Nat) : back n n2 m (v_bateriaref02_Height r) = some (v_bateriaref02_Height r) := by simp [v_bateriaref02_Height, back, back1, AV.plain, AV.plain1, AV.clean, cleanL, cleanI, cleanBo, cleanSt, cleanII, KL_bateriakit_Drum, KL_api_Span, KL_api_Load, KL_api_Float, KL_bateriaref02_Truth, A_bateriakit_Drum, C_bateriakit_Drum, A_api_Span, C_api_Span, A_api_Load, C_api_Load, A_api_Float, C_api_Float, A_bateriaref02_Truth, C_bateriaref02_Truth]
theorem d_bateriaref02_Height (N : Nat) (f_1 : T_api_Float) (r : T_api_Span × Int) (h : p_bateriaref02_Height N f_1 = some r) : Does Try.prog 46 [(A_api_Float f_1)] [] fun v c => v = v_bateriaref02_Height r ∧ c = [] := by
  unfold p_bateriaref02_Height at h
  refine Does.ofL comp46 _ _ rfl rfl ?_
  refine Ex.seq ?_
  refine regH 3 [] [1, 2] [] (mkS 20 [(1, .ptr 0 0), (2, .ptr 1 0)]) (⟨[(C_api_Float f_1), [.int .i64 0, .int .i64 0]], []⟩) (by kernel_rfl) trivial rfl ?_
  refine Ex.seq ?_
  refine Ex.seq ?_
  obtain ⟨r_2, hr_2, h⟩ := Option.bind_eq_some_iff.1 h
  refine Ex.reg ?_
  refine runH 1 [] [1, 2, 5] [] (mkS 20 [(1, .ptr 0 0), (2, .ptr 1 0), (5, (A_api_Float f_1))]) (⟨[(C_api_Float f_1), [.int .i64 0, .int .i64 0]], []⟩) (by kernel_rfl) trivial ?_
  refine ExO.callL [] [(A_api_Float f_1)] rfl rfl (a_bateriaref02_Check f_1) rfl rfl (d_bateriaref02_Check N f_1 r_2 hr_2) (b_bateriaref02_Check _ _ _ _) rfl ?_
  refine runH 1 [] [1, 2, 4] [] (mkS 20 [(1, .ptr 0 0), (2, .ptr 1 0), (4, .int .i64 r_2)]) (⟨[(C_api_Float f_1), [.int .i64 0, .int .i64 0]], []⟩) (by kernel_rfl) trivial ?_
  refine ExO.nil ?_
  refine Ex.seq ?_
  refine regH 2 [] [1, 2, 4, 8] [] (mkS 20 [(1, .ptr 0 0), (2, .ptr 1 0), (4, .int .i64 r_2), (8, .bool (r_2 != 0))]) (⟨[(C_api_Float f_1), [.int .i64 0, .int .i64 0]], []⟩) (by kernel_rfl) trivial rfl ?_
  rcases condI h with ⟨hc_3, h⟩ | ⟨hc_3, h⟩
  · refine Ex.condT _ rfl hc_3 ?_
    refine Ex.seq ?_
    refine regH 4 [] [2, 3] [] (mkS 20 [(2, .ptr 1 0), (3, .int .i64 r_2)]) (⟨[(C_api_Float f_1), [.int .i64 0, .int .i64 0]], []⟩) (by kernel_rfl) trivial rfl ?_
    refine Ex.ret ?_
    obtain rfl := Option.some.inj h
    exact ⟨.inr rfl, .tup [.agg [.int .i64 0, .int .i64 0], .int .i64 r_2], by kernel_rfl, by kernel_rfl, by kernel_rfl, by kernel_rfl⟩
  · refine Ex.condF _ rfl hc_3 ?_
    refine Ex.skip ?_
    refine Ex.seq ?_
    obtain ⟨r_4, hr_4, h⟩ := Option.bind_eq_some_iff.1 h
    obtain ⟨r_5, hr_5, h⟩ := Option.bind_eq_some_iff.1 h
    obtain ⟨r_6, hr_6, h⟩ := Option.bind_eq_some_iff.1 h
    have hT_7 : DoesA Try.prog [⟨86, [(A_api_Float f_1)], [], (v_bateriaref02_Least r_4), []⟩, ⟨22, [(A_api_Float f_1), (A_bateriaref02_Truth r_4)], [], (v_bateriaref02_Tall r_5), []⟩, ⟨87, [(A_api_Float f_1)], [], (v_bateriaref02_Greatest r_6), []⟩] ∧ ConsA [⟨86, [(A_api_Float f_1)], [], (v_bateriaref02_Least r_4), []⟩, ⟨22, [(A_api_Float f_1), (A_bateriaref02_Truth r_4)], [], (v_bateriaref02_Tall r_5), []⟩, ⟨87, [(A_api_Float f_1)], [], (v_bateriaref02_Greatest r_6), []⟩] := ⟨⟨(d_bateriaref02_Least N f_1 r_4 hr_4), rfl, (d_bateriaref02_Tall N f_1 r_4 r_5 hr_5), rfl, (d_bateriaref02_Greatest N f_1 r_6 hr_6), rfl, trivial⟩, ⟨⟨ConsR.ne rfl, ConsR.ne rfl, trivial⟩, ⟨ConsR.ne rfl, trivial⟩, trivial, trivial⟩⟩
    refine Ex.drawE (a1 := mkS 20 [(1, .ptr 0 0), (2, .ptr 1 0), (4, .int .i64 r_2), (8, .bool (r_2 != 0)), (11, (A_api_Float f_1)), (12, (A_api_Float f_1)), (13, (A_bateriaref02_Truth r_4)), (14, .int .i64 r_5), (15, (A_api_Float f_1)), (16, (A_api_Float f_1)), (17, (A_bateriaref02_Truth r_6))]) (tabO_ok hT_7.1) [] [] [] ?_ ?_
    · refine drS [0, 1] 2 [] [] (mkS 20 [(1, .ptr 0 0), (2, .ptr 1 0), (4, .int .i64 r_2), (8, .bool (r_2 != 0)), (11, (A_api_Float f_1)), (12, (A_api_Float f_1))]) (by simp) (by kernel_rfl) trivial (by kernel_rfl) ?_
      refine drC hT_7.2 0 _ [(A_api_Float f_1)] (v_bateriaref02_Least r_4) rfl rfl rfl rfl rfl (fun _ => rfl) rfl (by simp [ren, ren1, AV.plain, AV.plain1, AV.clean, List.idxOf?, List.findIdx?, List.findIdx?.go, cleanL, cleanI, cleanBo, cleanSt, cleanII, KL_bateriakit_Drum, KL_api_Span, KL_api_Load, KL_api_Float, KL_bateriaref02_Truth, A_bateriakit_Drum, C_bateriakit_Drum, A_api_Span, C_api_Span, A_api_Load, C_api_Load, A_api_Float, C_api_Float, A_bateriaref02_Truth, C_bateriaref02_Truth]; try rfl) (fun _ => b_bateriaref02_Least _ _ _ _) ?_
      refine drC hT_7.2 1 _ [(A_api_Float f_1), (A_bateriaref02_Truth r_4)] (v_bateriaref02_Tall r_5) rfl rfl rfl rfl rfl (fun _ => rfl) rfl (by simp [ren, ren1, AV.plain, AV.plain1, AV.clean, List.idxOf?, List.findIdx?, List.findIdx?.go, cleanL, cleanI, cleanBo, cleanSt, cleanII, KL_bateriakit_Drum, KL_api_Span, KL_api_Load, KL_api_Float, KL_bateriaref02_Truth, A_bateriakit_Drum, C_bateriakit_Drum, A_api_Span, C_api_Span, A_api_Load, C_api_Load, A_api_Float, C_api_Float, A_bateriaref02_Truth, C_bateriaref02_Truth]; try rfl) (fun _ => b_bateriaref02_Tall _ _ _ _) ?_
      refine drS [0, 1] 2 [] [] (mkS 20 [(1, .ptr 0 0), (2, .ptr 1 0), (4, .int .i64 r_2), (8, .bool (r_2 != 0)), (11, (A_api_Float f_1)), (12, (A_api_Float f_1)), (13, (A_bateriaref02_Truth r_4)), (14, .int .i64 r_5), (15, (A_api_Float f_1)), (16, (A_api_Float f_1))]) (by simp) (by kernel_rfl) trivial (by kernel_rfl) ?_
      refine drC hT_7.2 2 _ [(A_api_Float f_1)] (v_bateriaref02_Greatest r_6) rfl rfl rfl rfl rfl (fun _ => rfl) rfl (by simp [ren, ren1, AV.plain, AV.plain1, AV.clean, List.idxOf?, List.findIdx?, List.findIdx?.go, cleanL, cleanI, cleanBo, cleanSt, cleanII, KL_bateriakit_Drum, KL_api_Span, KL_api_Load, KL_api_Float, KL_bateriaref02_Truth, A_bateriakit_Drum, C_bateriakit_Drum, A_api_Span, C_api_Span, A_api_Load, C_api_Load, A_api_Float, C_api_Float, A_bateriaref02_Truth, C_bateriaref02_Truth]; try rfl) (fun _ => b_bateriaref02_Greatest _ _ _ _) ?_
      exact DrO.nil rfl
    · dsimp only [List.getLastD_cons, List.getLastD_nil]
      obtain ⟨r_8, hr_8, h⟩ := Option.bind_eq_some_iff.1 h
      refine ExO.callL [] [(A_api_Float f_1), (A_bateriaref02_Truth r_6)] rfl rfl (a_bateriaref02_Tall f_1 r_6) rfl rfl (d_bateriaref02_Tall N f_1 r_6 r_8 hr_8) (b_bateriaref02_Tall _ _ _ _) rfl ?_
      refine runH 3 [] [2, 3] [] (mkS 20 [(2, .ptr 1 0), (3, .int .i64 0)]) (⟨[(C_api_Float f_1), [.int .i64 r_5, .int .i64 r_8]], []⟩) (by kernel_rfl) trivial ?_
      refine ExO.nil ?_
      refine Ex.ret ?_
      obtain rfl := Option.some.inj h
      exact ⟨.inr rfl, .tup [.agg [.int .i64 r_5, .int .i64 r_8], .int .i64 0], by kernel_rfl, by kernel_rfl, by kernel_rfl, by kernel_rfl⟩
structure T_api_Hurdle where
  Kind : Int
  A : Int
  B : Int
  deriving Inhabited
def C_api_Hurdle (x : T_api_Hurdle) : List AV := [.int .i64 x.Kind, .int .i64 x.A, .int .i64 x.B]
def A_api_Hurdle (x : T_api_Hurdle) : AV := .agg (C_api_Hurdle x)
theorem KC_api_Hurdle (x : T_api_Hurdle) : cleanL (C_api_Hurdle x) = true := by simp [C_api_Hurdle, cleanL, AV.clean, KL_bateriakit_Drum, KL_api_Span, KL_api_Load, KL_api_Float, KL_bateriaref02_Truth, cleanI, cleanBo, cleanSt, cleanII]
theorem KA_api_Hurdle (x : T_api_Hurdle) : (A_api_Hurdle x).clean = true := KC_api_Hurdle x
theorem KL_api_Hurdle (l : List T_api_Hurdle) : cleanL (l.map A_api_Hurdle) = true := cleanM KA_api_Hurdle l
theorem KB_api_Hurdle (x : T_api_Hurdle) (n : Nat) (σ : List Nat) : (C_api_Hurdle x).mapM (re n σ) = some (C_api_Hurdle x) := by simp [C_api_Hurdle, re, re1, AV.clean, KL_bateriakit_Drum, KL_api_Span, KL_api_Load, KL_api_Float, KL_bateriaref02_Truth, cleanI, cleanBo, cleanSt, cleanII]
theorem IJ_bateriakit_Drum (x y : T_bateriakit_Drum) (h : A_bateriakit_Drum x = A_bateriakit_Drum y) : x = y := by
  have h := AV.agg.inj h
  simp only [C_bateriakit_Drum, List.cons.injEq, AV.int.injEq, AV.bool.injEq, AV.str.injEq, AV.sl.injEq, true_and, and_true] at h
  have h0 := h
  obtain ⟨x0⟩ := x; obtain ⟨y0⟩ := y; simp_all
theorem k_bateriakit_Drum_Any (N : Nat) (d_1 : T_bateriakit_Drum) (l_2 : (List Int)) (d_1z : T_bateriakit_Drum) (l_2z : (List Int)) (r s : Int × T_bateriakit_Drum) (hr : p_bateriakit_Drum_Any N d_1 l_2 = some r) (hs : p_bateriakit_Drum_Any N d_1z l_2z = some s) : ConsR ⟨59, [.ptr 0 0, .sl (l_2.map (AV.int .i64)) none], [(C_bateriakit_Drum d_1)], v_bateriakit_Drum_Any r, [(C_bateriakit_Drum r.2)]⟩ ⟨59, [.ptr 0 0, .sl (l_2z.map (AV.int .i64)) none], [(C_bateriakit_Drum d_1z)], v_bateriakit_Drum_Any s, [(C_bateriakit_Drum s.2)]⟩ := by
  intro _ h1 h2
  have h1 : ([.ptr 0 0, .sl (l_2.map (AV.int .i64)) none] : List AV) = [.ptr 0 0, .sl (l_2z.map (AV.int .i64)) none] := h1
  have h2 : ([(C_bateriakit_Drum d_1)] : List (List AV)) = [(C_bateriakit_Drum d_1z)] := h2
  obtain rfl : d_1 = d_1z := IJ_bateriakit_Drum _ _ (congrArg AV.agg (List.cons.inj h2).1)
  obtain rfl : l_2 = l_2z := (slInj (intInj _)) _ _ (List.cons.inj (List.cons.inj h1).2).1
  rw [hr] at hs; cases hs; exact ⟨rfl, rfl⟩
theorem IJ_api_Span (x y : T_api_Span) (h : A_api_Span x = A_api_Span y) : x = y := by
  have h := AV.agg.inj h
  simp only [C_api_Span, List.cons.injEq, AV.int.injEq, AV.bool.injEq, AV.str.injEq, AV.sl.injEq, true_and, and_true] at h
  obtain ⟨h0, h1⟩ := h
  obtain ⟨x0, x1⟩ := x; obtain ⟨y0, y1⟩ := y; simp_all
theorem k_bateriakit_Drum_Of (N : Nat) (d_1 : T_bateriakit_Drum) (x_2 : T_api_Span) (d_1z : T_bateriakit_Drum) (x_2z : T_api_Span) (r s : Int × T_bateriakit_Drum) (hr : p_bateriakit_Drum_Of N d_1 x_2 = some r) (hs : p_bateriakit_Drum_Of N d_1z x_2z = some s) : ConsR ⟨35, [.ptr 0 0, (A_api_Span x_2)], [(C_bateriakit_Drum d_1)], v_bateriakit_Drum_Of r, [(C_bateriakit_Drum r.2)]⟩ ⟨35, [.ptr 0 0, (A_api_Span x_2z)], [(C_bateriakit_Drum d_1z)], v_bateriakit_Drum_Of s, [(C_bateriakit_Drum s.2)]⟩ := by
  intro _ h1 h2
  have h1 : ([.ptr 0 0, (A_api_Span x_2)] : List AV) = [.ptr 0 0, (A_api_Span x_2z)] := h1
  have h2 : ([(C_bateriakit_Drum d_1)] : List (List AV)) = [(C_bateriakit_Drum d_1z)] := h2
  obtain rfl : d_1 = d_1z := IJ_bateriakit_Drum _ _ (congrArg AV.agg (List.cons.inj h2).1)
  obtain rfl : x_2 = x_2z := IJ_api_Span _ _ (List.cons.inj (List.cons.inj h1).2).1
  rw [hr] at hs; cases hs; exact ⟨rfl, rfl⟩
def p_bateriakit_RouteOf (N : Nat) (d_1 : T_bateriakit_Drum) (f_2 : T_api_Float) (most_3 : Int) : Option ((List T_api_Hurdle) × T_bateriakit_Drum) := ((p_bateriaref02_Total N f_2).bind fun r_4 => ((p_bateriaref02_Axles N f_2).bind fun r_5 => ((p_bateriaref02_Height N f_2).bind fun r_6 => ((p_bateriakit_Drum_Roll N d_1 (IntKind.i64.wrap (most_3 + 1))).bind fun r_7 => (letJ (fun (out_8 : List T_api_Hurdle) (b_9 : Int) => some (out_8, (⟨b_9⟩ : T_bateriakit_Drum))) (fun k_10 => (loop3 (fun rec_16 (out_13 : List T_api_Hurdle) (i_14 : Int) (b_15 : Int) => (bif (decide (i_14 > 0)) then ((p_bateriakit_Drum_Mid N (⟨b_15⟩ : T_bateriakit_Drum) 1 3).bind fun r_20 => (letJ (fun (b_21 : Int) (b_22 : Int) (b_23 : Int) => ((pushI out_13 ([(⟨r_20.1, b_22, b_23⟩ : T_api_Hurdle)] : List T_api_Hurdle)).bind fun l_42 => (rec_16 l_42 (IntKind.i64.wrap (i_14 - 1)) b_21))) (fun k_24 => (bif (r_20.1 == 1) then ((p_bateriakit_Drum_Roll N r_20.2 2000).bind fun r_28 => ((p_bateriakit_Drum_Any N r_28.2 [0, r_28.1]).bind fun r_29 => ((p_bateriakit_Drum_Any N r_29.2 [300, 2500]).bind fun r_30 => ((p_bateriakit_Drum_Mid N r_30.2 1 r_30.1).bind fun r_31 => (k_24 r_31.2.beat_ r_29.1 (IntKind.i64.wrap (r_29.1 + r_31.1))))))) else (bif (r_20.1 == 2) then ((p_bateriakit_Drum_Of N r_20.2 r_6.1).bind fun r_34 => ((p_bateriakit_Drum_Any N r_34.2 [(-1), 0, 1, 50]).bind fun r_35 => (k_24 r_35.2.beat_ (if (if (IntKind.i64.wrap (r_34.1 + r_35.1)) > 0 then (IntKind.i64.wrap (r_34.1 + r_35.1)) else 0) < 2000 then (if (IntKind.i64.wrap (r_34.1 + r_35.1)) > 0 then (IntKind.i64.wrap (r_34.1 + r_35.1)) else 0) else 2000) 0))) else ((p_bateriakit_Drum_Of N r_20.2 r_4.1).bind fun r_36 => ((p_bateriakit_Drum_Any N r_36.2 [(-1), 0, 1, 300]).bind fun r_37 => ((p_bateriakit_Drum_Of N r_37.2 r_5.2.1).bind fun r_38 => ((p_bateriakit_Drum_Any N r_38.2 [(-1), 0, 1]).bind fun r_39 => ((p_bateriakit_Drum_Any N r_39.2 [r_4.1.Hi, (IntKind.i64.wrap (r_38.1 + r_39.1))]).bind fun r_40 => (k_24 r_40.2.beat_ (if (IntKind.i64.wrap (r_36.1 + r_37.1)) > 0 then (IntKind.i64.wrap (r_36.1 + r_37.1)) else 0) (if r_40.1 > 0 then r_40.1 else 0)))))))))))) else (k_10 out_13 b_15))) N [] r_7.1 r_7.2.beat_)))))))
def v_bateriakit_RouteOf (r : (List T_api_Hurdle) × T_bateriakit_Drum) : AV := .sl (r.1.map A_api_Hurdle) none
theorem b_bateriakit_RouteOf (r : (List T_api_Hurdle) × T_bateriakit_Drum) (n n2 m : Nat) : back n n2 m (v_bateriakit_RouteOf r) = some (v_bateriakit_RouteOf r) := by simp [v_bateriakit_RouteOf, back, back1, AV.plain, AV.plain1, AV.clean, cleanL, cleanI, cleanBo, cleanSt, cleanII, KL_bateriakit_Drum, KL_api_Span, KL_api_Load, KL_api_Float, KL_bateriaref02_Truth, KL_api_Hurdle, A_bateriakit_Drum, C_bateriakit_Drum, A_api_Span, C_api_Span, A_api_Load, C_api_Load, A_api_Float, C_api_Float, A_bateriaref02_Truth, C_bateriaref02_Truth, A_api_Hurdle, C_api_Hurdle]
theorem d_bateriakit_RouteOf (N : Nat) (d_1 : T_bateriakit_Drum) (f_2 : T_api_Float) (most_3 : Int) (r : (List T_api_Hurdle) × T_bateriakit_Drum) (h : p_bateriakit_RouteOf N d_1 f_2 most_3 = some r) : Does Try.prog 12 [.ptr 0 0, (A_api_Float f_2), .int .i64 most_3] [(C_bateriakit_Drum d_1)] fun v c => v = v_bateriakit_RouteOf r ∧ c = [(C_bateriakit_Drum r.2)] := by
  unfold p_bateriakit_RouteOf at h
  refine Does.ofL comp12 _ _ rfl rfl ?_
  refine Ex.seq ?_
  refine regH 2 [] [0, 2, 4] [] (mkS 103 [(0, .ptr 0 0), (2, .int .i64 most_3), (4, .ptr 1 0)]) (⟨[(C_bateriakit_Drum d_1), (C_api_Float f_2)], []⟩) (by kernel_rfl) trivial rfl ?_
  refine Ex.seq ?_
  obtain ⟨r_4, hr_4, h⟩ := Option.bind_eq_some_iff.1 h
  refine Ex.reg ?_
  refine runH 1 [] [0, 2, 4, 18] [] (mkS 103 [(0, .ptr 0 0), (2, .int .i64 most_3), (4, .ptr 1 0), (18, (A_api_Float f_2))]) (⟨[(C_bateriakit_Drum d_1), (C_api_Float f_2)], []⟩) (by kernel_rfl) trivial ?_
  refine ExO.callL [] [(A_api_Float f_2)] rfl rfl (a_bateriaref02_Total f_2) rfl rfl (d_bateriaref02_Total N f_2 r_4 hr_4) (b_bateriaref02_Total _ _ _ _) rfl ?_
  refine runH 6 [] [0, 2, 4, 7] [] (mkS 103 [(0, .ptr 0 0), (2, .int .i64 most_3), (4, .ptr 1 0), (7, .ptr 2 0)]) (⟨[(C_bateriakit_Drum d_1), (C_api_Float f_2), (C_api_Span r_4.1)], []⟩) (by kernel_rfl) trivial ?_
  refine ExO.nil ?_
  refine Ex.seq ?_
  obtain ⟨r_5, hr_5, h⟩ := Option.bind_eq_some_iff.1 h
  refine Ex.reg ?_
  refine runH 1 [] [0, 2, 4, 7, 23] [] (mkS 103 [(0, .ptr 0 0), (2, .int .i64 most_3), (4, .ptr 1 0), (7, .ptr 2 0), (23, (A_api_Float f_2))]) (⟨[(C_bateriakit_Drum d_1), (C_api_Float f_2), (C_api_Span r_4.1)], []⟩) (by kernel_rfl) trivial ?_
  refine ExO.callL [] [(A_api_Float f_2)] rfl rfl (a_bateriaref02_Axles f_2) rfl rfl (d_bateriaref02_Axles N f_2 r_5 hr_5) (b_bateriaref02_Axles _ _ _ _) rfl ?_
  refine runH 9 [] [0, 2, 4, 7, 10] [] (mkS 103 [(0, .ptr 0 0), (2, .int .i64 most_3), (4, .ptr 1 0), (7, .ptr 2 0), (10, .ptr 4 0)]) (⟨[(C_bateriakit_Drum d_1), (C_api_Float f_2), (C_api_Span r_4.1), (C_api_Span r_5.1), (C_api_Span r_5.2.1)], []⟩) (by kernel_rfl) trivial ?_
  refine ExO.nil ?_
  refine Ex.seq ?_
  obtain ⟨r_6, hr_6, h⟩ := Option.bind_eq_some_iff.1 h
  refine Ex.reg ?_
  refine runH 1 [] [0, 2, 7, 10, 29] [] (mkS 103 [(0, .ptr 0 0), (2, .int .i64 most_3), (7, .ptr 2 0), (10, .ptr 4 0), (29, (A_api_Float f_2))]) (⟨[(C_bateriakit_Drum d_1), (C_api_Float f_2), (C_api_Span r_4.1), (C_api_Span r_5.1), (C_api_Span r_5.2.1)], []⟩) (by kernel_rfl) trivial ?_
  refine ExO.callL [] [(A_api_Float f_2)] rfl rfl (a_bateriaref02_Height f_2) rfl rfl (d_bateriaref02_Height N f_2 r_6 hr_6) (b_bateriaref02_Height _ _ _ _) rfl ?_
  refine runH 6 [] [0, 2, 7, 10, 12] [] (mkS 103 [(0, .ptr 0 0), (2, .int .i64 most_3), (7, .ptr 2 0), (10, .ptr 4 0), (12, .ptr 5 0)]) (⟨[(C_bateriakit_Drum d_1), (C_api_Float f_2), (C_api_Span r_4.1), (C_api_Span r_5.1), (C_api_Span r_5.2.1), (C_api_Span r_6.1)], []⟩) (by kernel_rfl) trivial ?_
  refine ExO.nil ?_
  refine Ex.seq ?_
  refine regH 1 [] [0, 2, 7, 10, 12, 14] [] (mkS 103 [(0, .ptr 0 0), (2, .int .i64 most_3), (7, .ptr 2 0), (10, .ptr 4 0), (12, .ptr 5 0), (14, .nils)]) (⟨[(C_bateriakit_Drum d_1), (C_api_Float f_2), (C_api_Span r_4.1), (C_api_Span r_5.1), (C_api_Span r_5.2.1), (C_api_Span r_6.1)], []⟩) (by kernel_rfl) trivial rfl ?_
  refine Ex.seq ?_
  refine Ex.seq ?_
  obtain ⟨r_7, hr_7, h⟩ := Option.bind_eq_some_iff.1 h
  refine Ex.reg ?_
  refine runH 3 [] [0, 7, 10, 12, 14, 33, 35] [] (mkS 103 [(0, .ptr 0 0), (7, .ptr 2 0), (10, .ptr 4 0), (12, .ptr 5 0), (14, .nils), (33, .ptr 0 0), (35, .int .i64 (IntKind.i64.wrap (most_3 + 1)))]) (⟨[(C_bateriakit_Drum d_1), (C_api_Float f_2), (C_api_Span r_4.1), (C_api_Span r_5.1), (C_api_Span r_5.2.1), (C_api_Span r_6.1)], []⟩) (by kernel_rfl) trivial ?_
  refine ExO.callL [0] [.ptr 0 0, .int .i64 (IntKind.i64.wrap (most_3 + 1))] rfl rfl (by simp [ren, ren1, fadeS, fadeV, AV.plain, AV.plain1, AV.clean, List.idxOf?, List.findIdx?, List.findIdx?.go, cleanL, cleanI, cleanBo, cleanSt, cleanII, KL_bateriakit_Drum, KL_api_Span, KL_api_Load, KL_api_Float, KL_bateriaref02_Truth, KL_api_Hurdle, A_bateriakit_Drum, C_bateriakit_Drum, A_api_Span, C_api_Span, A_api_Load, C_api_Load, A_api_Float, C_api_Float, A_bateriaref02_Truth, C_bateriaref02_Truth, A_api_Hurdle, C_api_Hurdle]; try rfl) rfl (by simp [cleanL, AV.clean, cleanL, cleanI, cleanBo, cleanSt, cleanII, KL_bateriakit_Drum, KL_api_Span, KL_api_Load, KL_api_Float, KL_bateriaref02_Truth, KL_api_Hurdle, A_bateriakit_Drum, C_bateriakit_Drum, A_api_Span, C_api_Span, A_api_Load, C_api_Load, A_api_Float, C_api_Float, A_bateriaref02_Truth, C_bateriaref02_Truth, A_api_Hurdle, C_api_Hurdle]) (d_bateriakit_Drum_Roll N d_1 (IntKind.i64.wrap (most_3 + 1)) r_7 hr_7) (b_bateriakit_Drum_Roll _ _ _ _) (by simp [cleanL, AV.clean, cleanL, cleanI, cleanBo, cleanSt, cleanII, KL_bateriakit_Drum, KL_api_Span, KL_api_Load, KL_api_Float, KL_bateriaref02_Truth, KL_api_Hurdle, A_bateriakit_Drum, C_bateriakit_Drum, A_api_Span, C_api_Span, A_api_Load, C_api_Load, A_api_Float, C_api_Float, A_bateriaref02_Truth, C_bateriaref02_Truth, A_api_Hurdle, C_api_Hurdle]) ?_
  refine runH 1 [] [0, 7, 10, 12, 14, 15] [] (mkS 103 [(0, .ptr 0 0), (7, .ptr 2 0), (10, .ptr 4 0), (12, .ptr 5 0), (14, .nils), (15, .int .i64 r_7.1)]) (⟨[(C_bateriakit_Drum r_7.2), (C_api_Float f_2), (C_api_Span r_4.1), (C_api_Span r_5.1), (C_api_Span r_5.2.1), (C_api_Span r_6.1)], []⟩) (by kernel_rfl) trivial ?_
  refine ExO.nil ?_
  obtain ⟨K_11, hK_12, h⟩ := letE h
  refine Ex.blockJ (fun a S => ∃ (out_8 : List T_api_Hurdle), ∃ (b_9 : Int), K_11 out_8 b_9 = some r ∧ a = mkS 103 [(14, .sl (out_8.map A_api_Hurdle) (some 0))] ∧ S = ⟨[[.int .u64 b_9]], [(out_8.length, 3)]⟩) ?_ ?_ (by first | exact fun _ _ _ _ hf h => Ex.forget hf h | exact fun _ _ _ _ hf ⟨a2, S2, hf2, h⟩ => ⟨a2, S2, hf.trans hf2, h⟩)
  · refine Ex.forget (nilK 14 3 rfl) ?_
    refine Ex.castA (a2 := mkS 103 [(0, .ptr 0 0), (7, .ptr 2 0), (10, .ptr 4 0), (12, .ptr 5 0), (14, .sl (([] : List T_api_Hurdle).map A_api_Hurdle) (some 0)), (15, .int .i64 r_7.1)]) (S2 := ⟨[(C_bateriakit_Drum r_7.2), (C_api_Float f_2), (C_api_Span r_4.1), (C_api_Span r_5.1), (C_api_Span r_5.2.1), (C_api_Span r_6.1)], [(0, 3)]⟩) (by kernel_rfl) (by kernel_rfl) ?_
    obtain ⟨B_17, hB_18, h⟩ := loop3I h
    refine Ex.loopF (fun k a S => ∃ (out_13 : List T_api_Hurdle), ∃ (i_14 : Int), ∃ (b_15 : Int), loop3 B_17 k out_13 i_14 b_15 = some r ∧ a = mkS 103 [(0, .ptr 0 0), (7, .ptr 2 0), (10, .ptr 4 0), (12, .ptr 5 0), (14, .sl (out_13.map A_api_Hurdle) (some 0)), (15, .int .i64 i_14)] ∧ S = ⟨[[.int .u64 b_15], (C_api_Float f_2), (C_api_Span r_4.1), (C_api_Span r_5.1), (C_api_Span r_5.2.1), (C_api_Span r_6.1)], [(out_13.length, 3)]⟩) N ⟨_, _, Forgets.refl _ _ _, [], r_7.1, r_7.2.beat_, h, rfl, rfl⟩ ?_
    rintro k a S ⟨out_13, i_14, b_15, h, rfl, rfl⟩
    cases k with
    | zero => exact (loop3Z h).elim
    | succ k =>
      replace h := loop3S h hB_18
      refine Ex.seq ?_
      refine Ex.seq ?_
      refine regH 2 [] [0, 7, 10, 12, 14, 15, 38] [] (mkS 103 [(0, .ptr 0 0), (7, .ptr 2 0), (10, .ptr 4 0), (12, .ptr 5 0), (14, .sl (out_13.map A_api_Hurdle) (some 0)), (15, .int .i64 i_14), (38, .bool (decide (i_14 > 0)))]) (⟨[[.int .u64 b_15], (C_api_Float f_2), (C_api_Span r_4.1), (C_api_Span r_5.1), (C_api_Span r_5.2.1), (C_api_Span r_6.1)], [(out_13.length, 3)]⟩) (by kernel_rfl) trivial rfl ?_
      rcases condI h with ⟨hc_19, h⟩ | ⟨hc_19, h⟩
      · refine Ex.condT _ rfl hc_19 ?_
        refine Ex.skip ?_
        refine Ex.seq ?_
        refine Ex.blockK ?_
        refine Ex.seq ?_
        obtain ⟨r_20, hr_20, h⟩ := Option.bind_eq_some_iff.1 h
        refine Ex.reg ?_
        refine runH 1 [] [0, 7, 10, 12, 14, 15, 41] [] (mkS 103 [(0, .ptr 0 0), (7, .ptr 2 0), (10, .ptr 4 0), (12, .ptr 5 0), (14, .sl (out_13.map A_api_Hurdle) (some 0)), (15, .int .i64 i_14), (41, .ptr 0 0)]) (⟨[[.int .u64 b_15], (C_api_Float f_2), (C_api_Span r_4.1), (C_api_Span r_5.1), (C_api_Span r_5.2.1), (C_api_Span r_6.1)], [(out_13.length, 3)]⟩) (by kernel_rfl) trivial ?_
        refine ExO.callL [0] [.ptr 0 0, .int .i64 1, .int .i64 3] rfl rfl (by simp [ren, ren1, fadeS, fadeV, AV.plain, AV.plain1, AV.clean, List.idxOf?, List.findIdx?, List.findIdx?.go, cleanL, cleanI, cleanBo, cleanSt, cleanII, KL_bateriakit_Drum, KL_api_Span, KL_api_Load, KL_api_Float, KL_bateriaref02_Truth, KL_api_Hurdle, A_bateriakit_Drum, C_bateriakit_Drum, A_api_Span, C_api_Span, A_api_Load, C_api_Load, A_api_Float, C_api_Float, A_bateriaref02_Truth, C_bateriaref02_Truth, A_api_Hurdle, C_api_Hurdle]; try rfl) rfl (by simp [cleanL, AV.clean, cleanL, cleanI, cleanBo, cleanSt, cleanII, KL_bateriakit_Drum, KL_api_Span, KL_api_Load, KL_api_Float, KL_bateriaref02_Truth, KL_api_Hurdle, A_bateriakit_Drum, C_bateriakit_Drum, A_api_Span, C_api_Span, A_api_Load, C_api_Load, A_api_Float, C_api_Float, A_bateriaref02_Truth, C_bateriaref02_Truth, A_api_Hurdle, C_api_Hurdle]) (d_bateriakit_Drum_Mid N (⟨b_15⟩ : T_bateriakit_Drum) 1 3 r_20 hr_20) (b_bateriakit_Drum_Mid _ _ _ _) (by simp [cleanL, AV.clean, cleanL, cleanI, cleanBo, cleanSt, cleanII, KL_bateriakit_Drum, KL_api_Span, KL_api_Load, KL_api_Float, KL_bateriaref02_Truth, KL_api_Hurdle, A_bateriakit_Drum, C_bateriakit_Drum, A_api_Span, C_api_Span, A_api_Load, C_api_Load, A_api_Float, C_api_Float, A_bateriaref02_Truth, C_bateriaref02_Truth, A_api_Hurdle, C_api_Hurdle]) ?_
        refine runH 3 [] [0, 7, 10, 12, 14, 15, 16] [] (mkS 103 [(0, .ptr 0 0), (7, .ptr 2 0), (10, .ptr 4 0), (12, .ptr 5 0), (14, .sl (out_13.map A_api_Hurdle) (some 0)), (15, .int .i64 i_14), (16, .ptr 6 0)]) (⟨[(C_bateriakit_Drum r_20.2), (C_api_Float f_2), (C_api_Span r_4.1), (C_api_Span r_5.1), (C_api_Span r_5.2.1), (C_api_Span r_6.1), [.int .i64 r_20.1, .int .i64 0, .int .i64 0]], [(out_13.length, 3)]⟩) (by kernel_rfl) trivial ?_
        refine ExO.nil ?_
        refine Ex.seq ?_
        refine Ex.seq ?_
        refine regH 2 [] [0, 7, 10, 12, 14, 15, 16, 45] [] (mkS 103 [(0, .ptr 0 0), (7, .ptr 2 0), (10, .ptr 4 0), (12, .ptr 5 0), (14, .sl (out_13.map A_api_Hurdle) (some 0)), (15, .int .i64 i_14), (16, .ptr 6 0), (45, .int .i64 r_20.1)]) (⟨[(C_bateriakit_Drum r_20.2), (C_api_Float f_2), (C_api_Span r_4.1), (C_api_Span r_5.1), (C_api_Span r_5.2.1), (C_api_Span r_6.1), [.int .i64 r_20.1, .int .i64 0, .int .i64 0]], [(out_13.length, 3)]⟩) (by kernel_rfl) trivial rfl ?_
        obtain ⟨K_25, hK_26, h⟩ := letE h
        refine Ex.blockJ (fun a S => ∃ (b_21 : Int), ∃ (b_22 : Int), ∃ (b_23 : Int), K_25 b_21 b_22 b_23 = some r ∧ a = mkS 103 [(0, .ptr 0 0), (7, .ptr 2 0), (10, .ptr 4 0), (12, .ptr 5 0), (14, .sl (out_13.map A_api_Hurdle) (some 0)), (15, .int .i64 i_14), (16, .ptr 6 0)] ∧ S = ⟨[[.int .u64 b_21], (C_api_Float f_2), (C_api_Span r_4.1), (C_api_Span r_5.1), (C_api_Span r_5.2.1), (C_api_Span r_6.1), [.int .i64 r_20.1, .int .i64 b_22, .int .i64 b_23]], [(out_13.length, 3)]⟩) ?_ ?_ (by first | exact fun _ _ _ _ hf h => Ex.forget hf h | exact fun _ _ _ _ hf ⟨a2, S2, hf2, h⟩ => ⟨a2, S2, hf.trans hf2, h⟩)
        · refine Ex.seq ?_
          refine regH 2 [] [0, 7, 10, 12, 14, 15, 16, 45, 69] [] (mkS 103 [(0, .ptr 0 0), (7, .ptr 2 0), (10, .ptr 4 0), (12, .ptr 5 0), (14, .sl (out_13.map A_api_Hurdle) (some 0)), (15, .int .i64 i_14), (16, .ptr 6 0), (45, .int .i64 r_20.1), (69, .bool (r_20.1 == 1))]) (⟨[(C_bateriakit_Drum r_20.2), (C_api_Float f_2), (C_api_Span r_4.1), (C_api_Span r_5.1), (C_api_Span r_5.2.1), (C_api_Span r_6.1), [.int .i64 r_20.1, .int .i64 0, .int .i64 0]], [(out_13.length, 3)]⟩) (by kernel_rfl) trivial rfl ?_
          rcases condI h with ⟨hc_27, h⟩ | ⟨hc_27, h⟩
          · refine Ex.condT _ rfl hc_27 ?_
            refine Ex.seq ?_
            obtain ⟨r_28, hr_28, h⟩ := Option.bind_eq_some_iff.1 h
            refine Ex.reg ?_
            refine runH 2 [] [0, 7, 10, 12, 14, 15, 16, 71, 72] [] (mkS 103 [(0, .ptr 0 0), (7, .ptr 2 0), (10, .ptr 4 0), (12, .ptr 5 0), (14, .sl (out_13.map A_api_Hurdle) (some 0)), (15, .int .i64 i_14), (16, .ptr 6 0), (71, .ptr 0 0), (72, .ptr 0 0)]) (⟨[(C_bateriakit_Drum r_20.2), (C_api_Float f_2), (C_api_Span r_4.1), (C_api_Span r_5.1), (C_api_Span r_5.2.1), (C_api_Span r_6.1), [.int .i64 r_20.1, .int .i64 0, .int .i64 0]], [(out_13.length, 3)]⟩) (by kernel_rfl) trivial ?_
            refine ExO.callL [0] [.ptr 0 0, .int .i64 2000] rfl rfl (by simp [ren, ren1, fadeS, fadeV, AV.plain, AV.plain1, AV.clean, List.idxOf?, List.findIdx?, List.findIdx?.go, cleanL, cleanI, cleanBo, cleanSt, cleanII, KL_bateriakit_Drum, KL_api_Span, KL_api_Load, KL_api_Float, KL_bateriaref02_Truth, KL_api_Hurdle, A_bateriakit_Drum, C_bateriakit_Drum, A_api_Span, C_api_Span, A_api_Load, C_api_Load, A_api_Float, C_api_Float, A_bateriaref02_Truth, C_bateriaref02_Truth, A_api_Hurdle, C_api_Hurdle]; try rfl) rfl (by simp [cleanL, AV.clean, cleanL, cleanI, cleanBo, cleanSt, cleanII, KL_bateriakit_Drum, KL_api_Span, KL_api_Load, KL_api_Float, KL_bateriaref02_Truth, KL_api_Hurdle, A_bateriakit_Drum, C_bateriakit_Drum, A_api_Span, C_api_Span, A_api_Load, C_api_Load, A_api_Float, C_api_Float, A_bateriaref02_Truth, C_bateriaref02_Truth, A_api_Hurdle, C_api_Hurdle]) (d_bateriakit_Drum_Roll N r_20.2 2000 r_28 hr_28) (b_bateriakit_Drum_Roll _ _ _ _) (by simp [cleanL, AV.clean, cleanL, cleanI, cleanBo, cleanSt, cleanII, KL_bateriakit_Drum, KL_api_Span, KL_api_Load, KL_api_Float, KL_bateriaref02_Truth, KL_api_Hurdle, A_bateriakit_Drum, C_bateriakit_Drum, A_api_Span, C_api_Span, A_api_Load, C_api_Load, A_api_Float, C_api_Float, A_bateriaref02_Truth, C_bateriaref02_Truth, A_api_Hurdle, C_api_Hurdle]) ?_
            obtain ⟨r_29, hr_29, h⟩ := Option.bind_eq_some_iff.1 h
            refine runH 1 [] [0, 7, 10, 12, 14, 15, 16, 71, 74] [] (mkS 103 [(0, .ptr 0 0), (7, .ptr 2 0), (10, .ptr 4 0), (12, .ptr 5 0), (14, .sl (out_13.map A_api_Hurdle) (some 0)), (15, .int .i64 i_14), (16, .ptr 6 0), (71, .ptr 0 0), (74, .sl (([0, r_28.1] : List Int).map (AV.int .i64)) (some 1))]) (⟨[(C_bateriakit_Drum r_28.2), (C_api_Float f_2), (C_api_Span r_4.1), (C_api_Span r_5.1), (C_api_Span r_5.2.1), (C_api_Span r_6.1), [.int .i64 r_20.1, .int .i64 0, .int .i64 0]], [(out_13.length, 3), (2, 1)]⟩) (by kernel_rfl) trivial ?_
            refine ExO.callL [0] [.ptr 0 0, .sl (([0, r_28.1] : List Int).map (AV.int .i64)) (some 1)] rfl rfl (by simp [ren, ren1, fadeS, fadeV, AV.plain, AV.plain1, AV.clean, List.idxOf?, List.findIdx?, List.findIdx?.go, cleanL, cleanI, cleanBo, cleanSt, cleanII, KL_bateriakit_Drum, KL_api_Span, KL_api_Load, KL_api_Float, KL_bateriaref02_Truth, KL_api_Hurdle, A_bateriakit_Drum, C_bateriakit_Drum, A_api_Span, C_api_Span, A_api_Load, C_api_Load, A_api_Float, C_api_Float, A_bateriaref02_Truth, C_bateriaref02_Truth, A_api_Hurdle, C_api_Hurdle]; try rfl) rfl (by simp [cleanL, AV.clean, cleanL, cleanI, cleanBo, cleanSt, cleanII, KL_bateriakit_Drum, KL_api_Span, KL_api_Load, KL_api_Float, KL_bateriaref02_Truth, KL_api_Hurdle, A_bateriakit_Drum, C_bateriakit_Drum, A_api_Span, C_api_Span, A_api_Load, C_api_Load, A_api_Float, C_api_Float, A_bateriaref02_Truth, C_bateriaref02_Truth, A_api_Hurdle, C_api_Hurdle]) (d_bateriakit_Drum_Any N r_28.2 [0, r_28.1] r_29 hr_29) (b_bateriakit_Drum_Any _ _ _ _) (by simp [cleanL, AV.clean, cleanL, cleanI, cleanBo, cleanSt, cleanII, KL_bateriakit_Drum, KL_api_Span, KL_api_Load, KL_api_Float, KL_bateriaref02_Truth, KL_api_Hurdle, A_bateriakit_Drum, C_bateriakit_Drum, A_api_Span, C_api_Span, A_api_Load, C_api_Load, A_api_Float, C_api_Float, A_bateriaref02_Truth, C_bateriaref02_Truth, A_api_Hurdle, C_api_Hurdle]) ?_
            refine runH 2 [] [0, 7, 10, 12, 14, 15, 16] [] (mkS 103 [(0, .ptr 0 0), (7, .ptr 2 0), (10, .ptr 4 0), (12, .ptr 5 0), (14, .sl (out_13.map A_api_Hurdle) (some 0)), (15, .int .i64 i_14), (16, .ptr 6 0)]) (⟨[(C_bateriakit_Drum r_29.2), (C_api_Float f_2), (C_api_Span r_4.1), (C_api_Span r_5.1), (C_api_Span r_5.2.1), (C_api_Span r_6.1), [.int .i64 r_20.1, .int .i64 r_29.1, .int .i64 0]], [(out_13.length, 3), (2, 1)]⟩) (by kernel_rfl) trivial ?_
            refine ExO.nil ?_
            obtain ⟨r_30, hr_30, h⟩ := Option.bind_eq_some_iff.1 h
            obtain ⟨r_31, hr_31, h⟩ := Option.bind_eq_some_iff.1 h
            have hT_32 : DoesA Try.prog [⟨59, [.ptr 0 0, .sl (([300, 2500] : List Int).map (AV.int .i64)) none], [(C_bateriakit_Drum r_29.2)], (v_bateriakit_Drum_Any r_30), [(C_bateriakit_Drum r_30.2)]⟩, ⟨32, [.ptr 0 0, .int .i64 1, .int .i64 r_30.1], [(C_bateriakit_Drum r_30.2)], (v_bateriakit_Drum_Mid r_31), [(C_bateriakit_Drum r_31.2)]⟩] ∧ ConsA [⟨59, [.ptr 0 0, .sl (([300, 2500] : List Int).map (AV.int .i64)) none], [(C_bateriakit_Drum r_29.2)], (v_bateriakit_Drum_Any r_30), [(C_bateriakit_Drum r_30.2)]⟩, ⟨32, [.ptr 0 0, .int .i64 1, .int .i64 r_30.1], [(C_bateriakit_Drum r_30.2)], (v_bateriakit_Drum_Mid r_31), [(C_bateriakit_Drum r_31.2)]⟩] := ⟨⟨(d_bateriakit_Drum_Any N r_29.2 [300, 2500] r_30 hr_30), rfl, (d_bateriakit_Drum_Mid N r_30.2 1 r_30.1 r_31 hr_31), rfl, trivial⟩, ⟨⟨ConsR.ne rfl, trivial⟩, trivial, trivial⟩⟩
            refine Ex.drawE (a1 := mkS 103 [(0, .ptr 0 0), (7, .ptr 2 0), (10, .ptr 4 0), (12, .ptr 5 0), (14, .sl (out_13.map A_api_Hurdle) (some 0)), (15, .int .i64 i_14), (16, .ptr 6 0), (77, .ptr 6 1), (78, .int .i64 r_29.1), (79, .ptr 0 0), (80, .ptr 0 0), (81, .sl (([300, 2500] : List Int).map (AV.int .i64)) (some 2)), (82, .int .i64 r_30.1), (83, .int .i64 r_31.1)]) (tabO_ok hT_32.1) [] [(2, 1)] [⟨[(C_bateriakit_Drum r_30.2), (C_api_Float f_2), (C_api_Span r_4.1), (C_api_Span r_5.1), (C_api_Span r_5.2.1), (C_api_Span r_6.1), [.int .i64 r_20.1, .int .i64 r_29.1, .int .i64 0]], [(out_13.length, 3), (2, 1), (2, 1)]⟩, ⟨[(C_bateriakit_Drum r_31.2), (C_api_Float f_2), (C_api_Span r_4.1), (C_api_Span r_5.1), (C_api_Span r_5.2.1), (C_api_Span r_6.1), [.int .i64 r_20.1, .int .i64 r_29.1, .int .i64 0]], [(out_13.length, 3), (2, 1), (2, 1)]⟩] ?_ ?_
            · refine drS [1, 2, 3, 4, 5, 6] 4 [] [] (mkS 103 [(0, .ptr 0 0), (7, .ptr 2 0), (10, .ptr 4 0), (12, .ptr 5 0), (14, .sl (out_13.map A_api_Hurdle) (some 0)), (15, .int .i64 i_14), (16, .ptr 6 0), (77, .ptr 6 1), (78, .int .i64 r_29.1), (79, .ptr 0 0), (80, .ptr 0 0)]) (by simp) (by kernel_rfl) trivial (by kernel_rfl) ?_
              refine drR 2 1 (([300, 2500] : List Int).map (AV.int .i64)) rfl rfl (fun _ => rfl) (by simp) rfl rfl ?_
              refine drB hT_32.2 0 _ [0] [.ptr 0 0, .sl (([300, 2500] : List Int).map (AV.int .i64)) (some 2)] (v_bateriakit_Drum_Any r_30) _ _ rfl rfl rfl rfl rfl rfl rfl rfl (by simp [ren, ren1, AV.plain, AV.plain1, AV.clean, List.idxOf?, List.findIdx?, List.findIdx?.go, cleanL, cleanI, cleanBo, cleanSt, cleanII, KL_bateriakit_Drum, KL_api_Span, KL_api_Load, KL_api_Float, KL_bateriaref02_Truth, KL_api_Hurdle, A_bateriakit_Drum, C_bateriakit_Drum, A_api_Span, C_api_Span, A_api_Load, C_api_Load, A_api_Float, C_api_Float, A_bateriaref02_Truth, C_bateriaref02_Truth, A_api_Hurdle, C_api_Hurdle]; try rfl) rfl (by simp [cleanL, AV.clean, cleanL, cleanI, cleanBo, cleanSt, cleanII, KL_bateriakit_Drum, KL_api_Span, KL_api_Load, KL_api_Float, KL_bateriaref02_Truth, KL_api_Hurdle, A_bateriakit_Drum, C_bateriakit_Drum, A_api_Span, C_api_Span, A_api_Load, C_api_Load, A_api_Float, C_api_Float, A_bateriaref02_Truth, C_bateriaref02_Truth, A_api_Hurdle, C_api_Hurdle]) (b_bateriakit_Drum_Any _ _ _ _) (by simp [cleanL, AV.clean, cleanL, cleanI, cleanBo, cleanSt, cleanII, KL_bateriakit_Drum, KL_api_Span, KL_api_Load, KL_api_Float, KL_bateriaref02_Truth, KL_api_Hurdle, A_bateriakit_Drum, C_bateriakit_Drum, A_api_Span, C_api_Span, A_api_Load, C_api_Load, A_api_Float, C_api_Float, A_bateriaref02_Truth, C_bateriaref02_Truth, A_api_Hurdle, C_api_Hurdle]) rfl ?_
              refine drB hT_32.2 1 _ [0] [.ptr 0 0, .int .i64 1, .int .i64 r_30.1] (v_bateriakit_Drum_Mid r_31) _ _ rfl rfl rfl rfl rfl rfl rfl rfl (by simp [ren, ren1, AV.plain, AV.plain1, AV.clean, List.idxOf?, List.findIdx?, List.findIdx?.go, cleanL, cleanI, cleanBo, cleanSt, cleanII, KL_bateriakit_Drum, KL_api_Span, KL_api_Load, KL_api_Float, KL_bateriaref02_Truth, KL_api_Hurdle, A_bateriakit_Drum, C_bateriakit_Drum, A_api_Span, C_api_Span, A_api_Load, C_api_Load, A_api_Float, C_api_Float, A_bateriaref02_Truth, C_bateriaref02_Truth, A_api_Hurdle, C_api_Hurdle]; try rfl) rfl (by simp [cleanL, AV.clean, cleanL, cleanI, cleanBo, cleanSt, cleanII, KL_bateriakit_Drum, KL_api_Span, KL_api_Load, KL_api_Float, KL_bateriaref02_Truth, KL_api_Hurdle, A_bateriakit_Drum, C_bateriakit_Drum, A_api_Span, C_api_Span, A_api_Load, C_api_Load, A_api_Float, C_api_Float, A_bateriaref02_Truth, C_bateriaref02_Truth, A_api_Hurdle, C_api_Hurdle]) (b_bateriakit_Drum_Mid _ _ _ _) (by simp [cleanL, AV.clean, cleanL, cleanI, cleanBo, cleanSt, cleanII, KL_bateriakit_Drum, KL_api_Span, KL_api_Load, KL_api_Float, KL_bateriaref02_Truth, KL_api_Hurdle, A_bateriakit_Drum, C_bateriakit_Drum, A_api_Span, C_api_Span, A_api_Load, C_api_Load, A_api_Float, C_api_Float, A_bateriaref02_Truth, C_bateriaref02_Truth, A_api_Hurdle, C_api_Hurdle]) rfl ?_
              exact DrO.nil rfl
            · dsimp only [List.getLastD_cons, List.getLastD_nil]
              refine runH 3 [] [0, 7, 10, 12, 14, 15, 16] [] (mkS 103 [(0, .ptr 0 0), (7, .ptr 2 0), (10, .ptr 4 0), (12, .ptr 5 0), (14, .sl (out_13.map A_api_Hurdle) (some 0)), (15, .int .i64 i_14), (16, .ptr 6 0)]) (⟨[(C_bateriakit_Drum r_31.2), (C_api_Float f_2), (C_api_Span r_4.1), (C_api_Span r_5.1), (C_api_Span r_5.2.1), (C_api_Span r_6.1), [.int .i64 r_20.1, .int .i64 r_29.1, .int .i64 (IntKind.i64.wrap (r_29.1 + r_31.1))]], [(out_13.length, 3), (2, 1), (2, 1)]⟩) (by kernel_rfl) trivial ?_
              refine ExO.nil ?_
              (try simp only [reduceCtorEq, AEx.ex.injEq, Nat.reduceEqDiff, if_true, if_false])
              exact ⟨_, _, forgetA (m := 103) 7 [0] [(0, .ptr 0 0), (7, .ptr 2 0), (10, .ptr 4 0), (12, .ptr 5 0), (14, .sl (out_13.map A_api_Hurdle) (some 0)), (15, .int .i64 i_14), (16, .ptr 6 0)] [(C_bateriakit_Drum r_31.2), (C_api_Float f_2), (C_api_Span r_4.1), (C_api_Span r_5.1), (C_api_Span r_5.2.1), (C_api_Span r_6.1), [.int .i64 r_20.1, .int .i64 r_29.1, .int .i64 (IntKind.i64.wrap (r_29.1 + r_31.1))]] [(out_13.length, 3)] (by simp) (by simp) ⟨rfl, rfl, rfl, rfl, (reT (KL_api_Hurdle _) rfl), rfl, rfl, trivial⟩ (by simp [re, re1, AV.clean, List.idxOf?, List.findIdx?, List.findIdx?.go, cleanL, cleanI, cleanBo, cleanSt, cleanII, KL_bateriakit_Drum, KL_api_Span, KL_api_Load, KL_api_Float, KL_bateriaref02_Truth, KL_api_Hurdle, KB_bateriakit_Drum, KB_api_Span, KB_api_Load, KB_api_Float, KB_bateriaref02_Truth, KB_api_Hurdle]) rfl (by decide), r_31.2.beat_, r_29.1, (IntKind.i64.wrap (r_29.1 + r_31.1)), h, rfl, rfl⟩
          · refine Ex.condF _ rfl hc_27 ?_
            refine Ex.seq ?_
            refine regH 2 [] [0, 7, 10, 12, 14, 15, 16, 86] [] (mkS 103 [(0, .ptr 0 0), (7, .ptr 2 0), (10, .ptr 4 0), (12, .ptr 5 0), (14, .sl (out_13.map A_api_Hurdle) (some 0)), (15, .int .i64 i_14), (16, .ptr 6 0), (86, .bool (r_20.1 == 2))]) (⟨[(C_bateriakit_Drum r_20.2), (C_api_Float f_2), (C_api_Span r_4.1), (C_api_Span r_5.1), (C_api_Span r_5.2.1), (C_api_Span r_6.1), [.int .i64 r_20.1, .int .i64 0, .int .i64 0]], [(out_13.length, 3)]⟩) (by kernel_rfl) trivial rfl ?_
            rcases condI h with ⟨hc_33, h⟩ | ⟨hc_33, h⟩
            · refine Ex.condT _ rfl hc_33 ?_
              obtain ⟨r_34, hr_34, h⟩ := Option.bind_eq_some_iff.1 h
              refine Ex.reg ?_
              refine runH 2 [] [0, 7, 10, 12, 14, 15, 16, 88, 89] [] (mkS 103 [(0, .ptr 0 0), (7, .ptr 2 0), (10, .ptr 4 0), (12, .ptr 5 0), (14, .sl (out_13.map A_api_Hurdle) (some 0)), (15, .int .i64 i_14), (16, .ptr 6 0), (88, .ptr 0 0), (89, (A_api_Span r_6.1))]) (⟨[(C_bateriakit_Drum r_20.2), (C_api_Float f_2), (C_api_Span r_4.1), (C_api_Span r_5.1), (C_api_Span r_5.2.1), (C_api_Span r_6.1), [.int .i64 r_20.1, .int .i64 0, .int .i64 0]], [(out_13.length, 3)]⟩) (by kernel_rfl) trivial ?_
              refine ExO.callL [0] [.ptr 0 0, (A_api_Span r_6.1)] rfl rfl (by simp [ren, ren1, fadeS, fadeV, AV.plain, AV.plain1, AV.clean, List.idxOf?, List.findIdx?, List.findIdx?.go, cleanL, cleanI, cleanBo, cleanSt, cleanII, KL_bateriakit_Drum, KL_api_Span, KL_api_Load, KL_api_Float, KL_bateriaref02_Truth, KL_api_Hurdle, A_bateriakit_Drum, C_bateriakit_Drum, A_api_Span, C_api_Span, A_api_Load, C_api_Load, A_api_Float, C_api_Float, A_bateriaref02_Truth, C_bateriaref02_Truth, A_api_Hurdle, C_api_Hurdle]; try rfl) rfl (by simp [cleanL, AV.clean, cleanL, cleanI, cleanBo, cleanSt, cleanII, KL_bateriakit_Drum, KL_api_Span, KL_api_Load, KL_api_Float, KL_bateriaref02_Truth, KL_api_Hurdle, A_bateriakit_Drum, C_bateriakit_Drum, A_api_Span, C_api_Span, A_api_Load, C_api_Load, A_api_Float, C_api_Float, A_bateriaref02_Truth, C_bateriaref02_Truth, A_api_Hurdle, C_api_Hurdle]) (d_bateriakit_Drum_Of N r_20.2 r_6.1 r_34 hr_34) (b_bateriakit_Drum_Of _ _ _ _) (by simp [cleanL, AV.clean, cleanL, cleanI, cleanBo, cleanSt, cleanII, KL_bateriakit_Drum, KL_api_Span, KL_api_Load, KL_api_Float, KL_bateriaref02_Truth, KL_api_Hurdle, A_bateriakit_Drum, C_bateriakit_Drum, A_api_Span, C_api_Span, A_api_Load, C_api_Load, A_api_Float, C_api_Float, A_bateriaref02_Truth, C_bateriaref02_Truth, A_api_Hurdle, C_api_Hurdle]) ?_
              obtain ⟨r_35, hr_35, h⟩ := Option.bind_eq_some_iff.1 h
              refine runH 2 [] [0, 7, 10, 12, 14, 15, 16, 90, 91, 92] [] (mkS 103 [(0, .ptr 0 0), (7, .ptr 2 0), (10, .ptr 4 0), (12, .ptr 5 0), (14, .sl (out_13.map A_api_Hurdle) (some 0)), (15, .int .i64 i_14), (16, .ptr 6 0), (90, .int .i64 r_34.1), (91, .ptr 0 0), (92, .sl (([(-1), 0, 1, 50] : List Int).map (AV.int .i64)) (some 1))]) (⟨[(C_bateriakit_Drum r_34.2), (C_api_Float f_2), (C_api_Span r_4.1), (C_api_Span r_5.1), (C_api_Span r_5.2.1), (C_api_Span r_6.1), [.int .i64 r_20.1, .int .i64 0, .int .i64 0]], [(out_13.length, 3), (4, 1)]⟩) (by kernel_rfl) trivial ?_
              refine ExO.callL [0] [.ptr 0 0, .sl (([(-1), 0, 1, 50] : List Int).map (AV.int .i64)) (some 1)] rfl rfl (by simp [ren, ren1, fadeS, fadeV, AV.plain, AV.plain1, AV.clean, List.idxOf?, List.findIdx?, List.findIdx?.go, cleanL, cleanI, cleanBo, cleanSt, cleanII, KL_bateriakit_Drum, KL_api_Span, KL_api_Load, KL_api_Float, KL_bateriaref02_Truth, KL_api_Hurdle, A_bateriakit_Drum, C_bateriakit_Drum, A_api_Span, C_api_Span, A_api_Load, C_api_Load, A_api_Float, C_api_Float, A_bateriaref02_Truth, C_bateriaref02_Truth, A_api_Hurdle, C_api_Hurdle]; try rfl) rfl (by simp [cleanL, AV.clean, cleanL, cleanI, cleanBo, cleanSt, cleanII, KL_bateriakit_Drum, KL_api_Span, KL_api_Load, KL_api_Float, KL_bateriaref02_Truth, KL_api_Hurdle, A_bateriakit_Drum, C_bateriakit_Drum, A_api_Span, C_api_Span, A_api_Load, C_api_Load, A_api_Float, C_api_Float, A_bateriaref02_Truth, C_bateriaref02_Truth, A_api_Hurdle, C_api_Hurdle]) (d_bateriakit_Drum_Any N r_34.2 [(-1), 0, 1, 50] r_35 hr_35) (b_bateriakit_Drum_Any _ _ _ _) (by simp [cleanL, AV.clean, cleanL, cleanI, cleanBo, cleanSt, cleanII, KL_bateriakit_Drum, KL_api_Span, KL_api_Load, KL_api_Float, KL_bateriaref02_Truth, KL_api_Hurdle, A_bateriakit_Drum, C_bateriakit_Drum, A_api_Span, C_api_Span, A_api_Load, C_api_Load, A_api_Float, C_api_Float, A_bateriaref02_Truth, C_bateriaref02_Truth, A_api_Hurdle, C_api_Hurdle]) ?_
              refine runH 5 [] [0, 7, 10, 12, 14, 15, 16] [] (mkS 103 [(0, .ptr 0 0), (7, .ptr 2 0), (10, .ptr 4 0), (12, .ptr 5 0), (14, .sl (out_13.map A_api_Hurdle) (some 0)), (15, .int .i64 i_14), (16, .ptr 6 0)]) (⟨[(C_bateriakit_Drum r_35.2), (C_api_Float f_2), (C_api_Span r_4.1), (C_api_Span r_5.1), (C_api_Span r_5.2.1), (C_api_Span r_6.1), [.int .i64 r_20.1, .int .i64 (if (if (IntKind.i64.wrap (r_34.1 + r_35.1)) > 0 then (IntKind.i64.wrap (r_34.1 + r_35.1)) else 0) < 2000 then (if (IntKind.i64.wrap (r_34.1 + r_35.1)) > 0 then (IntKind.i64.wrap (r_34.1 + r_35.1)) else 0) else 2000), .int .i64 0]], [(out_13.length, 3), (4, 1)]⟩) (by kernel_rfl) trivial ?_
              refine ExO.nil ?_
              (try simp only [reduceCtorEq, AEx.ex.injEq, Nat.reduceEqDiff, if_true, if_false])
              exact ⟨_, _, forgetA (m := 103) 7 [0] [(0, .ptr 0 0), (7, .ptr 2 0), (10, .ptr 4 0), (12, .ptr 5 0), (14, .sl (out_13.map A_api_Hurdle) (some 0)), (15, .int .i64 i_14), (16, .ptr 6 0)] [(C_bateriakit_Drum r_35.2), (C_api_Float f_2), (C_api_Span r_4.1), (C_api_Span r_5.1), (C_api_Span r_5.2.1), (C_api_Span r_6.1), [.int .i64 r_20.1, .int .i64 (if (if (IntKind.i64.wrap (r_34.1 + r_35.1)) > 0 then (IntKind.i64.wrap (r_34.1 + r_35.1)) else 0) < 2000 then (if (IntKind.i64.wrap (r_34.1 + r_35.1)) > 0 then (IntKind.i64.wrap (r_34.1 + r_35.1)) else 0) else 2000), .int .i64 0]] [(out_13.length, 3)] (by simp) (by simp) ⟨rfl, rfl, rfl, rfl, (reT (KL_api_Hurdle _) rfl), rfl, rfl, trivial⟩ (by simp [re, re1, AV.clean, List.idxOf?, List.findIdx?, List.findIdx?.go, cleanL, cleanI, cleanBo, cleanSt, cleanII, KL_bateriakit_Drum, KL_api_Span, KL_api_Load, KL_api_Float, KL_bateriaref02_Truth, KL_api_Hurdle, KB_bateriakit_Drum, KB_api_Span, KB_api_Load, KB_api_Float, KB_bateriaref02_Truth, KB_api_Hurdle]) rfl (by decide), r_35.2.beat_, (if (if (IntKind.i64.wrap (r_34.1 + r_35.1)) > 0 then (IntKind.i64.wrap (r_34.1 + r_35.1)) else 0) < 2000 then (if (IntKind.i64.wrap (r_34.1 + r_35.1)) > 0 then (IntKind.i64.wrap (r_34.1 + r_35.1)) else 0) else 2000), 0, h, rfl, rfl⟩
            · refine Ex.condF _ rfl hc_33 ?_
              obtain ⟨r_36, hr_36, h⟩ := Option.bind_eq_some_iff.1 h
              obtain ⟨r_37, hr_37, h⟩ := Option.bind_eq_some_iff.1 h
              obtain ⟨r_38, hr_38, h⟩ := Option.bind_eq_some_iff.1 h
              obtain ⟨r_39, hr_39, h⟩ := Option.bind_eq_some_iff.1 h
              obtain ⟨r_40, hr_40, h⟩ := Option.bind_eq_some_iff.1 h
              have hT_41 : DoesA Try.prog [⟨35, [.ptr 0 0, (A_api_Span r_4.1)], [(C_bateriakit_Drum r_20.2)], (v_bateriakit_Drum_Of r_36), [(C_bateriakit_Drum r_36.2)]⟩, ⟨59, [.ptr 0 0, .sl (([(-1), 0, 1, 300] : List Int).map (AV.int .i64)) none], [(C_bateriakit_Drum r_36.2)], (v_bateriakit_Drum_Any r_37), [(C_bateriakit_Drum r_37.2)]⟩, ⟨35, [.ptr 0 0, (A_api_Span r_5.2.1)], [(C_bateriakit_Drum r_37.2)], (v_bateriakit_Drum_Of r_38), [(C_bateriakit_Drum r_38.2)]⟩, ⟨59, [.ptr 0 0, .sl (([(-1), 0, 1] : List Int).map (AV.int .i64)) none], [(C_bateriakit_Drum r_38.2)], (v_bateriakit_Drum_Any r_39), [(C_bateriakit_Drum r_39.2)]⟩, ⟨59, [.ptr 0 0, .sl (([r_4.1.Hi, (IntKind.i64.wrap (r_38.1 + r_39.1))] : List Int).map (AV.int .i64)) none], [(C_bateriakit_Drum r_39.2)], (v_bateriakit_Drum_Any r_40), [(C_bateriakit_Drum r_40.2)]⟩] ∧ ConsA [⟨35, [.ptr 0 0, (A_api_Span r_4.1)], [(C_bateriakit_Drum r_20.2)], (v_bateriakit_Drum_Of r_36), [(C_bateriakit_Drum r_36.2)]⟩, ⟨59, [.ptr 0 0, .sl (([(-1), 0, 1, 300] : List Int).map (AV.int .i64)) none], [(C_bateriakit_Drum r_36.2)], (v_bateriakit_Drum_Any r_37), [(C_bateriakit_Drum r_37.2)]⟩, ⟨35, [.ptr 0 0, (A_api_Span r_5.2.1)], [(C_bateriakit_Drum r_37.2)], (v_bateriakit_Drum_Of r_38), [(C_bateriakit_Drum r_38.2)]⟩, ⟨59, [.ptr 0 0, .sl (([(-1), 0, 1] : List Int).map (AV.int .i64)) none], [(C_bateriakit_Drum r_38.2)], (v_bateriakit_Drum_Any r_39), [(C_bateriakit_Drum r_39.2)]⟩, ⟨59, [.ptr 0 0, .sl (([r_4.1.Hi, (IntKind.i64.wrap (r_38.1 + r_39.1))] : List Int).map (AV.int .i64)) none], [(C_bateriakit_Drum r_39.2)], (v_bateriakit_Drum_Any r_40), [(C_bateriakit_Drum r_40.2)]⟩] := ⟨⟨(d_bateriakit_Drum_Of N r_20.2 r_4.1 r_36 hr_36), rfl, (d_bateriakit_Drum_Any N r_36.2 [(-1), 0, 1, 300] r_37 hr_37), rfl, (d_bateriakit_Drum_Of N r_37.2 r_5.2.1 r_38 hr_38), rfl, (d_bateriakit_Drum_Any N r_38.2 [(-1), 0, 1] r_39 hr_39), rfl, (d_bateriakit_Drum_Any N r_39.2 [r_4.1.Hi, (IntKind.i64.wrap (r_38.1 + r_39.1))] r_40 hr_40), rfl, trivial⟩, ⟨⟨ConsR.ne rfl, k_bateriakit_Drum_Of N r_20.2 r_4.1 r_37.2 r_5.2.1 r_36 r_38 hr_36 hr_38, ConsR.ne rfl, ConsR.ne rfl, trivial⟩, ⟨ConsR.ne rfl, k_bateriakit_Drum_Any N r_36.2 [(-1), 0, 1, 300] r_38.2 [(-1), 0, 1] r_37 r_39 hr_37 hr_39, k_bateriakit_Drum_Any N r_36.2 [(-1), 0, 1, 300] r_39.2 [r_4.1.Hi, (IntKind.i64.wrap (r_38.1 + r_39.1))] r_37 r_40 hr_37 hr_40, trivial⟩, ⟨ConsR.ne rfl, ConsR.ne rfl, trivial⟩, ⟨k_bateriakit_Drum_Any N r_38.2 [(-1), 0, 1] r_39.2 [r_4.1.Hi, (IntKind.i64.wrap (r_38.1 + r_39.1))] r_39 r_40 hr_39 hr_40, trivial⟩, trivial, trivial⟩⟩
              refine Ex.drawE (a1 := mkS 103 [(0, .ptr 0 0), (7, .ptr 2 0), (10, .ptr 4 0), (12, .ptr 5 0), (14, .sl (out_13.map A_api_Hurdle) (some 0)), (15, .int .i64 i_14), (16, .ptr 6 0), (46, .ptr 0 0), (47, (A_api_Span r_4.1)), (48, .int .i64 r_36.1), (49, .ptr 0 0), (50, .sl (([(-1), 0, 1, 300] : List Int).map (AV.int .i64)) (some 1)), (51, .int .i64 r_37.1), (52, .int .i64 (IntKind.i64.wrap (r_36.1 + r_37.1))), (53, .int .i64 (if (IntKind.i64.wrap (r_36.1 + r_37.1)) > 0 then (IntKind.i64.wrap (r_36.1 + r_37.1)) else 0)), (54, .ptr 0 0), (55, .ptr 2 1), (56, .int .i64 r_4.1.Hi), (57, .ptr 0 0), (58, (A_api_Span r_5.2.1)), (59, .int .i64 r_38.1), (60, .ptr 0 0), (61, .sl (([(-1), 0, 1] : List Int).map (AV.int .i64)) (some 2)), (62, .int .i64 r_39.1), (63, .int .i64 (IntKind.i64.wrap (r_38.1 + r_39.1))), (64, .sl (([r_4.1.Hi, (IntKind.i64.wrap (r_38.1 + r_39.1))] : List Int).map (AV.int .i64)) (some 3)), (65, .int .i64 r_40.1), (66, .int .i64 (if r_40.1 > 0 then r_40.1 else 0)), (67, .ptr 6 1), (86, .bool (r_20.1 == 2))]) (tabO_ok hT_41.1) [] [(4, 1), (3, 1), (2, 1)] [⟨[(C_bateriakit_Drum r_36.2), (C_api_Float f_2), (C_api_Span r_4.1), (C_api_Span r_5.1), (C_api_Span r_5.2.1), (C_api_Span r_6.1), [.int .i64 r_20.1, .int .i64 0, .int .i64 0]], [(out_13.length, 3), (4, 1), (3, 1), (2, 1)]⟩, ⟨[(C_bateriakit_Drum r_37.2), (C_api_Float f_2), (C_api_Span r_4.1), (C_api_Span r_5.1), (C_api_Span r_5.2.1), (C_api_Span r_6.1), [.int .i64 r_20.1, .int .i64 0, .int .i64 0]], [(out_13.length, 3), (4, 1), (3, 1), (2, 1)]⟩, ⟨[(C_bateriakit_Drum r_38.2), (C_api_Float f_2), (C_api_Span r_4.1), (C_api_Span r_5.1), (C_api_Span r_5.2.1), (C_api_Span r_6.1), [.int .i64 r_20.1, .int .i64 0, .int .i64 0]], [(out_13.length, 3), (4, 1), (3, 1), (2, 1)]⟩, ⟨[(C_bateriakit_Drum r_39.2), (C_api_Float f_2), (C_api_Span r_4.1), (C_api_Span r_5.1), (C_api_Span r_5.2.1), (C_api_Span r_6.1), [.int .i64 r_20.1, .int .i64 0, .int .i64 0]], [(out_13.length, 3), (4, 1), (3, 1), (2, 1)]⟩, ⟨[(C_bateriakit_Drum r_40.2), (C_api_Float f_2), (C_api_Span r_4.1), (C_api_Span r_5.1), (C_api_Span r_5.2.1), (C_api_Span r_6.1), [.int .i64 r_20.1, .int .i64 0, .int .i64 0]], [(out_13.length, 3), (4, 1), (3, 1), (2, 1)]⟩, ⟨[(C_bateriakit_Drum r_40.2), (C_api_Float f_2), (C_api_Span r_4.1), (C_api_Span r_5.1), (C_api_Span r_5.2.1), (C_api_Span r_6.1), [.int .i64 r_20.1, .int .i64 (if (IntKind.i64.wrap (r_36.1 + r_37.1)) > 0 then (IntKind.i64.wrap (r_36.1 + r_37.1)) else 0), .int .i64 0]], [(out_13.length, 3), (4, 1), (3, 1), (2, 1)]⟩] ?_ ?_
              · refine drS [1, 2, 3, 4, 5] 2 [] [] (mkS 103 [(0, .ptr 0 0), (7, .ptr 2 0), (10, .ptr 4 0), (12, .ptr 5 0), (14, .sl (out_13.map A_api_Hurdle) (some 0)), (15, .int .i64 i_14), (16, .ptr 6 0), (46, .ptr 0 0), (47, (A_api_Span r_4.1)), (86, .bool (r_20.1 == 2))]) (by simp) (by kernel_rfl) trivial (by kernel_rfl) ?_
                refine drB hT_41.2 0 _ [0] [.ptr 0 0, (A_api_Span r_4.1)] (v_bateriakit_Drum_Of r_36) _ _ rfl rfl rfl rfl rfl rfl rfl rfl (by simp [ren, ren1, AV.plain, AV.plain1, AV.clean, List.idxOf?, List.findIdx?, List.findIdx?.go, cleanL, cleanI, cleanBo, cleanSt, cleanII, KL_bateriakit_Drum, KL_api_Span, KL_api_Load, KL_api_Float, KL_bateriaref02_Truth, KL_api_Hurdle, A_bateriakit_Drum, C_bateriakit_Drum, A_api_Span, C_api_Span, A_api_Load, C_api_Load, A_api_Float, C_api_Float, A_bateriaref02_Truth, C_bateriaref02_Truth, A_api_Hurdle, C_api_Hurdle]; try rfl) rfl (by simp [cleanL, AV.clean, cleanL, cleanI, cleanBo, cleanSt, cleanII, KL_bateriakit_Drum, KL_api_Span, KL_api_Load, KL_api_Float, KL_bateriaref02_Truth, KL_api_Hurdle, A_bateriakit_Drum, C_bateriakit_Drum, A_api_Span, C_api_Span, A_api_Load, C_api_Load, A_api_Float, C_api_Float, A_bateriaref02_Truth, C_bateriaref02_Truth, A_api_Hurdle, C_api_Hurdle]) (b_bateriakit_Drum_Of _ _ _ _) (by simp [cleanL, AV.clean, cleanL, cleanI, cleanBo, cleanSt, cleanII, KL_bateriakit_Drum, KL_api_Span, KL_api_Load, KL_api_Float, KL_bateriaref02_Truth, KL_api_Hurdle, A_bateriakit_Drum, C_bateriakit_Drum, A_api_Span, C_api_Span, A_api_Load, C_api_Load, A_api_Float, C_api_Float, A_bateriaref02_Truth, C_bateriaref02_Truth, A_api_Hurdle, C_api_Hurdle]) rfl ?_
                refine drS [1, 2, 3, 4, 5] 1 [] [] (mkS 103 [(0, .ptr 0 0), (7, .ptr 2 0), (10, .ptr 4 0), (12, .ptr 5 0), (14, .sl (out_13.map A_api_Hurdle) (some 0)), (15, .int .i64 i_14), (16, .ptr 6 0), (46, .ptr 0 0), (47, (A_api_Span r_4.1)), (48, .int .i64 r_36.1), (49, .ptr 0 0), (86, .bool (r_20.1 == 2))]) (by simp) (by kernel_rfl) trivial (by kernel_rfl) ?_
                refine drR 1 1 (([(-1), 0, 1, 300] : List Int).map (AV.int .i64)) rfl rfl (fun _ => rfl) (by simp) rfl rfl ?_
                refine drB hT_41.2 1 _ [0] [.ptr 0 0, .sl (([(-1), 0, 1, 300] : List Int).map (AV.int .i64)) (some 1)] (v_bateriakit_Drum_Any r_37) _ _ rfl rfl rfl rfl rfl rfl rfl rfl (by simp [ren, ren1, AV.plain, AV.plain1, AV.clean, List.idxOf?, List.findIdx?, List.findIdx?.go, cleanL, cleanI, cleanBo, cleanSt, cleanII, KL_bateriakit_Drum, KL_api_Span, KL_api_Load, KL_api_Float, KL_bateriaref02_Truth, KL_api_Hurdle, A_bateriakit_Drum, C_bateriakit_Drum, A_api_Span, C_api_Span, A_api_Load, C_api_Load, A_api_Float, C_api_Float, A_bateriaref02_Truth, C_bateriaref02_Truth, A_api_Hurdle, C_api_Hurdle]; try rfl) rfl (by simp [cleanL, AV.clean, cleanL, cleanI, cleanBo, cleanSt, cleanII, KL_bateriakit_Drum, KL_api_Span, KL_api_Load, KL_api_Float, KL_bateriaref02_Truth, KL_api_Hurdle, A_bateriakit_Drum, C_bateriakit_Drum, A_api_Span, C_api_Span, A_api_Load, C_api_Load, A_api_Float, C_api_Float, A_bateriaref02_Truth, C_bateriaref02_Truth, A_api_Hurdle, C_api_Hurdle]) (b_bateriakit_Drum_Any _ _ _ _) (by simp [cleanL, AV.clean, cleanL, cleanI, cleanBo, cleanSt, cleanII, KL_bateriakit_Drum, KL_api_Span, KL_api_Load, KL_api_Float, KL_bateriaref02_Truth, KL_api_Hurdle, A_bateriakit_Drum, C_bateriakit_Drum, A_api_Span, C_api_Span, A_api_Load, C_api_Load, A_api_Float, C_api_Float, A_bateriaref02_Truth, C_bateriaref02_Truth, A_api_Hurdle, C_api_Hurdle]) rfl ?_
                refine drS [1, 2, 3, 4, 5] 7 [] [] (mkS 103 [(0, .ptr 0 0), (7, .ptr 2 0), (10, .ptr 4 0), (12, .ptr 5 0), (14, .sl (out_13.map A_api_Hurdle) (some 0)), (15, .int .i64 i_14), (16, .ptr 6 0), (46, .ptr 0 0), (47, (A_api_Span r_4.1)), (48, .int .i64 r_36.1), (49, .ptr 0 0), (50, .sl (([(-1), 0, 1, 300] : List Int).map (AV.int .i64)) (some 1)), (51, .int .i64 r_37.1), (52, .int .i64 (IntKind.i64.wrap (r_36.1 + r_37.1))), (53, .int .i64 (if (IntKind.i64.wrap (r_36.1 + r_37.1)) > 0 then (IntKind.i64.wrap (r_36.1 + r_37.1)) else 0)), (54, .ptr 0 0), (55, .ptr 2 1), (56, .int .i64 r_4.1.Hi), (57, .ptr 0 0), (58, (A_api_Span r_5.2.1)), (86, .bool (r_20.1 == 2))]) (by simp) (by kernel_rfl) trivial (by kernel_rfl) ?_
                refine drB hT_41.2 2 _ [0] [.ptr 0 0, (A_api_Span r_5.2.1)] (v_bateriakit_Drum_Of r_38) _ _ rfl rfl rfl rfl rfl rfl rfl rfl (by simp [ren, ren1, AV.plain, AV.plain1, AV.clean, List.idxOf?, List.findIdx?, List.findIdx?.go, cleanL, cleanI, cleanBo, cleanSt, cleanII, KL_bateriakit_Drum, KL_api_Span, KL_api_Load, KL_api_Float, KL_bateriaref02_Truth, KL_api_Hurdle, A_bateriakit_Drum, C_bateriakit_Drum, A_api_Span, C_api_Span, A_api_Load, C_api_Load, A_api_Float, C_api_Float, A_bateriaref02_Truth, C_bateriaref02_Truth, A_api_Hurdle, C_api_Hurdle]; try rfl) rfl (by simp [cleanL, AV.clean, cleanL, cleanI, cleanBo, cleanSt, cleanII, KL_bateriakit_Drum, KL_api_Span, KL_api_Load, KL_api_Float, KL_bateriaref02_Truth, KL_api_Hurdle, A_bateriakit_Drum, C_bateriakit_Drum, A_api_Span, C_api_Span, A_api_Load, C_api_Load, A_api_Float, C_api_Float, A_bateriaref02_Truth, C_bateriaref02_Truth, A_api_Hurdle, C_api_Hurdle]) (b_bateriakit_Drum_Of _ _ _ _) (by simp [cleanL, AV.clean, cleanL, cleanI, cleanBo, cleanSt, cleanII, KL_bateriakit_Drum, KL_api_Span, KL_api_Load, KL_api_Float, KL_bateriaref02_Truth, KL_api_Hurdle, A_bateriakit_Drum, C_bateriakit_Drum, A_api_Span, C_api_Span, A_api_Load, C_api_Load, A_api_Float, C_api_Float, A_bateriaref02_Truth, C_bateriaref02_Truth, A_api_Hurdle, C_api_Hurdle]) rfl ?_
                refine drS [1, 2, 3, 4, 5] 1 [] [] (mkS 103 [(0, .ptr 0 0), (7, .ptr 2 0), (10, .ptr 4 0), (12, .ptr 5 0), (14, .sl (out_13.map A_api_Hurdle) (some 0)), (15, .int .i64 i_14), (16, .ptr 6 0), (46, .ptr 0 0), (47, (A_api_Span r_4.1)), (48, .int .i64 r_36.1), (49, .ptr 0 0), (50, .sl (([(-1), 0, 1, 300] : List Int).map (AV.int .i64)) (some 1)), (51, .int .i64 r_37.1), (52, .int .i64 (IntKind.i64.wrap (r_36.1 + r_37.1))), (53, .int .i64 (if (IntKind.i64.wrap (r_36.1 + r_37.1)) > 0 then (IntKind.i64.wrap (r_36.1 + r_37.1)) else 0)), (54, .ptr 0 0), (55, .ptr 2 1), (56, .int .i64 r_4.1.Hi), (57, .ptr 0 0), (58, (A_api_Span r_5.2.1)), (59, .int .i64 r_38.1), (60, .ptr 0 0), (86, .bool (r_20.1 == 2))]) (by simp) (by kernel_rfl) trivial (by kernel_rfl) ?_
                refine drR 2 1 (([(-1), 0, 1] : List Int).map (AV.int .i64)) rfl rfl (fun _ => rfl) (by simp) rfl rfl ?_
                refine drB hT_41.2 3 _ [0] [.ptr 0 0, .sl (([(-1), 0, 1] : List Int).map (AV.int .i64)) (some 2)] (v_bateriakit_Drum_Any r_39) _ _ rfl rfl rfl rfl rfl rfl rfl rfl (by simp [ren, ren1, AV.plain, AV.plain1, AV.clean, List.idxOf?, List.findIdx?, List.findIdx?.go, cleanL, cleanI, cleanBo, cleanSt, cleanII, KL_bateriakit_Drum, KL_api_Span, KL_api_Load, KL_api_Float, KL_bateriaref02_Truth, KL_api_Hurdle, A_bateriakit_Drum, C_bateriakit_Drum, A_api_Span, C_api_Span, A_api_Load, C_api_Load, A_api_Float, C_api_Float, A_bateriaref02_Truth, C_bateriaref02_Truth, A_api_Hurdle, C_api_Hurdle]; try rfl) rfl (by simp [cleanL, AV.clean, cleanL, cleanI, cleanBo, cleanSt, cleanII, KL_bateriakit_Drum, KL_api_Span, KL_api_Load, KL_api_Float, KL_bateriaref02_Truth, KL_api_Hurdle, A_bateriakit_Drum, C_bateriakit_Drum, A_api_Span, C_api_Span, A_api_Load, C_api_Load, A_api_Float, C_api_Float, A_bateriaref02_Truth, C_bateriaref02_Truth, A_api_Hurdle, C_api_Hurdle]) (b_bateriakit_Drum_Any _ _ _ _) (by simp [cleanL, AV.clean, cleanL, cleanI, cleanBo, cleanSt, cleanII, KL_bateriakit_Drum, KL_api_Span, KL_api_Load, KL_api_Float, KL_bateriaref02_Truth, KL_api_Hurdle, A_bateriakit_Drum, C_bateriakit_Drum, A_api_Span, C_api_Span, A_api_Load, C_api_Load, A_api_Float, C_api_Float, A_bateriaref02_Truth, C_bateriaref02_Truth, A_api_Hurdle, C_api_Hurdle]) rfl ?_
                refine drS [1, 2, 3, 4, 5] 1 [] [] (mkS 103 [(0, .ptr 0 0), (7, .ptr 2 0), (10, .ptr 4 0), (12, .ptr 5 0), (14, .sl (out_13.map A_api_Hurdle) (some 0)), (15, .int .i64 i_14), (16, .ptr 6 0), (46, .ptr 0 0), (47, (A_api_Span r_4.1)), (48, .int .i64 r_36.1), (49, .ptr 0 0), (50, .sl (([(-1), 0, 1, 300] : List Int).map (AV.int .i64)) (some 1)), (51, .int .i64 r_37.1), (52, .int .i64 (IntKind.i64.wrap (r_36.1 + r_37.1))), (53, .int .i64 (if (IntKind.i64.wrap (r_36.1 + r_37.1)) > 0 then (IntKind.i64.wrap (r_36.1 + r_37.1)) else 0)), (54, .ptr 0 0), (55, .ptr 2 1), (56, .int .i64 r_4.1.Hi), (57, .ptr 0 0), (58, (A_api_Span r_5.2.1)), (59, .int .i64 r_38.1), (60, .ptr 0 0), (61, .sl (([(-1), 0, 1] : List Int).map (AV.int .i64)) (some 2)), (62, .int .i64 r_39.1), (63, .int .i64 (IntKind.i64.wrap (r_38.1 + r_39.1))), (86, .bool (r_20.1 == 2))]) (by simp) (by kernel_rfl) trivial (by kernel_rfl) ?_
                refine drR 3 1 (([r_4.1.Hi, (IntKind.i64.wrap (r_38.1 + r_39.1))] : List Int).map (AV.int .i64)) rfl rfl (fun _ => rfl) (by simp) rfl rfl ?_
                refine drB hT_41.2 4 _ [0] [.ptr 0 0, .sl (([r_4.1.Hi, (IntKind.i64.wrap (r_38.1 + r_39.1))] : List Int).map (AV.int .i64)) (some 3)] (v_bateriakit_Drum_Any r_40) _ _ rfl rfl rfl rfl rfl rfl rfl rfl (by simp [ren, ren1, AV.plain, AV.plain1, AV.clean, List.idxOf?, List.findIdx?, List.findIdx?.go, cleanL, cleanI, cleanBo, cleanSt, cleanII, KL_bateriakit_Drum, KL_api_Span, KL_api_Load, KL_api_Float, KL_bateriaref02_Truth, KL_api_Hurdle, A_bateriakit_Drum, C_bateriakit_Drum, A_api_Span, C_api_Span, A_api_Load, C_api_Load, A_api_Float, C_api_Float, A_bateriaref02_Truth, C_bateriaref02_Truth, A_api_Hurdle, C_api_Hurdle]; try rfl) rfl (by simp [cleanL, AV.clean, cleanL, cleanI, cleanBo, cleanSt, cleanII, KL_bateriakit_Drum, KL_api_Span, KL_api_Load, KL_api_Float, KL_bateriaref02_Truth, KL_api_Hurdle, A_bateriakit_Drum, C_bateriakit_Drum, A_api_Span, C_api_Span, A_api_Load, C_api_Load, A_api_Float, C_api_Float, A_bateriaref02_Truth, C_bateriaref02_Truth, A_api_Hurdle, C_api_Hurdle]) (b_bateriakit_Drum_Any _ _ _ _) (by simp [cleanL, AV.clean, cleanL, cleanI, cleanBo, cleanSt, cleanII, KL_bateriakit_Drum, KL_api_Span, KL_api_Load, KL_api_Float, KL_bateriaref02_Truth, KL_api_Hurdle, A_bateriakit_Drum, C_bateriakit_Drum, A_api_Span, C_api_Span, A_api_Load, C_api_Load, A_api_Float, C_api_Float, A_bateriaref02_Truth, C_bateriaref02_Truth, A_api_Hurdle, C_api_Hurdle]) rfl ?_
                refine drS [1, 2, 3, 4, 5] 2 [] [] (mkS 103 [(0, .ptr 0 0), (7, .ptr 2 0), (10, .ptr 4 0), (12, .ptr 5 0), (14, .sl (out_13.map A_api_Hurdle) (some 0)), (15, .int .i64 i_14), (16, .ptr 6 0), (46, .ptr 0 0), (47, (A_api_Span r_4.1)), (48, .int .i64 r_36.1), (49, .ptr 0 0), (50, .sl (([(-1), 0, 1, 300] : List Int).map (AV.int .i64)) (some 1)), (51, .int .i64 r_37.1), (52, .int .i64 (IntKind.i64.wrap (r_36.1 + r_37.1))), (53, .int .i64 (if (IntKind.i64.wrap (r_36.1 + r_37.1)) > 0 then (IntKind.i64.wrap (r_36.1 + r_37.1)) else 0)), (54, .ptr 0 0), (55, .ptr 2 1), (56, .int .i64 r_4.1.Hi), (57, .ptr 0 0), (58, (A_api_Span r_5.2.1)), (59, .int .i64 r_38.1), (60, .ptr 0 0), (61, .sl (([(-1), 0, 1] : List Int).map (AV.int .i64)) (some 2)), (62, .int .i64 r_39.1), (63, .int .i64 (IntKind.i64.wrap (r_38.1 + r_39.1))), (64, .sl (([r_4.1.Hi, (IntKind.i64.wrap (r_38.1 + r_39.1))] : List Int).map (AV.int .i64)) (some 3)), (65, .int .i64 r_40.1), (66, .int .i64 (if r_40.1 > 0 then r_40.1 else 0)), (67, .ptr 6 1), (86, .bool (r_20.1 == 2))]) (by simp) (by kernel_rfl) trivial (by kernel_rfl) ?_
                refine drE none none (.tup []) _ _ rfl rfl rfl rfl rfl (by kernel_rfl) trivial ?_
                exact DrO.nil rfl
              · dsimp only [List.getLastD_cons, List.getLastD_nil]
                refine runH 2 [] [0, 7, 10, 12, 14, 15, 16] [] (mkS 103 [(0, .ptr 0 0), (7, .ptr 2 0), (10, .ptr 4 0), (12, .ptr 5 0), (14, .sl (out_13.map A_api_Hurdle) (some 0)), (15, .int .i64 i_14), (16, .ptr 6 0)]) (⟨[(C_bateriakit_Drum r_40.2), (C_api_Float f_2), (C_api_Span r_4.1), (C_api_Span r_5.1), (C_api_Span r_5.2.1), (C_api_Span r_6.1), [.int .i64 r_20.1, .int .i64 (if (IntKind.i64.wrap (r_36.1 + r_37.1)) > 0 then (IntKind.i64.wrap (r_36.1 + r_37.1)) else 0), .int .i64 (if r_40.1 > 0 then r_40.1 else 0)]], [(out_13.length, 3), (4, 1), (3, 1), (2, 1)]⟩) (by kernel_rfl) trivial ?_
                refine ExO.nil ?_
                (try simp only [reduceCtorEq, AEx.ex.injEq, Nat.reduceEqDiff, if_true, if_false])
                exact ⟨_, _, forgetA (m := 103) 7 [0] [(0, .ptr 0 0), (7, .ptr 2 0), (10, .ptr 4 0), (12, .ptr 5 0), (14, .sl (out_13.map A_api_Hurdle) (some 0)), (15, .int .i64 i_14), (16, .ptr 6 0)] [(C_bateriakit_Drum r_40.2), (C_api_Float f_2), (C_api_Span r_4.1), (C_api_Span r_5.1), (C_api_Span r_5.2.1), (C_api_Span r_6.1), [.int .i64 r_20.1, .int .i64 (if (IntKind.i64.wrap (r_36.1 + r_37.1)) > 0 then (IntKind.i64.wrap (r_36.1 + r_37.1)) else 0), .int .i64 (if r_40.1 > 0 then r_40.1 else 0)]] [(out_13.length, 3)] (by simp) (by simp) ⟨rfl, rfl, rfl, rfl, (reT (KL_api_Hurdle _) rfl), rfl, rfl, trivial⟩ (by simp [re, re1, AV.clean, List.idxOf?, List.findIdx?, List.findIdx?.go, cleanL, cleanI, cleanBo, cleanSt, cleanII, KL_bateriakit_Drum, KL_api_Span, KL_api_Load, KL_api_Float, KL_bateriaref02_Truth, KL_api_Hurdle, KB_bateriakit_Drum, KB_api_Span, KB_api_Load, KB_api_Float, KB_bateriaref02_Truth, KB_api_Hurdle]) rfl (by decide), r_40.2.beat_, (if (IntKind.i64.wrap (r_36.1 + r_37.1)) > 0 then (IntKind.i64.wrap (r_36.1 + r_37.1)) else 0), (if r_40.1 > 0 then r_40.1 else 0), h, rfl, rfl⟩
        · rintro a S ⟨b_21, b_22, b_23, h, rfl, rfl⟩
          subst hK_26
          obtain ⟨l_42, hl_42, h⟩ := Option.bind_eq_some_iff.1 h
          refine regH 5 [(3, .app (l_42.map A_api_Hurdle) l_42.length)] [0, 7, 10, 12, 14, 15] [LApp out_13.length (out_13.map A_api_Hurdle) (([(⟨r_20.1, b_22, b_23⟩ : T_api_Hurdle)] : List T_api_Hurdle).map A_api_Hurdle) 3 (l_42.map A_api_Hurdle) l_42.length] (mkS 103 [(0, .ptr 0 0), (7, .ptr 2 0), (10, .ptr 4 0), (12, .ptr 5 0), (14, .sl (l_42.map A_api_Hurdle) (some 0)), (15, .int .i64 i_14)]) (⟨[[.int .u64 b_21], (C_api_Float f_2), (C_api_Span r_4.1), (C_api_Span r_5.1), (C_api_Span r_5.2.1), (C_api_Span r_6.1), [.int .i64 r_20.1, .int .i64 b_22, .int .i64 b_23]], [(l_42.length, 3), (1, 3)]⟩) (by kernel_rfl) ⟨LApp.of hl_42 (fun _ => rfl), trivial⟩ rfl ?_
          refine regH 3 [] [0, 7, 10, 12, 14, 15] [] (mkS 103 [(0, .ptr 0 0), (7, .ptr 2 0), (10, .ptr 4 0), (12, .ptr 5 0), (14, .sl (l_42.map A_api_Hurdle) (some 0)), (15, .int .i64 (IntKind.i64.wrap (i_14 - 1)))]) (⟨[[.int .u64 b_21], (C_api_Float f_2), (C_api_Span r_4.1), (C_api_Span r_5.1), (C_api_Span r_5.2.1), (C_api_Span r_6.1), [.int .i64 r_20.1, .int .i64 b_22, .int .i64 b_23]], [(l_42.length, 3), (1, 3)]⟩) (by kernel_rfl) trivial rfl ?_
          dsimp only
          exact ⟨_, _, forgetA (m := 103) 6 [0] [(0, .ptr 0 0), (7, .ptr 2 0), (10, .ptr 4 0), (12, .ptr 5 0), (14, .sl (l_42.map A_api_Hurdle) (some 0)), (15, .int .i64 (IntKind.i64.wrap (i_14 - 1)))] [[.int .u64 b_21], (C_api_Float f_2), (C_api_Span r_4.1), (C_api_Span r_5.1), (C_api_Span r_5.2.1), (C_api_Span r_6.1)] [(l_42.length, 3)] (by simp) (by simp) ⟨rfl, rfl, rfl, rfl, (reT (KL_api_Hurdle _) rfl), rfl, trivial⟩ (by simp [re, re1, AV.clean, List.idxOf?, List.findIdx?, List.findIdx?.go, cleanL, cleanI, cleanBo, cleanSt, cleanII, KL_bateriakit_Drum, KL_api_Span, KL_api_Load, KL_api_Float, KL_bateriaref02_Truth, KL_api_Hurdle, KB_bateriakit_Drum, KB_api_Span, KB_api_Load, KB_api_Float, KB_bateriaref02_Truth, KB_api_Hurdle]) rfl (by decide), k, Nat.lt_succ_self k, l_42, (IntKind.i64.wrap (i_14 - 1)), b_21, h, rfl, rfl⟩
      · refine Ex.condF _ rfl hc_19 ?_
        refine Ex.exit ?_
        (try simp only [reduceCtorEq, AEx.ex.injEq, Nat.reduceEqDiff, if_true, if_false])
        exact ⟨_, _, forgetA (m := 103) 1 [0] [(14, .sl (out_13.map A_api_Hurdle) (some 0))] [[.int .u64 b_15]] [(out_13.length, 3)] (by simp) (by simp) ⟨(reT (KL_api_Hurdle _) rfl), trivial⟩ (by simp [re, re1, AV.clean, List.idxOf?, List.findIdx?, List.findIdx?.go, cleanL, cleanI, cleanBo, cleanSt, cleanII, KL_bateriakit_Drum, KL_api_Span, KL_api_Load, KL_api_Float, KL_bateriaref02_Truth, KL_api_Hurdle, KB_bateriakit_Drum, KB_api_Span, KB_api_Load, KB_api_Float, KB_bateriaref02_Truth, KB_api_Hurdle]) rfl (by decide), out_13, b_15, h, rfl, rfl⟩
  · rintro a S ⟨out_8, b_9, h, rfl, rfl⟩
    subst hK_12
    refine Ex.seq ?_
    refine regH 2 [] [6] [] (mkS 103 [(6, .sl (out_8.map A_api_Hurdle) (some 0))]) (⟨[[.int .u64 b_9]], [(out_8.length, 3)]⟩) (by kernel_rfl) trivial rfl ?_
    refine Ex.ret ?_
    obtain rfl := Option.some.inj h
    exact ⟨.inr rfl, .sl (out_8.map A_api_Hurdle) (some 0), by kernel_rfl, by kernel_rfl, by kernel_rfl, by kernel_rfl⟩
def p_bateriaref02_With (N : Nat) (f_1 : T_api_Float) (at_2 : Int) (kilos_3 : Int) : Option (T_api_Float) := ((pushI ([] : List T_api_Load) f_1.Loads).bind fun l_4 => ((pushI l_4 ([(⟨at_2, (⟨kilos_3, kilos_3⟩ : T_api_Span), (⟨0, 0⟩ : T_api_Span), 1, 0⟩ : T_api_Load)] : List T_api_Load)).bind fun l_5 => some (⟨f_1.Length, f_1.Width, f_1.Front, f_1.Rear, f_1.Turn, f_1.Kilos, f_1.Middle, f_1.High, l_5⟩ : T_api_Float)))
def v_bateriaref02_With (r : T_api_Float) : AV := (A_api_Float r)
theorem b_bateriaref02_With (r : T_api_Float) (n n2 m : Nat) : back n n2 m (v_bateriaref02_With r) = some (v_bateriaref02_With r) := by simp [v_bateriaref02_With, back, back1, AV.plain, AV.plain1, AV.clean, cleanL, cleanI, cleanBo, cleanSt, cleanII, KL_bateriakit_Drum, KL_api_Span, KL_api_Load, KL_api_Float, KL_bateriaref02_Truth, KL_api_Hurdle, A_bateriakit_Drum, C_bateriakit_Drum, A_api_Span, C_api_Span, A_api_Load, C_api_Load, A_api_Float, C_api_Float, A_bateriaref02_Truth, C_bateriaref02_Truth, A_api_Hurdle, C_api_Hurdle]
theorem d_bateriaref02_With (N : Nat) (f_1 : T_api_Float) (at_2 : Int) (kilos_3 : Int) (r : T_api_Float) (h : p_bateriaref02_With N f_1 at_2 kilos_3 = some r) : Does Try.prog 36 [(A_api_Float f_1), .int .i64 at_2, .int .i64 kilos_3] [] fun v c => v = v_bateriaref02_With r ∧ c = [] := by
  unfold p_bateriaref02_With at h
  refine Does.ofL comp36 _ _ rfl rfl ?_
  refine Ex.seq ?_
  refine regH 2 [] [1, 2, 3, 6] [] (mkS 20 [(1, .int .i64 at_2), (2, .int .i64 kilos_3), (3, .ptr 0 0), (6, .ptr 1 0)]) (⟨[(C_api_Float f_1), [.int .i64 0, .int .i64 0, .int .i64 0, .int .i64 0, .int .i64 0, .int .i64 0, .int .i64 0, .int .i64 0, .nils]], []⟩) (by kernel_rfl) trivial rfl ?_
  refine Ex.seq ?_
  obtain ⟨l_4, hl_4, h⟩ := Option.bind_eq_some_iff.1 h
  obtain ⟨l_5, hl_5, h⟩ := Option.bind_eq_some_iff.1 h
  refine regH 13 [(3, .apps (f_1.Loads.map A_api_Load) (l_4.map A_api_Load) l_4.length), (10, .app (l_5.map A_api_Load) l_5.length)] [3, 6] [LApps 0 (([] : List T_api_Load).map A_api_Load) (f_1.Loads.map A_api_Load) (f_1.Loads.map A_api_Load) 7 (l_4.map A_api_Load) l_4.length, LApp l_4.length (l_4.map A_api_Load) (([(⟨at_2, (⟨kilos_3, kilos_3⟩ : T_api_Span), (⟨0, 0⟩ : T_api_Span), 1, 0⟩ : T_api_Load)] : List T_api_Load).map A_api_Load) 7 (l_5.map A_api_Load) l_5.length] (mkS 20 [(3, .ptr 0 0), (6, .ptr 1 0)]) (⟨[[.int .i64 f_1.Length, .int .i64 f_1.Width, .int .i64 f_1.Front, .int .i64 f_1.Rear, .int .i64 f_1.Turn, .int .i64 f_1.Kilos, .int .i64 f_1.Middle, .int .i64 f_1.High, .sl (l_5.map A_api_Load) (some 0)], [.int .i64 0, .int .i64 0, .int .i64 0, .int .i64 0, .int .i64 0, .int .i64 0, .int .i64 0, .int .i64 0, .nils]], [(l_5.length, 7), (1, 7)]⟩) (by kernel_rfl) ⟨LApps.of hl_4 (fun _ => rfl) (fun _ => rfl) (fun _ => rfl), LApp.of hl_5 (fun _ => rfl), trivial⟩ rfl ?_
  refine Ex.seq ?_
  refine regH 2 [] [6] [] (mkS 20 [(6, .ptr 1 0)]) (⟨[[.int .i64 f_1.Length, .int .i64 f_1.Width, .int .i64 f_1.Front, .int .i64 f_1.Rear, .int .i64 f_1.Turn, .int .i64 f_1.Kilos, .int .i64 f_1.Middle, .int .i64 f_1.High, .sl (l_5.map A_api_Load) (some 0)], [.int .i64 f_1.Length, .int .i64 f_1.Width, .int .i64 f_1.Front, .int .i64 f_1.Rear, .int .i64 f_1.Turn, .int .i64 f_1.Kilos, .int .i64 f_1.Middle, .int .i64 f_1.High, .sl (l_5.map A_api_Load) (some 0)]], [(l_5.length, 7), (1, 7)]⟩) (by kernel_rfl) trivial rfl ?_
  refine Ex.ret ?_
  obtain rfl := Option.some.inj h
  exact ⟨.inr rfl, .agg [.int .i64 f_1.Length, .int .i64 f_1.Width, .int .i64 f_1.Front, .int .i64 f_1.Rear, .int .i64 f_1.Turn, .int .i64 f_1.Kilos, .int .i64 f_1.Middle, .int .i64 f_1.High, .sl (l_5.map A_api_Load) (some 0)], by kernel_rfl, by kernel_rfl, by kernel_rfl, by kernel_rfl⟩
def p_bateriakit_In (N : Nat) (x_1 : T_api_Span) (n_2 : Int) : Option (Bool) := (bif (decide (x_1.Lo ≤ n_2)) then some (decide (n_2 ≤ x_1.Hi)) else some false)
def v_bateriakit_In (r : Bool) : AV := .bool r
theorem b_bateriakit_In (r : Bool) (n n2 m : Nat) : back n n2 m (v_bateriakit_In r) = some (v_bateriakit_In r) := by simp [v_bateriakit_In, back, back1, AV.plain, AV.plain1, AV.clean, cleanL, cleanI, cleanBo, cleanSt, cleanII, KL_bateriakit_Drum, KL_api_Span, KL_api_Load, KL_api_Float, KL_bateriaref02_Truth, KL_api_Hurdle, A_bateriakit_Drum, C_bateriakit_Drum, A_api_Span, C_api_Span, A_api_Load, C_api_Load, A_api_Float, C_api_Float, A_bateriaref02_Truth, C_bateriaref02_Truth, A_api_Hurdle, C_api_Hurdle]
theorem d_bateriakit_In (N : Nat) (x_1 : T_api_Span) (n_2 : Int) (r : Bool) (h : p_bateriakit_In N x_1 n_2 = some r) : Does Try.prog 37 [(A_api_Span x_1), .int .i64 n_2] [] fun v c => v = v_bateriakit_In r ∧ c = [] := by
  unfold p_bateriakit_In at h
  refine Does.ofL comp37 _ _ rfl rfl ?_
  refine Ex.seq ?_
  refine regH 2 [] [1, 2] [] (mkS 15 [(1, .int .i64 n_2), (2, .ptr 0 0)]) (⟨[(C_api_Span x_1)], []⟩) (by kernel_rfl) trivial rfl ?_
  refine Ex.seq ?_
  rcases condI h with ⟨hc_3, h⟩ | ⟨hc_3, h⟩
  · refine regH 11 [(4, .eq (.bool true))] [4] [AV.bool (decide (x_1.Lo ≤ n_2)) = AV.bool true] (mkS 15 [(4, .bool (decide (n_2 ≤ x_1.Hi)))]) (⟨[(C_api_Span x_1)], []⟩) (by kernel_rfl) ⟨congrArg AV.bool hc_3, trivial⟩ rfl ?_
    refine Ex.ret ?_
    obtain rfl := Option.some.inj h
    exact ⟨.inr rfl, .bool (decide (n_2 ≤ x_1.Hi)), by kernel_rfl, by kernel_rfl, by kernel_rfl, by kernel_rfl⟩
  · refine regH 11 [(4, .eq (.bool false))] [4] [AV.bool (decide (x_1.Lo ≤ n_2)) = AV.bool false] (mkS 15 [(4, .bool false)]) (⟨[(C_api_Span x_1)], []⟩) (by kernel_rfl) ⟨congrArg AV.bool hc_3, trivial⟩ rfl ?_
    refine Ex.ret ?_
    obtain rfl := Option.some.inj h
    exact ⟨.inr rfl, .bool false, by kernel_rfl, by kernel_rfl, by kernel_rfl, by kernel_rfl⟩
end Go.Proofs.Ytjpoganponbdlaa
end
section
namespace Go.Proofs.Ytjpoganponbdlaa
open Go.RowKit
set_option linter.unusedVariables false
set_option linter.unusedSimpArgs false
set_option maxRecDepth 10000
set_option maxHeartbeats 4000000

structure LdOk (fr re : Int) (l : T_api_Load) : Prop where
  a1 : fr ≤ l.At
  a2 : l.At ≤ re
  k1 : 0 ≤ l.Kilos.Lo
  k2 : l.Kilos.Lo ≤ l.Kilos.Hi
  k3 : l.Kilos.Hi ≤ 100000
  t1 : 0 ≤ l.Top.Lo
  t2 : l.Top.Lo ≤ l.Top.Hi
  t3 : l.Top.Hi ≤ 2000
  d1 : 1 ≤ l.Kind
  d2 : l.Kind ≤ 4
  w1 : 0 ≤ l.Watts
  w2 : l.Watts ≤ 1000000
  w3 : l.Watts = 0 ∨ l.Kind = 2 ∨ l.Kind = 3
structure FlOk (f : T_api_Float) : Prop where
  l1 : 1 ≤ f.Length
  l2 : f.Length ≤ 3000
  w1 : 1 ≤ f.Width
  w2 : f.Width ≤ 1000
  f1 : 0 ≤ f.Front
  f2 : f.Front < f.Rear
  f3 : f.Rear ≤ f.Length
  t1 : 0 ≤ f.Turn
  t2 : f.Turn ≤ 20000
  k1 : 0 ≤ f.Kilos
  k2 : f.Kilos ≤ 100000
  m1 : 0 ≤ f.Middle
  m2 : f.Middle ≤ f.Length
  h1 : 0 ≤ f.High
  h2 : f.High ≤ 2000
  n : f.Loads.length ≤ 20
  all : ∀ l ∈ f.Loads, LdOk f.Front f.Rear l
structure FlMade (f : T_api_Float) (n : Int) : Prop where
  ok : FlOk f
  n : (f.Loads.length : Int) ≤ n
  k : f.Kilos ≤ 5000
  l : f.Length ≤ 1200
  a : ∀ l ∈ f.Loads, l.Kilos.Hi ≤ 900

theorem floatOf_p (N : Nat) (d : T_bateriakit_Drum) (n : Int) (h0 : 0 ≤ n) (h1 : n ≤ 20) (hN : 30 < N) : ∃ f d', p_bateriakit_FloatOf N d n = some (f, d') ∧ FlMade f n := by
  unfold p_bateriakit_FloatOf
  obtain ⟨r3, d3, e, m3⟩ := any_p N d [20, 1200] (by simp) (by simp)
  rw [e, Option.bind_some]; clear e
  have m3 : r3 = 20 ∨ r3 = 1200 := by simpa using m3
  obtain ⟨r4, d4, e, a4, b4, _⟩ := mid_p N d3 2 r3 (by omega) (by omega) (by omega) (by omega)
  rw [e, Option.bind_some]; clear e
  have b4 := b4 (by omega)
  obtain ⟨r5, d5, e, a5, b5, _⟩ := mid_p N d4 1 400 (by omega) (by omega) (by omega) (by omega)
  rw [e, Option.bind_some]; clear e
  have b5 := b5 (by omega)
  obtain ⟨r6, d6, e, a6, _, b6⟩ := roll_p N d5 1500 (by omega)
  rw [e, Option.bind_some]; clear e
  have b6 := b6 (by omega)
  obtain ⟨r7, d7, e, m7⟩ := any_p N d6 [0, r6] (by simp) (by simp)
  rw [e, Option.bind_some]; clear e
  have m7 : r7 = 0 ∨ r7 = r6 := by simpa using m7
  obtain ⟨r8, d8, e, a8, _, b8⟩ := roll_p N d7 5000 (by omega)
  rw [e, Option.bind_some]; clear e
  have b8 := b8 (by omega)
  obtain ⟨r9, d9, e, m9⟩ := any_p N d8 [0, r8] (by simp) (by simp)
  rw [e, Option.bind_some]; clear e
  have m9 : r9 = 0 ∨ r9 = r8 := by simpa using m9
  obtain ⟨r10, d10, e, a10, _, b10⟩ := roll_p N d9 500 (by omega)
  rw [e, Option.bind_some]; clear e
  have b10 := b10 (by omega)
  obtain ⟨r11, d11, e, a11, c11, b11⟩ := roll_p N d10 r4 (by omega)
  rw [e, Option.bind_some]; clear e
  have b11 := b11 (by omega)
  show ∃ f d', ((p_bateriakit_Drum_Mid N d11 (IntKind.i64.wrap (r11 + 1)) r4).bind _) = some (f, d') ∧ _
  rw [w64 (x := r11 + 1) (by omega) (by omega)]
  obtain ⟨r12, d12, e, a12, b12, _⟩ := mid_p N d11 (r11 + 1) r4 (by omega) (by omega) (by omega) (by omega)
  rw [e, Option.bind_some]; clear e
  have b12 := b12 (by omega)
  obtain ⟨r13, d13, e, a13, b13, _⟩ := mid_p N d12 0 r4 (by omega) (by omega) (by omega) (by omega)
  rw [e, Option.bind_some]; clear e
  have b13 := b13 (by omega)
  show ∃ f d', ((p_bateriakit_Drum_Roll N d13 (IntKind.i64.wrap (n + 1))).bind _) = some (f, d') ∧ _
  rw [w64 (x := n + 1) (by omega) (by omega)]
  obtain ⟨r14, d14, e, a14, c14, b14⟩ := roll_p N d13 (n + 1) (by omega)
  rw [e, Option.bind_some, letJ_eq]; clear e
  have hr14 : r14 ≤ n := by
    by_cases hc : n + 1 < 2
    · have := c14 hc; omega
    · have := b14 (by omega); omega
  refine loop3_T (fun x => ∃ f d', x = some (f, d') ∧ FlMade f n) (fun i b ls => 0 ≤ i ∧ (ls.length : Int) + i ≤ n ∧ ∀ l ∈ ls, LdOk r11 r12 l ∧ l.Kilos.Hi ≤ 900) (fun i b ls => i.toNat) ?_ N r14 _ [] ⟨a14, by simpa using hr14, by simp⟩ (by omega)
  rintro rec i b ls ⟨hi0, hi1, hall⟩ ih
  by_cases hc : i > 0
  · rw [show decide (i > 0) = true from decide_eq_true hc, cond_true]
    obtain ⟨r27, d27, e, a27, b27, _⟩ := mid_p N ⟨b⟩ r11 r12 (by omega) (by omega) (by omega) (by omega)
    rw [e, Option.bind_some]; clear e
    have b27 := b27 (by omega)
    obtain ⟨r28, d28, e, m28⟩ := any_p N d27 [5, 900] (by simp) (by simp)
    rw [e, Option.bind_some]; clear e
    have m28 : r28 = 5 ∨ r28 = 900 := by simpa using m28
    obtain ⟨x29, d29, e, a29, b29, c29⟩ := span_p N d28 0 r28 (by omega) (by omega) (by omega)
    rw [e, Option.bind_some]; clear e
    obtain ⟨r30, d30, e, m30⟩ := any_p N d29 [20, 700] (by simp) (by simp)
    rw [e, Option.bind_some]; clear e
    have m30 : r30 = 20 ∨ r30 = 700 := by simpa using m30
    obtain ⟨x31, d31, e, a31, b31, c31⟩ := span_p N d30 0 r30 (by omega) (by omega) (by omega)
    rw [e, Option.bind_some]; clear e
    obtain ⟨r32, d32, e, a32, b32, _⟩ := mid_p N d31 1 4 (by omega) (by omega) (by omega) (by omega)
    rw [e, Option.bind_some]; clear e
    have b32 := b32 (by omega)
    have key : ∀ (b' wt : Int), 0 ≤ wt → wt ≤ 1000000 → (wt = 0 ∨ r32 = 2 ∨ r32 = 3) → ∃ f d', ((pushI ls ([(⟨r27, x29, x31, r32, wt⟩ : T_api_Load)] : List T_api_Load)).bind fun l_45 => (rec (IntKind.i64.wrap (i - 1)) b' l_45)) = some (f, d') ∧ FlMade f n := by
      intro b' wt g0 g1 g2
      rw [pushI_ok (by simp; omega), Option.bind_some, w64 (x := i - 1) (by omega) (by omega)]
      refine ih _ _ _ ⟨by omega, by simp; omega, ?_⟩ (by omega)
      intro l hl
      rcases List.mem_append.1 hl with hl | hl
      · exact hall l hl
      · have : l = ⟨r27, x29, x31, r32, wt⟩ := by simpa using hl
        subst this
        exact ⟨⟨a27, b27, a29, b29, by show x29.Hi ≤ 100000; omega, a31, b31, by show x31.Hi ≤ 2000; omega, a32, b32, g0, g1, g2⟩, by show x29.Hi ≤ 900; omega⟩
    rw [letJ_eq, letJ_eq]
    dsimp only
    by_cases h2 : r32 = 2
    · rw [show (r32 == 2) = true by simp [h2], cond_true, cond_true]
      obtain ⟨r44, d44, e, a44, _, b44⟩ := roll_p N d32 3000 (by omega)
      have b44 := b44 (by omega)
      rw [e, Option.bind_some]
      exact key _ _ a44 (by omega) (.inr (.inl h2))
    · rw [show (r32 == 2) = false by simp [h2], cond_false]
      by_cases h3 : r32 = 3
      · rw [show (r32 == 3) = true by simp [h3], cond_true]
        obtain ⟨r44, d44, e, a44, _, b44⟩ := roll_p N d32 3000 (by omega)
        have b44 := b44 (by omega)
        rw [e, Option.bind_some]
        exact key _ _ a44 (by omega) (.inr (.inr h3))
      · rw [show (r32 == 3) = false by simp [h3], cond_false]
        exact key _ _ (by omega) (by omega) (.inl rfl)
  · rw [show decide (i > 0) = false from decide_eq_false hc, cond_false]
    refine ⟨_, _, rfl, ⟨?_, ?_, ?_, ?_, ?_⟩⟩
    · exact ⟨by show 1 ≤ r4; omega, by show r4 ≤ 3000; omega, by show 1 ≤ r5; omega, by show r5 ≤ 1000; omega, by show 0 ≤ r11; omega, by show r11 < r12; omega, by show r12 ≤ r4; omega, by show 0 ≤ r7; omega, by show r7 ≤ 20000; omega, by show 0 ≤ r9; omega, by show r9 ≤ 100000; omega, by show 0 ≤ r13; omega, by show r13 ≤ r4; omega, by show 0 ≤ r10; omega, by show r10 ≤ 2000; omega, by show ls.length ≤ 20; omega, fun l hl => (hall l hl).1⟩
    · show (ls.length : Int) ≤ n; omega
    · show r9 ≤ 5000; omega
    · show r4 ≤ 1200; omega
    · exact fun l hl => (hall l hl).2
end Go.Proofs.Ytjpoganponbdlaa
end
section
namespace Go.Proofs.Ytjpoganponbdlaa
open Go.RowKit
set_option linter.unusedVariables false
set_option linter.unusedSimpArgs false
set_option maxRecDepth 10000
set_option maxHeartbeats 4000000

section
variable {α A B ρ : Type}
theorem for2 (l : List α) (body : (A → Int → Option ρ) → A → Int → Option ρ) (f : A → α → A) (K : A → Option ρ) (I : Nat → A → Prop)
    (hend : ∀ rec a, I l.length a → body rec a (l.length : Int) = K a)
    (hstep : ∀ rec a (i : Nat) x, l[i]? = some x → I i a → body rec a (i : Int) = rec (f a x) ((i + 1 : Nat) : Int) ∧ I (i + 1) (f a x)) : ∀ (N : Nat) (i : Nat) (a : A), I i a → i ≤ l.length → l.length - i < N → loop2 body N a (i : Int) = K ((l.drop i).foldl f a)
  | 0, i, a, _, _, h => absurd h (Nat.not_lt_zero _)
  | N + 1, i, a, hi, hle, hN => by
    show body (loop2 body N) a (i : Int) = _
    by_cases hlt : i < l.length
    · have hx : l[i]? = some l[i] := List.getElem?_eq_getElem hlt
      obtain ⟨h1, h2⟩ := hstep (loop2 body N) a i l[i] hx hi
      rw [h1, for2 l body f K I hend hstep N (i + 1) (f a l[i]) h2 (by omega) (by omega), List.drop_eq_getElem_cons hlt]
      rfl
    · have : i = l.length := by omega
      subst this
      rw [hend _ a hi, List.drop_length]
      rfl
theorem for1 (l : List α) (body : (Int → Option ρ) → Int → Option ρ) (r : Option ρ)
    (hend : ∀ rec, body rec (l.length : Int) = r)
    (hstep : ∀ rec (i : Nat) x, l[i]? = some x → body rec (i : Int) = rec ((i + 1 : Nat) : Int)) : ∀ (N : Nat) (i : Nat), i ≤ l.length → l.length - i < N → loop1 body N (i : Int) = r
  | 0, i, _, h => absurd h (Nat.not_lt_zero _)
  | N + 1, i, hle, hN => by
    show body (loop1 body N) (i : Int) = _
    by_cases hlt : i < l.length
    · rw [hstep _ i l[i] (List.getElem?_eq_getElem hlt), for1 l body r hend hstep N (i + 1) (by omega) (by omega)]
    · have : i = l.length := by omega
      subst this
      exact hend _
end
theorem nat_add1 (i : Nat) (h : i < 4611686018427387904) : IntKind.i64.wrap ((i : Int) + 1) = ((i + 1 : Nat) : Int) := by
  rw [w64 (x := (i : Int) + 1) (by omega) (by omega)]
  omega
theorem lt_dec {α : Type} {l : List α} {i : Nat} {x : α} (h : l[i]? = some x) : decide ((i : Int) < ((l.length : Nat) : Int)) = true ∧ getI l (i : Int) = some x ∧ x ∈ l ∧ i < l.length := by
  have hlt := (List.getElem?_eq_some_iff.1 h).1
  exact ⟨decide_eq_true (by omega), by rw [getI_nat]; exact h, List.mem_of_getElem? h, hlt⟩
theorem len_dec {α : Type} (l : List α) : decide (((l.length : Nat) : Int) < ((l.length : Nat) : Int)) = false := decide_eq_false (by omega)

theorem rwithin_p (N : Nat) (n lo hi : Int) : p_bateriaref02_within N n lo hi = some (decide (lo ≤ n) && decide (n ≤ hi)) := by
  unfold p_bateriaref02_within
  by_cases h : n ≥ lo
  · have h' : lo ≤ n := h
    simp [h, h']
  · have h' : ¬ lo ≤ n := h
    simp [h, h']
theorem rwithin_t (N : Nat) (n lo hi : Int) (h1 : lo ≤ n) (h2 : n ≤ hi) : p_bateriaref02_within N n lo hi = some true := by
  rw [rwithin_p]; simp [h1, h2]
theorem rcheckSpan_t (N : Nat) (x : T_api_Span) (m : Int) (h1 : 0 ≤ x.Lo) (h2 : x.Lo ≤ x.Hi) (h3 : x.Hi ≤ m) : p_bateriaref02_checkSpan N x m = some 0 := by
  unfold p_bateriaref02_checkSpan
  rw [letJ_eq, rwithin_t N _ _ _ h1 (by omega), Option.bind_some]
  simp only [Bool.not_true, cond_false]
  rw [rwithin_t N _ _ _ (by omega) h3]
  simp [show ¬ x.Lo > x.Hi by omega]
theorem rcheckLoad_t (N : Nat) (f : T_api_Float) (l : T_api_Load) (h : LdOk f.Front f.Rear l) : p_bateriaref02_checkLoad N f l = some 0 := by
  obtain ⟨a1, a2, k1, k2, k3, t1, t2, t3, d1, d2, w1, w2, w3⟩ := h
  unfold p_bateriaref02_checkLoad
  rw [rwithin_t N _ _ _ a1 a2, Option.bind_some, rcheckSpan_t N _ _ k1 k2 k3, Option.bind_some, rcheckSpan_t N _ _ t1 t2 t3, Option.bind_some, rwithin_t N _ _ _ d1 d2, Option.bind_some, rwithin_t N _ _ _ w1 w2, Option.bind_some, letJ_eq]
  by_cases hw : l.Watts > 0
  · rcases w3 with h0 | h0 | h0
    · omega
    · simp [hw, h0]
    · simp [hw, h0]
  · simp [hw]
theorem rCheck_t (N : Nat) (f : T_api_Float) (h : FlOk f) (hN : 30 < N) : p_bateriaref02_Check N f = some 0 := by
  have hn := h.n
  unfold p_bateriaref02_Check
  simp only [letJ_eq, rwithin_t N _ _ _ h.l1 h.l2, rwithin_t N _ _ _ h.w1 h.w2, rwithin_t N _ _ _ h.f1 (show f.Front ≤ f.Length by have := h.f2; have := h.f3; omega), rwithin_t N _ _ _ (show 0 ≤ f.Rear by have := h.f2; have := h.f1; omega) h.f3, rwithin_t N _ _ _ h.t1 h.t2, rwithin_t N _ _ _ h.k1 h.k2, rwithin_t N _ _ _ h.m1 h.m2, rwithin_t N _ _ _ h.h1 h.h2, Option.bind_some, Bool.not_true, cond_false, show decide (f.Front ≥ f.Rear) = false from decide_eq_false (by have := h.f2; omega), show decide (((f.Loads.length : Nat) : Int) > 20) = false from decide_eq_false (by omega)]
  refine for1 f.Loads _ (some 0) ?_ ?_ N 0 (by omega) (by omega)
  · intro rec
    rw [len_dec, cond_false]
  · intro rec i x hx
    obtain ⟨e1, e2, e3, e4⟩ := lt_dec hx
    rw [e1, cond_true, e2, Option.bind_some, rcheckLoad_t N f x (h.all x e3), Option.bind_some, nat_add1 i (by omega)]
    rfl

def los (f : T_api_Float) : List Int := f.Loads.map fun l => l.Kilos.Lo
def his (f : T_api_Float) : List Int := f.Loads.map fun l => l.Kilos.Hi
def tlos (f : T_api_Float) : List Int := f.Loads.map fun l => l.Top.Lo
def this (f : T_api_Float) : List Int := f.Loads.map fun l => l.Top.Hi
theorem truth_p (N : Nat) (f : T_api_Float) (hn : f.Loads.length ≤ 20) (hN : 30 < N) : p_bateriaref02_Least N f = some ⟨los f, tlos f⟩ ∧ p_bateriaref02_Greatest N f = some ⟨his f, this f⟩ := by
  have key : ∀ (g k : T_api_Load → Int) (body : (Int → List Int → List Int → Option T_bateriaref02_Truth) → Int → List Int → List Int → Option T_bateriaref02_Truth),
      (∀ rec i a b, body rec i a b = (bif (decide (i < ((f.Loads.length : Nat) : Int))) then ((getI f.Loads i).bind fun x_14 => ((pushI a ([g x_14] : List Int)).bind fun l_15 => ((getI f.Loads i).bind fun x_16 => ((pushI b ([k x_16] : List Int)).bind fun l_17 => (rec (IntKind.i64.wrap (i + 1)) l_15 l_17))))) else some (⟨a, b⟩ : T_bateriaref02_Truth))) →
      loop3 body N 0 [] [] = some ⟨f.Loads.map g, f.Loads.map k⟩ := by
    intro g k body hb
    refine loop3_T (fun (x : Option T_bateriaref02_Truth) => x = some (⟨f.Loads.map g, f.Loads.map k⟩ : T_bateriaref02_Truth)) (fun i a b => ∃ j : Nat, i = (j : Int) ∧ j ≤ f.Loads.length ∧ a = (f.Loads.take j).map g ∧ b = (f.Loads.take j).map k) (fun i a b => f.Loads.length - i.toNat) ?_ N 0 [] [] ⟨0, rfl, by omega, by simp, by simp⟩ (by simp; omega)
    rintro rec i a b ⟨j, rfl, hj, rfl, rfl⟩ ih
    rw [hb]
    by_cases hlt : j < f.Loads.length
    · have hx : f.Loads[j]? = some f.Loads[j] := List.getElem?_eq_getElem hlt
      obtain ⟨e1, e2, e3, e4⟩ := lt_dec hx
      rw [e1, cond_true, e2, Option.bind_some, pushI_ok (by simp; omega), Option.bind_some, Option.bind_some, pushI_ok (by simp; omega), Option.bind_some, nat_add1 j (by omega)]
      refine ih _ _ _ ⟨j + 1, rfl, by omega, ?_, ?_⟩ (by omega)
      · rw [List.take_succ_eq_append_getElem hlt, List.map_append]; rfl
      · rw [List.take_succ_eq_append_getElem hlt, List.map_append]; rfl
    · have : j = f.Loads.length := by omega
      subst this
      rw [len_dec, cond_false, List.take_length]
  constructor
  · unfold p_bateriaref02_Least
    rw [letJ_eq]
    exact key _ _ _ fun rec i a b => rfl
  · unfold p_bateriaref02_Greatest
    rw [letJ_eq]
    exact key _ _ _ fun rec i a b => rfl
theorem weighs_p (N : Nat) (f : T_api_Float) (t : T_bateriaref02_Truth) (c : Int) (hc : c ≤ 100000) (hk0 : 0 ≤ f.Kilos) (hk1 : f.Kilos ≤ 100000) (hall : ∀ x ∈ t.Kilos, 0 ≤ x ∧ x ≤ c) (hn : t.Kilos.length ≤ 30) (hN : 40 < N) : p_bateriaref02_Weighs N f t = some (f.Kilos + t.Kilos.sum) := by
  unfold p_bateriaref02_Weighs
  rw [letJ_eq]
  have h := for2 t.Kilos (fun rec_9 (sum_7 : Int) (i_8 : Int) => (bif (decide (i_8 < ((t.Kilos.length : Nat) : Int))) then ((getI t.Kilos i_8).bind fun x_13 => (rec_9 (IntKind.i64.wrap (sum_7 + x_13)) (IntKind.i64.wrap (i_8 + 1)))) else some sum_7)) (fun a x => a + x) some (fun i a => 0 ≤ a ∧ a ≤ 100000 + 100000 * (i : Int)) (fun rec a _ => by simp only [len_dec, cond_false]) (fun rec a i x hx ha => by
    obtain ⟨e1, e2, e3, e4⟩ := lt_dec hx
    have := hall x e3
    simp only [e1, cond_true, e2, Option.bind_some]
    rw [nat_add1 i (by omega), w64 (x := a + x) (by omega) (by omega)]
    exact ⟨rfl, by omega, by omega⟩) N 0 f.Kilos ⟨hk0, by omega⟩ (by omega) (by omega)
  have hs : ∀ (l : List Int) (a : Int), l.foldl (fun a x => a + x) a = a + l.sum := by
    intro l
    induction l with
    | nil => intro a; simp
    | cons x l ih => intro a; rw [List.foldl_cons, ih, List.sum_cons]; omega
  rw [List.drop_zero, hs] at h
  exact h

theorem mulB {a b A B : Int} (h1 : 0 ≤ a) (h2 : a ≤ A) (h3 : 0 ≤ b) (h4 : b ≤ B) : 0 ≤ a * b ∧ a * b ≤ A * B :=
  ⟨Int.mul_nonneg h1 h3, Int.mul_le_mul h2 h4 h3 (by omega)⟩
theorem mulS {a b A B : Int} (h1 : 0 ≤ a) (h2 : a ≤ A) (h3 : -B ≤ b) (h4 : b ≤ B) : -(A * B) ≤ a * b ∧ a * b ≤ A * B := by
  have hB : 0 ≤ B := by omega
  by_cases hb : 0 ≤ b
  · obtain ⟨h5, h6⟩ := mulB h1 h2 hb h4
    exact ⟨by have := Int.mul_nonneg (show 0 ≤ A by omega) hB; omega, h6⟩
  · obtain ⟨h5, h6⟩ := mulB (b := -b) (B := B) h1 h2 (by omega) (by omega)
    rw [Int.mul_neg] at h5 h6
    exact ⟨by omega, by have := Int.mul_nonneg (show 0 ≤ A by omega) hB; omega⟩
def momL (g : T_api_Load → Int) (p : Int) (ls : List T_api_Load) : Int := (ls.map fun l => g l * (l.At - p)).sum
def momR (g : T_api_Load → Int) (p : Int) (ls : List T_api_Load) : Int := (ls.map fun l => g l * (p - l.At)).sum
theorem carries_p (N : Nat) (f : T_api_Float) (h : FlOk f) (g : T_api_Load → Int) (hg : ∀ l ∈ f.Loads, 0 ≤ g l ∧ g l ≤ 100000) (ts : List Int) (hN : 40 < N) : p_bateriaref02_Carries N f ⟨f.Loads.map g, ts⟩ = some (f.Kilos * (f.Rear - f.Middle) + momR g f.Rear f.Loads, f.Kilos * (f.Middle - f.Front) + momL g f.Front f.Loads) := by
  have hn := h.n
  have := h.l2; have := h.f1; have := h.f2; have := h.f3; have := h.m1; have := h.m2; have := h.k1; have := h.k2
  have q1 := mulS (A := 100000) (B := 3000) h.k1 h.k2 (show -3000 ≤ f.Rear - f.Middle by omega) (show f.Rear - f.Middle ≤ 3000 by omega)
  have q2 := mulS (A := 100000) (B := 3000) h.k1 h.k2 (show -3000 ≤ f.Middle - f.Front by omega) (show f.Middle - f.Front ≤ 3000 by omega)
  unfold p_bateriaref02_Carries
  rw [letJ_eq, w64 (x := f.Rear - f.Middle) (by omega) (by omega), w64 (x := f.Middle - f.Front) (by omega) (by omega), w64 (x := f.Kilos * (f.Rear - f.Middle)) (by omega) (by omega), w64 (x := f.Kilos * (f.Middle - f.Front)) (by omega) (by omega)]
  generalize f.Kilos * (f.Rear - f.Middle) = c1 at q1
  generalize f.Kilos * (f.Middle - f.Front) = c2 at q2
  have hb : ∀ (j : Nat), j ≤ f.Loads.length → (0 ≤ momR g f.Rear (f.Loads.take j) ∧ momR g f.Rear (f.Loads.take j) ≤ 300000000 * (j : Int)) ∧ (0 ≤ momL g f.Front (f.Loads.take j) ∧ momL g f.Front (f.Loads.take j) ≤ 300000000 * (j : Int)) := by
    intro j
    induction j with
    | zero => intro _; simp [momR, momL]
    | succ j ih =>
      intro hj
      have ih := ih (by omega)
      have hlt : j < f.Loads.length := by omega
      have hl := List.getElem_mem hlt
      have hg' := hg _ hl
      have ho := h.all _ hl
      have a1 := ho.a1; have a2 := ho.a2
      have m1 := mulB (A := 100000) (B := 3000) hg'.1 hg'.2 (show 0 ≤ f.Rear - (f.Loads[j]).At by omega) (by omega)
      have m2 := mulB (A := 100000) (B := 3000) hg'.1 hg'.2 (show 0 ≤ (f.Loads[j]).At - f.Front by omega) (by omega)
      rw [List.take_succ_eq_append_getElem hlt]
      simp only [momR, momL, List.map_append, List.sum_append, List.map_cons, List.map_nil, List.sum_cons, List.sum_nil] at ih ⊢
      omega
  refine loop3_T (fun (x : Option (Int × Int)) => x = some (c1 + momR g f.Rear f.Loads, c2 + momL g f.Front f.Loads)) (fun a b i => ∃ j : Nat, i = (j : Int) ∧ j ≤ f.Loads.length ∧ a = c1 + momR g f.Rear (f.Loads.take j) ∧ b = c2 + momL g f.Front (f.Loads.take j)) (fun a b i => f.Loads.length - i.toNat) ?_ N c1 c2 0 ⟨0, rfl, by omega, by simp [momR], by simp [momL]⟩ (by simp; omega)
  rintro rec a b i ⟨j, rfl, hj, rfl, rfl⟩ ih
  dsimp only
  rw [List.length_map]
  by_cases hlt : j < f.Loads.length
  · have hx : f.Loads[j]? = some f.Loads[j] := List.getElem?_eq_getElem hlt
    obtain ⟨e1, e2, e3, e4⟩ := lt_dec hx
    have e5 : getI (f.Loads.map g) (j : Int) = some (g f.Loads[j]) := by rw [getI_nat, List.getElem?_map, hx]; rfl
    have hg' := hg _ e3
    have ho := h.all _ e3
    have a1 := ho.a1; have a2 := ho.a2
    have b1 := hb j hj
    have b2 := hb (j + 1) hlt
    have m1 := mulB (A := 100000) (B := 3000) hg'.1 hg'.2 (show 0 ≤ f.Rear - (f.Loads[j]).At by omega) (by omega)
    have m2 := mulB (A := 100000) (B := 3000) hg'.1 hg'.2 (show 0 ≤ (f.Loads[j]).At - f.Front by omega) (by omega)
    have s1 : momR g f.Rear (f.Loads.take (j + 1)) = momR g f.Rear (f.Loads.take j) + g f.Loads[j] * (f.Rear - (f.Loads[j]).At) := by
      rw [List.take_succ_eq_append_getElem hlt]
      simp only [momR, List.map_append, List.sum_append, List.map_cons, List.map_nil, List.sum_cons, List.sum_nil]
      omega
    have s2 : momL g f.Front (f.Loads.take (j + 1)) = momL g f.Front (f.Loads.take j) + g f.Loads[j] * ((f.Loads[j]).At - f.Front) := by
      rw [List.take_succ_eq_append_getElem hlt]
      simp only [momL, List.map_append, List.sum_append, List.map_cons, List.map_nil, List.sum_cons, List.sum_nil]
      omega
    rw [e1, cond_true, e2, Option.bind_some, e5, Option.bind_some, Option.bind_some, w64 (x := f.Rear - (f.Loads[j]).At) (by omega) (by omega), w64 (x := (f.Loads[j]).At - f.Front) (by omega) (by omega), w64 (x := g f.Loads[j] * (f.Rear - (f.Loads[j]).At)) (by omega) (by omega), w64 (x := g f.Loads[j] * ((f.Loads[j]).At - f.Front)) (by omega) (by omega), nat_add1 j (by omega), w64 (x := c1 + momR g f.Rear (f.Loads.take j) + g f.Loads[j] * (f.Rear - (f.Loads[j]).At)) (by omega) (by omega), w64 (x := c2 + momL g f.Front (f.Loads.take j) + g f.Loads[j] * ((f.Loads[j]).At - f.Front)) (by omega) (by omega)]
    exact ih _ _ _ ⟨j + 1, rfl, hlt, by rw [s1]; omega, by rw [s2]; omega⟩ (by omega)
  · have : j = f.Loads.length := by omega
    subst this
    rw [len_dec, cond_false, List.take_length]
theorem down_p (N : Nat) (n d : Int) (hd : 0 < d) (h1 : -1000000000000 ≤ n) (h2 : n ≤ 1000000000000) : p_bateriaref02_Down N n d = some (n / d) := by
  have e := Int.mul_tdiv_add_tmod n d
  have l1 := Int.tmod_lt_of_pos n hd
  have l2 := Int.lt_tmod_of_pos n hd
  have hq : -1000000000000 ≤ n.tdiv d ∧ n.tdiv d ≤ 1000000000000 := by
    have := Int.natAbs_tdiv_le_natAbs n d
    omega
  have hnz : d ≠ 0 := by omega
  unfold p_bateriaref02_Down
  simp only [nzI, hnz, if_false, Option.bind_some]
  rw [w64 (x := n.tdiv d) (by omega) (by omega)]
  by_cases hr : n.tmod d < 0
  · rw [show decide (n.tmod d < 0) = true from decide_eq_true hr, cond_true, w64 (x := n.tdiv d - 1) (by omega) (by omega)]
    have := (Int.ediv_emod_unique (a := n) (r := n.tmod d + d) (q := n.tdiv d - 1) hd).2 ⟨by rw [Int.mul_sub, Int.mul_one]; omega, by omega, by omega⟩
    rw [this.1]
  · rw [show decide (n.tmod d < 0) = false from decide_eq_false hr, cond_false]
    have := (Int.ediv_emod_unique (a := n) (r := n.tmod d) (q := n.tdiv d) hd).2 ⟨by omega, by omega, by omega⟩
    rw [this.1]
theorem up_p (N : Nat) (n d : Int) (hd : 0 < d) (h1 : -1000000000000 ≤ n) (h2 : n ≤ 1000000000000) : p_bateriaref02_Up N n d = some (-(-n / d)) := by
  have hq : -1000000000000 ≤ -n / d ∧ -n / d ≤ 1000000000000 := by
    have := Int.natAbs_ediv_le_natAbs (-n) d
    omega
  unfold p_bateriaref02_Up
  rw [w64 (x := 0 - n) (by omega) (by omega), show (0 - n) = -n by omega, down_p N (-n) d hd (by omega) (by omega), Option.bind_some, w64 (x := 0 - -n / d) (by omega) (by omega)]
  congr 1
  omega
def talL (ts : List Int) (h : Int) : Int := ts.foldl (fun n x => if x > n then x else n) h
theorem talL_le : ∀ (ts : List Int) (h c : Int), h ≤ c → (∀ t ∈ ts, t ≤ c) → h ≤ talL ts h ∧ talL ts h ≤ c
  | [], h, c, h1, _ => ⟨Int.le_refl _, h1⟩
  | t :: ts, h, c, h1, h2 => by
    have ht := h2 t (by simp)
    have hm : h ≤ (if t > h then t else h) ∧ (if t > h then t else h) ≤ c := by split <;> omega
    obtain ⟨a, b⟩ := talL_le ts (if t > h then t else h) c hm.2 fun x hx => h2 x (by simp [hx])
    exact ⟨Int.le_trans hm.1 a, b⟩
theorem talL_mono : ∀ (ls : List T_api_Load) (h k : Int), h ≤ k → (∀ l ∈ ls, l.Top.Lo ≤ l.Top.Hi) → talL (ls.map fun l => l.Top.Lo) h ≤ talL (ls.map fun l => l.Top.Hi) k
  | [], h, k, h1, _ => h1
  | l :: ls, h, k, h1, h2 => by
    have hl := h2 l (by simp)
    exact talL_mono ls (if l.Top.Lo > h then l.Top.Lo else h) (if l.Top.Hi > k then l.Top.Hi else k) (by split <;> split <;> omega) fun x hx => h2 x (by simp [hx])
theorem tall_p (N : Nat) (f : T_api_Float) (t : T_bateriaref02_Truth) (hn : t.Tops.length ≤ 30) (hN : 40 < N) : p_bateriaref02_Tall N f t = some (talL t.Tops f.High) := by
  unfold p_bateriaref02_Tall
  rw [letJ_eq]
  have h := for2 t.Tops (fun rec_9 (n_7 : Int) (i_8 : Int) => (bif (decide (i_8 < ((t.Tops.length : Nat) : Int))) then ((getI t.Tops i_8).bind fun x_13 => (rec_9 (if x_13 > n_7 then x_13 else n_7) (IntKind.i64.wrap (i_8 + 1)))) else some n_7)) (fun n x => if x > n then x else n) some (fun i a => True) (fun rec a _ => by simp only [len_dec, cond_false]) (fun rec a i x hx _ => by
    obtain ⟨e1, e2, e3, e4⟩ := lt_dec hx
    simp only [e1, cond_true, e2, Option.bind_some]
    rw [nat_add1 i (by omega)]
    exact ⟨rfl, trivial⟩) N 0 f.High trivial (by omega) (by omega)
  rw [List.drop_zero] at h
  exact h
end Go.Proofs.Ytjpoganponbdlaa
end
