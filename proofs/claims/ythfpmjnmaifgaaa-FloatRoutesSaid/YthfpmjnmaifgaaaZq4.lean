/- Part 5 of what the law needs: own work, put together. -/
import Derived.Test.YthfpmjnmaifgaaaZq3
set_option linter.unusedVariables false
set_option linter.unusedSimpArgs false
set_option maxRecDepth 10000
set_option maxHeartbeats 4000000
section
namespace Go.Proofs.Ythfpmjnmaifgaaa
open Go.RowKit
attribute [local simp] cleanL AV.clean KL_bk_Drum KL_Span cleanI cleanBo cleanSt cleanII re re1 back back1 AV.plain AV.plain1 A_bk_Drum C_bk_Drum A_Span C_Span ren ren1 fadeS fadeV List.idxOf? List.findIdx? List.findIdx?.go KB_bk_Drum KB_Span
structure T_Load where
 At : Int
 Kilos : T_Span
 Top : T_Span
 Kind : Int
 Watts : Int
 deriving Inhabited
def C_Load (x : T_Load) : List AV:=[i6 x.At,i6 x.Kilos.Lo,i6 x.Kilos.Hi,i6 x.Top.Lo,i6 x.Top.Hi,i6 x.Kind,i6 x.Watts]
attribute [local simp] C_Load
def A_Load (x : T_Load) : AV:=.agg (C_Load x)
attribute [local simp] A_Load
theorem KC_Load (x : T_Load) : cleanL (C_Load x) = true:=by simp
theorem KA_Load (x : T_Load) : (A_Load x).clean = true:=KC_Load x
theorem KL_Load (l : List T_Load) : cleanL (l.map A_Load) = true:=cleanM KA_Load l
attribute [local simp] KL_Load
theorem KB_Load (x : T_Load) (n : Nat) (σ : List Nat) : (C_Load x).mapM (re n σ) = some (C_Load x):=by simp
attribute [local simp] KB_Load
structure T_Float where
 Length : Int
 Width : Int
 Front : Int
 Rear : Int
 Turn : Int
 Kilos : Int
 Middle : Int
 High : Int
 Loads : (List T_Load)
 deriving Inhabited
def C_Float (x : T_Float) : List AV:=[i6 x.Length,i6 x.Width,i6 x.Front,i6 x.Rear,i6 x.Turn,i6 x.Kilos,i6 x.Middle,i6 x.High,.sl (x.Loads.map A_Load) none]
attribute [local simp] C_Float
def A_Float (x : T_Float) : AV:=.agg (C_Float x)
attribute [local simp] A_Float
theorem KC_Float (x : T_Float) : cleanL (C_Float x) = true:=by simp
theorem KA_Float (x : T_Float) : (A_Float x).clean = true:=KC_Float x
theorem KL_Float (l : List T_Float) : cleanL (l.map A_Float) = true:=cleanM KA_Float l
attribute [local simp] KL_Float
theorem KB_Float (x : T_Float) (n : Nat) (σ : List Nat) : (C_Float x).mapM (re n σ) = some (C_Float x):=by simp
attribute [local simp] KB_Float
def p_bk_FloatOf (N : Nat) (d_1 : T_bk_Drum) (loads_2 : Int) : Option (T_Float × T_bk_Drum):=((p_bk_Drum_Any N d_1 [20,1200]).bind fun r_3 => ((p_bk_Drum_Mid N r_3.2 2 r_3.1).bind fun r_4 => ((p_bk_Drum_Mid N r_4.2 1 400).bind fun r_5 => ((p_bk_Drum_Roll N r_5.2 1500).bind fun r_6 => ((p_bk_Drum_Any N r_6.2 [0,r_6.1]).bind fun r_7 => ((p_bk_Drum_Roll N r_7.2 5000).bind fun r_8 => ((p_bk_Drum_Any N r_8.2 [0,r_8.1]).bind fun r_9 => ((p_bk_Drum_Roll N r_9.2 500).bind fun r_10 => ((p_bk_Drum_Roll N r_10.2 r_4.1).bind fun r_11 => ((p_bk_Drum_Mid N r_11.2 (IntKind.i64.wrap (r_11.1 + 1)) r_4.1).bind fun r_12 => ((p_bk_Drum_Mid N r_12.2 0 r_4.1).bind fun r_13 => ((p_bk_Drum_Roll N r_13.2 (IntKind.i64.wrap (loads_2 + 1))).bind fun r_14 => (letJ (fun (b_15 : Int) (b_16 : List T_Load) => some ((⟨r_4.1,r_5.1,r_11.1,r_12.1,r_7.1,r_9.1,r_13.1,r_10.1,b_16⟩ : T_Float),(⟨b_15⟩ : T_bk_Drum))) (fun k_17 => (loop3 (fun rec_23 (i_20 : Int) (b_21 : Int) (b_22 : List T_Load) => (bif (decide (i_20 > 0)) then ((p_bk_Drum_Mid N (⟨b_21⟩ : T_bk_Drum) r_11.1 r_12.1).bind fun r_27 => ((p_bk_Drum_Any N r_27.2 [5,900]).bind fun r_28 => ((p_bk_Drum_Span N r_28.2 0 r_28.1).bind fun r_29 => ((p_bk_Drum_Any N r_29.2 [20,700]).bind fun r_30 => ((p_bk_Drum_Span N r_30.2 0 r_30.1).bind fun r_31 => ((p_bk_Drum_Mid N r_31.2 1 4).bind fun r_32 => (letJ (fun (b_33 : Int) (b_34 : Int) => ((pushI b_22 ([(⟨r_27.1,r_29.1,r_31.1,r_32.1,b_34⟩ : T_Load)] : List T_Load)).bind fun l_45 => (rec_23 (IntKind.i64.wrap (i_20 - 1)) b_33 l_45))) (fun k_35 => (letJ (fun (y_38 : Bool) => (bif y_38 then ((p_bk_Drum_Roll N r_32.2 3000).bind fun r_44 => (k_35 r_44.2.beat_ r_44.1)) else (k_35 r_32.2.beat_ 0))) (fun k_39 => (bif (r_32.1 == 2) then (k_39 true) else (k_39 (r_32.1 == 3))))))))))))) else (k_17 b_21 b_22))) N r_14.1 r_14.2.beat_ [])))))))))))))))
def v_bk_FloatOf (r : T_Float × T_bk_Drum) : AV:=(A_Float r.1)
attribute [local simp] v_bk_FloatOf
theorem b_bk_FloatOf (r : T_Float × T_bk_Drum) (n n2 m : Nat) : back n n2 m (v_bk_FloatOf r) = some (v_bk_FloatOf r):=by simp
theorem d_bk_FloatOf (N : Nat) (d_1 : T_bk_Drum) (loads_2 : Int) (r : T_Float × T_bk_Drum) (h : p_bk_FloatOf N d_1 loads_2 = some r) : Does Try.prog 5 [.ptr 0 0,i6 loads_2] [(C_bk_Drum d_1)] fun v c => v = v_bk_FloatOf r ∧ c = [(C_bk_Drum r.2)]:=by
 unfold p_bk_FloatOf at h
 refine Does.ofL comp5 _ _ rfl rfl ?_
 refine Ex.seq (rg 1 [0,1,4] (mkS 91 [(0,.ptr 0 0),(1,i6 loads_2),(4,.ptr 1 0)]) ⟨[(C_bk_Drum d_1),[i6 0,i6 0,i6 0,i6 0,i6 0,i6 0,i6 0,i6 0,.nils]],[]⟩ ?_)
 refine Ex.seq ?_
 obtain ⟨r_3,hr_3,h⟩:=bE h
 refine Ex.reg (rn 3 [0,1,4,8,9,10] (mkS 91 [(0,.ptr 0 0),(1,i6 loads_2),(4,.ptr 1 0),(8,.ptr 0 0),(9,.ptr 0 0),(10,.sl (([20,1200] : List Int).map (AV.int .i64)) (some 0))]) ⟨[(C_bk_Drum d_1),[i6 0,i6 0,i6 0,i6 0,i6 0,i6 0,i6 0,i6 0,.nils]],[(2,1)]⟩ ?_)
 refine ExO.callL [0] [.ptr 0 0,.sl (([20,1200] : List Int).map (AV.int .i64)) (some 0)] rfl rfl (by simp; try rfl) rfl (by simp) (d_bk_Drum_Any N d_1 [20,1200] r_3 hr_3) (b_bk_Drum_Any _ _ _ _) (by simp) ?_
 obtain ⟨r_4,hr_4,h⟩:=bE h
 refine ExO.callL [0] [.ptr 0 0,i6 2,i6 r_3.1] rfl rfl (by simp; try rfl) rfl (by simp) (d_bk_Drum_Mid N r_3.2 2 r_3.1 r_4 hr_4) (b_bk_Drum_Mid _ _ _ _) (by simp) ?_
 obtain ⟨r_5,hr_5,h⟩:=bE h
 refine rn 1 [0,1,4,12,13] (mkS 91 [(0,.ptr 0 0),(1,i6 loads_2),(4,.ptr 1 0),(12,i6 r_4.1),(13,.ptr 0 0)]) ⟨[(C_bk_Drum r_4.2),[i6 0,i6 0,i6 0,i6 0,i6 0,i6 0,i6 0,i6 0,.nils]],[(2,1)]⟩ ?_
 refine ExO.callL [0] [.ptr 0 0,i6 1,i6 400] rfl rfl (by simp; try rfl) rfl (by simp) (d_bk_Drum_Mid N r_4.2 1 400 r_5 hr_5) (b_bk_Drum_Mid _ _ _ _) (by simp) ?_
 obtain ⟨r_6,hr_6,h⟩:=bE h
 refine rn 2 [0,1,4,12,14,15,16] (mkS 91 [(0,.ptr 0 0),(1,i6 loads_2),(4,.ptr 1 0),(12,i6 r_4.1),(14,i6 r_5.1),(15,.ptr 0 0),(16,.ptr 0 0)]) ⟨[(C_bk_Drum r_5.2),[i6 0,i6 0,i6 0,i6 0,i6 0,i6 0,i6 0,i6 0,.nils]],[(2,1)]⟩ ?_
 refine ExO.callL [0] [.ptr 0 0,i6 1500] rfl rfl (by simp; try rfl) rfl (by simp) (d_bk_Drum_Roll N r_5.2 1500 r_6 hr_6) (b_bk_Drum_Roll _ _ _ _) (by simp) ?_
 obtain ⟨r_7,hr_7,h⟩:=bE h
 refine rn 1 [0,1,4,12,14,15,18] (mkS 91 [(0,.ptr 0 0),(1,i6 loads_2),(4,.ptr 1 0),(12,i6 r_4.1),(14,i6 r_5.1),(15,.ptr 0 0),(18,.sl (([0,r_6.1] : List Int).map (AV.int .i64)) (some 1))]) ⟨[(C_bk_Drum r_6.2),[i6 0,i6 0,i6 0,i6 0,i6 0,i6 0,i6 0,i6 0,.nils]],[(2,1),(2,1)]⟩ ?_
 refine ExO.callL [0] [.ptr 0 0,.sl (([0,r_6.1] : List Int).map (AV.int .i64)) (some 1)] rfl rfl (by simp; try rfl) rfl (by simp) (d_bk_Drum_Any N r_6.2 [0,r_6.1] r_7 hr_7) (b_bk_Drum_Any _ _ _ _) (by simp) ?_
 obtain ⟨r_8,hr_8,h⟩:=bE h
 refine rn 2 [0,1,4,12,14,19,20,21] (mkS 91 [(0,.ptr 0 0),(1,i6 loads_2),(4,.ptr 1 0),(12,i6 r_4.1),(14,i6 r_5.1),(19,i6 r_7.1),(20,.ptr 0 0),(21,.ptr 0 0)]) ⟨[(C_bk_Drum r_7.2),[i6 0,i6 0,i6 0,i6 0,i6 0,i6 0,i6 0,i6 0,.nils]],[(2,1),(2,1)]⟩ ?_
 refine ExO.callL [0] [.ptr 0 0,i6 5000] rfl rfl (by simp; try rfl) rfl (by simp) (d_bk_Drum_Roll N r_7.2 5000 r_8 hr_8) (b_bk_Drum_Roll _ _ _ _) (by simp) ?_
 obtain ⟨r_9,hr_9,h⟩:=bE h
 refine rn 1 [0,1,4,12,14,19,20,23] (mkS 91 [(0,.ptr 0 0),(1,i6 loads_2),(4,.ptr 1 0),(12,i6 r_4.1),(14,i6 r_5.1),(19,i6 r_7.1),(20,.ptr 0 0),(23,.sl (([0,r_8.1] : List Int).map (AV.int .i64)) (some 2))]) ⟨[(C_bk_Drum r_8.2),[i6 0,i6 0,i6 0,i6 0,i6 0,i6 0,i6 0,i6 0,.nils]],[(2,1),(2,1),(2,1)]⟩ ?_
 refine ExO.callL [0] [.ptr 0 0,.sl (([0,r_8.1] : List Int).map (AV.int .i64)) (some 2)] rfl rfl (by simp; try rfl) rfl (by simp) (d_bk_Drum_Any N r_8.2 [0,r_8.1] r_9 hr_9) (b_bk_Drum_Any _ _ _ _) (by simp) ?_
 obtain ⟨r_10,hr_10,h⟩:=bE h
 refine rn 1 [0,1,4,12,14,19,24,25] (mkS 91 [(0,.ptr 0 0),(1,i6 loads_2),(4,.ptr 1 0),(12,i6 r_4.1),(14,i6 r_5.1),(19,i6 r_7.1),(24,i6 r_9.1),(25,.ptr 0 0)]) ⟨[(C_bk_Drum r_9.2),[i6 0,i6 0,i6 0,i6 0,i6 0,i6 0,i6 0,i6 0,.nils]],[(2,1),(2,1),(2,1)]⟩ ?_
 refine ExO.callL [0] [.ptr 0 0,i6 500] rfl rfl (by simp; try rfl) rfl (by simp) (d_bk_Drum_Roll N r_9.2 500 r_10 hr_10) (b_bk_Drum_Roll _ _ _ _) (by simp) ?_
 refine rn 3 [0,1,4,5] (mkS 91 [(0,.ptr 0 0),(1,i6 loads_2),(4,.ptr 1 0),(5,.ptr 2 0)]) ⟨[(C_bk_Drum r_10.2),[i6 0,i6 0,i6 0,i6 0,i6 0,i6 0,i6 0,i6 0,.nils],[i6 r_4.1,i6 r_5.1,i6 0,i6 0,i6 r_7.1,i6 r_9.1,i6 0,i6 r_10.1,.nils]],[(2,1),(2,1),(2,1)]⟩ ?_
 refine ExO.nil ?_
 refine Ex.seq ?_
 obtain ⟨r_11,hr_11,h⟩:=bE h
 refine Ex.reg (rn 3 [0,1,4,5,28,30] (mkS 91 [(0,.ptr 0 0),(1,i6 loads_2),(4,.ptr 1 0),(5,.ptr 2 0),(28,.ptr 0 0),(30,i6 r_4.1)]) ⟨[(C_bk_Drum r_10.2),[i6 0,i6 0,i6 0,i6 0,i6 0,i6 0,i6 0,i6 0,.nils],[i6 r_4.1,i6 r_5.1,i6 0,i6 0,i6 r_7.1,i6 r_9.1,i6 0,i6 r_10.1,.nils]],[(2,1),(2,1),(2,1)]⟩ ?_)
 refine ExO.callL [0] [.ptr 0 0,i6 r_4.1] rfl rfl (by simp; try rfl) rfl (by simp) (d_bk_Drum_Roll N r_10.2 r_4.1 r_11 hr_11) (b_bk_Drum_Roll _ _ _ _) (by simp) ?_
 refine rn 2 [0,1,4,5] (mkS 91 [(0,.ptr 0 0),(1,i6 loads_2),(4,.ptr 1 0),(5,.ptr 2 0)]) ⟨[(C_bk_Drum r_11.2),[i6 0,i6 0,i6 0,i6 0,i6 0,i6 0,i6 0,i6 0,.nils],[i6 r_4.1,i6 r_5.1,i6 r_11.1,i6 0,i6 r_7.1,i6 r_9.1,i6 0,i6 r_10.1,.nils]],[(2,1),(2,1),(2,1)]⟩ ?_
 refine ExO.nil ?_
 refine Ex.seq ?_
 obtain ⟨r_12,hr_12,h⟩:=bE h
 refine Ex.reg (rn 6 [0,1,4,5,33,36,38] (mkS 91 [(0,.ptr 0 0),(1,i6 loads_2),(4,.ptr 1 0),(5,.ptr 2 0),(33,.ptr 0 0),(36,i6 (IntKind.i64.wrap (r_11.1 + 1))),(38,i6 r_4.1)]) ⟨[(C_bk_Drum r_11.2),[i6 0,i6 0,i6 0,i6 0,i6 0,i6 0,i6 0,i6 0,.nils],[i6 r_4.1,i6 r_5.1,i6 r_11.1,i6 0,i6 r_7.1,i6 r_9.1,i6 0,i6 r_10.1,.nils]],[(2,1),(2,1),(2,1)]⟩ ?_)
 refine ExO.callL [0] [.ptr 0 0,i6 (IntKind.i64.wrap (r_11.1 + 1)),i6 r_4.1] rfl rfl (by simp; try rfl) rfl (by simp) (d_bk_Drum_Mid N r_11.2 (IntKind.i64.wrap (r_11.1 + 1)) r_4.1 r_12 hr_12) (b_bk_Drum_Mid _ _ _ _) (by simp) ?_
 refine rn 2 [0,1,4,5] (mkS 91 [(0,.ptr 0 0),(1,i6 loads_2),(4,.ptr 1 0),(5,.ptr 2 0)]) ⟨[(C_bk_Drum r_12.2),[i6 0,i6 0,i6 0,i6 0,i6 0,i6 0,i6 0,i6 0,.nils],[i6 r_4.1,i6 r_5.1,i6 r_11.1,i6 r_12.1,i6 r_7.1,i6 r_9.1,i6 0,i6 r_10.1,.nils]],[(2,1),(2,1),(2,1)]⟩ ?_
 refine ExO.nil ?_
 refine Ex.seq ?_
 obtain ⟨r_13,hr_13,h⟩:=bE h
 refine Ex.reg (rn 3 [0,1,4,5,41,43] (mkS 91 [(0,.ptr 0 0),(1,i6 loads_2),(4,.ptr 1 0),(5,.ptr 2 0),(41,.ptr 0 0),(43,i6 r_4.1)]) ⟨[(C_bk_Drum r_12.2),[i6 0,i6 0,i6 0,i6 0,i6 0,i6 0,i6 0,i6 0,.nils],[i6 r_4.1,i6 r_5.1,i6 r_11.1,i6 r_12.1,i6 r_7.1,i6 r_9.1,i6 0,i6 r_10.1,.nils]],[(2,1),(2,1),(2,1)]⟩ ?_)
 refine ExO.callL [0] [.ptr 0 0,i6 0,i6 r_4.1] rfl rfl (by simp; try rfl) rfl (by simp) (d_bk_Drum_Mid N r_12.2 0 r_4.1 r_13 hr_13) (b_bk_Drum_Mid _ _ _ _) (by simp) ?_
 refine rn 2 [0,1,4,5] (mkS 91 [(0,.ptr 0 0),(1,i6 loads_2),(4,.ptr 1 0),(5,.ptr 2 0)]) ⟨[(C_bk_Drum r_13.2),[i6 0,i6 0,i6 0,i6 0,i6 0,i6 0,i6 0,i6 0,.nils],[i6 r_4.1,i6 r_5.1,i6 r_11.1,i6 r_12.1,i6 r_7.1,i6 r_9.1,i6 r_13.1,i6 r_10.1,.nils]],[(2,1),(2,1),(2,1)]⟩ ?_
 refine ExO.nil ?_
 refine Ex.seq (Ex.seq ?_)
 obtain ⟨r_14,hr_14,h⟩:=bE h
 refine Ex.reg (rn 3 [0,4,5,46,48] (mkS 91 [(0,.ptr 0 0),(4,.ptr 1 0),(5,.ptr 2 0),(46,.ptr 0 0),(48,i6 (IntKind.i64.wrap (loads_2 + 1)))]) ⟨[(C_bk_Drum r_13.2),[i6 0,i6 0,i6 0,i6 0,i6 0,i6 0,i6 0,i6 0,.nils],[i6 r_4.1,i6 r_5.1,i6 r_11.1,i6 r_12.1,i6 r_7.1,i6 r_9.1,i6 r_13.1,i6 r_10.1,.nils]],[(2,1),(2,1),(2,1)]⟩ ?_)
 refine ExO.callL [0] [.ptr 0 0,i6 (IntKind.i64.wrap (loads_2 + 1))] rfl rfl (by simp; try rfl) rfl (by simp) (d_bk_Drum_Roll N r_13.2 (IntKind.i64.wrap (loads_2 + 1)) r_14 hr_14) (b_bk_Drum_Roll _ _ _ _) (by simp) ?_
 refine rn 1 [0,4,5,6] (mkS 91 [(0,.ptr 0 0),(4,.ptr 1 0),(5,.ptr 2 0),(6,i6 r_14.1)]) ⟨[(C_bk_Drum r_14.2),[i6 0,i6 0,i6 0,i6 0,i6 0,i6 0,i6 0,i6 0,.nils],[i6 r_4.1,i6 r_5.1,i6 r_11.1,i6 r_12.1,i6 r_7.1,i6 r_9.1,i6 r_13.1,i6 r_10.1,.nils]],[(2,1),(2,1),(2,1)]⟩ ?_
 refine ExO.nil ?_
 obtain ⟨K_18,hK_19,h⟩:=letE h
 refine Ex.blockJ (fun a S => ∃ (b_15 : Int),∃ (b_16 : List T_Load),K_18 b_15 b_16 = some r ∧ a = mkS 91 [(4,.ptr 1 0),(5,.ptr 2 0)] ∧ S = ⟨[[.int .u64 b_15],[i6 0,i6 0,i6 0,i6 0,i6 0,i6 0,i6 0,i6 0,.nils],[i6 r_4.1,i6 r_5.1,i6 r_11.1,i6 r_12.1,i6 r_7.1,i6 r_9.1,i6 r_13.1,i6 r_10.1,.sl (b_16.map A_Load) (some 0)]],[(b_16.length,7)]⟩) ?_ ?_
 ·refine Ex.forget (nilB 2 8 7 [i6 r_4.1,i6 r_5.1,i6 r_11.1,i6 r_12.1,i6 r_7.1,i6 r_9.1,i6 r_13.1,i6 r_10.1,.nils] rfl rfl) ?_
  refine Ex.castA (a2:=mkS 91 [(0,.ptr 0 0),(4,.ptr 1 0),(5,.ptr 2 0),(6,i6 r_14.1)]) (S2:=⟨[(C_bk_Drum r_14.2),[i6 0,i6 0,i6 0,i6 0,i6 0,i6 0,i6 0,i6 0,.nils],[i6 r_4.1,i6 r_5.1,i6 r_11.1,i6 r_12.1,i6 r_7.1,i6 r_9.1,i6 r_13.1,i6 r_10.1,.sl (([] : List T_Load).map A_Load) (some 3)]],[(2,1),(2,1),(2,1),(0,7)]⟩) (by kernel_rfl) (by kernel_rfl) ?_
  obtain ⟨B_24,hB_25,h⟩:=loop3I h
  refine Ex.loopF (fun k a S => ∃ (i_20 : Int),∃ (b_21 : Int),∃ (b_22 : List T_Load),loop3 B_24 k i_20 b_21 b_22 = some r ∧ a = mkS 91 [(0,.ptr 0 0),(4,.ptr 1 0),(5,.ptr 2 0),(6,i6 i_20)] ∧ S = ⟨[[.int .u64 b_21],[i6 0,i6 0,i6 0,i6 0,i6 0,i6 0,i6 0,i6 0,.nils],[i6 r_4.1,i6 r_5.1,i6 r_11.1,i6 r_12.1,i6 r_7.1,i6 r_9.1,i6 r_13.1,i6 r_10.1,.sl (b_22.map A_Load) (some 0)]],[(b_22.length,7)]⟩) N ⟨_,_,forgetA (m:=91) 3 [3] [(0,.ptr 0 0),(4,.ptr 1 0),(5,.ptr 2 0),(6,i6 r_14.1)] [(C_bk_Drum r_14.2),[i6 0,i6 0,i6 0,i6 0,i6 0,i6 0,i6 0,i6 0,.nils],[i6 r_4.1,i6 r_5.1,i6 r_11.1,i6 r_12.1,i6 r_7.1,i6 r_9.1,i6 r_13.1,i6 r_10.1,.sl (([] : List T_Load).map A_Load) (some 0)]] [(0,7)] (by simp [setAll]) (by simp) ⟨rfl,rfl,rfl,rfl,trivial⟩ (by simp) rfl (by decide),r_14.1,r_14.2.beat_,[],h,rfl,rfl⟩ ?_
  rintro k a S ⟨i_20,b_21,b_22,h,rfl,rfl⟩
  cases k with
  | zero => exact (loop3Z h).elim
  | succ k =>
   replace h:=loop3S h hB_25
   refine Ex.seq (Ex.seq ?_)
   refine rg 2 [0,4,5,6,51] (mkS 91 [(0,.ptr 0 0),(4,.ptr 1 0),(5,.ptr 2 0),(6,i6 i_20),(51,.bool (decide (i_20 > 0)))]) ⟨[[.int .u64 b_21],[i6 0,i6 0,i6 0,i6 0,i6 0,i6 0,i6 0,i6 0,.nils],[i6 r_4.1,i6 r_5.1,i6 r_11.1,i6 r_12.1,i6 r_7.1,i6 r_9.1,i6 r_13.1,i6 r_10.1,.sl (b_22.map A_Load) (some 0)]],[(b_22.length,7)]⟩ ?_
   rcases condI h with ⟨hc_26,h⟩ | ⟨hc_26,h⟩
   ·refine Ex.condT _ rfl hc_26 ?_
    refine Ex.skip ?_
    refine Ex.seq ?_
    refine Ex.blockK ?_
    refine Ex.seq ?_
    obtain ⟨r_27,hr_27,h⟩:=bE h
    refine Ex.reg (rn 5 [0,4,5,6,54,56,58] (mkS 91 [(0,.ptr 0 0),(4,.ptr 1 0),(5,.ptr 2 0),(6,i6 i_20),(54,.ptr 0 0),(56,i6 r_11.1),(58,i6 r_12.1)]) ⟨[[.int .u64 b_21],[i6 0,i6 0,i6 0,i6 0,i6 0,i6 0,i6 0,i6 0,.nils],[i6 r_4.1,i6 r_5.1,i6 r_11.1,i6 r_12.1,i6 r_7.1,i6 r_9.1,i6 r_13.1,i6 r_10.1,.sl (b_22.map A_Load) (some 0)]],[(b_22.length,7)]⟩ ?_)
    refine ExO.callL [0] [.ptr 0 0,i6 r_11.1,i6 r_12.1] rfl rfl (by simp; try rfl) rfl (by simp) (d_bk_Drum_Mid N (⟨b_21⟩ : T_bk_Drum) r_11.1 r_12.1 r_27 hr_27) (b_bk_Drum_Mid _ _ _ _) (by simp) ?_
    obtain ⟨r_28,hr_28,h⟩:=bE h
    refine rn 3 [0,4,5,6,59,60,61,62] (mkS 91 [(0,.ptr 0 0),(4,.ptr 1 0),(5,.ptr 2 0),(6,i6 i_20),(59,i6 r_27.1),(60,.ptr 0 0),(61,.ptr 0 0),(62,.sl (([5,900] : List Int).map (AV.int .i64)) (some 1))]) ⟨[(C_bk_Drum r_27.2),[i6 0,i6 0,i6 0,i6 0,i6 0,i6 0,i6 0,i6 0,.nils],[i6 r_4.1,i6 r_5.1,i6 r_11.1,i6 r_12.1,i6 r_7.1,i6 r_9.1,i6 r_13.1,i6 r_10.1,.sl (b_22.map A_Load) (some 0)]],[(b_22.length,7),(2,1)]⟩ ?_
    refine ExO.callL [0] [.ptr 0 0,.sl (([5,900] : List Int).map (AV.int .i64)) (some 1)] rfl rfl (by simp; try rfl) rfl (by simp) (d_bk_Drum_Any N r_27.2 [5,900] r_28 hr_28) (b_bk_Drum_Any _ _ _ _) (by simp) ?_
    obtain ⟨r_29,hr_29,h⟩:=bE h
    refine ExO.callL [0] [.ptr 0 0,i6 0,i6 r_28.1] rfl rfl (by simp; try rfl) rfl (by simp) (d_bk_Drum_Span N r_28.2 0 r_28.1 r_29 hr_29) (b_bk_Drum_Span _ _ _ _) (by simp) ?_
    obtain ⟨r_30,hr_30,h⟩:=bE h
    refine rn 3 [0,4,5,6,59,64,65,66,67] (mkS 91 [(0,.ptr 0 0),(4,.ptr 1 0),(5,.ptr 2 0),(6,i6 i_20),(59,i6 r_27.1),(64,(A_Span r_29.1)),(65,.ptr 0 0),(66,.ptr 0 0),(67,.sl (([20,700] : List Int).map (AV.int .i64)) (some 2))]) ⟨[(C_bk_Drum r_29.2),[i6 0,i6 0,i6 0,i6 0,i6 0,i6 0,i6 0,i6 0,.nils],[i6 r_4.1,i6 r_5.1,i6 r_11.1,i6 r_12.1,i6 r_7.1,i6 r_9.1,i6 r_13.1,i6 r_10.1,.sl (b_22.map A_Load) (some 0)]],[(b_22.length,7),(2,1),(2,1)]⟩ ?_
    refine ExO.callL [0] [.ptr 0 0,.sl (([20,700] : List Int).map (AV.int .i64)) (some 2)] rfl rfl (by simp; try rfl) rfl (by simp) (d_bk_Drum_Any N r_29.2 [20,700] r_30 hr_30) (b_bk_Drum_Any _ _ _ _) (by simp) ?_
    obtain ⟨r_31,hr_31,h⟩:=bE h
    refine ExO.callL [0] [.ptr 0 0,i6 0,i6 r_30.1] rfl rfl (by simp; try rfl) rfl (by simp) (d_bk_Drum_Span N r_30.2 0 r_30.1 r_31 hr_31) (b_bk_Drum_Span _ _ _ _) (by simp) ?_
    obtain ⟨r_32,hr_32,h⟩:=bE h
    refine rn 1 [0,4,5,6,59,64,69,70] (mkS 91 [(0,.ptr 0 0),(4,.ptr 1 0),(5,.ptr 2 0),(6,i6 i_20),(59,i6 r_27.1),(64,(A_Span r_29.1)),(69,(A_Span r_31.1)),(70,.ptr 0 0)]) ⟨[(C_bk_Drum r_31.2),[i6 0,i6 0,i6 0,i6 0,i6 0,i6 0,i6 0,i6 0,.nils],[i6 r_4.1,i6 r_5.1,i6 r_11.1,i6 r_12.1,i6 r_7.1,i6 r_9.1,i6 r_13.1,i6 r_10.1,.sl (b_22.map A_Load) (some 0)]],[(b_22.length,7),(2,1),(2,1)]⟩ ?_
    refine ExO.callL [0] [.ptr 0 0,i6 1,i6 4] rfl rfl (by simp; try rfl) rfl (by simp) (d_bk_Drum_Mid N r_31.2 1 4 r_32 hr_32) (b_bk_Drum_Mid _ _ _ _) (by simp) ?_
    refine rn 3 [0,4,5,6,7] (mkS 91 [(0,.ptr 0 0),(4,.ptr 1 0),(5,.ptr 2 0),(6,i6 i_20),(7,.ptr 3 0)]) ⟨[(C_bk_Drum r_32.2),[i6 0,i6 0,i6 0,i6 0,i6 0,i6 0,i6 0,i6 0,.nils],[i6 r_4.1,i6 r_5.1,i6 r_11.1,i6 r_12.1,i6 r_7.1,i6 r_9.1,i6 r_13.1,i6 r_10.1,.sl (b_22.map A_Load) (some 0)],[i6 r_27.1,i6 r_29.1.Lo,i6 r_29.1.Hi,i6 r_31.1.Lo,i6 r_31.1.Hi,i6 r_32.1,i6 0]],[(b_22.length,7),(2,1),(2,1)]⟩ ?_
    refine ExO.nil ?_
    obtain ⟨K_36,hK_37,h⟩:=letE h
    refine Ex.seqJ (fun a S => ∃ (b_33 : Int),∃ (b_34 : Int),K_36 b_33 b_34 = some r ∧ a = mkS 91 [(0,.ptr 0 0),(4,.ptr 1 0),(5,.ptr 2 0),(6,i6 i_20),(7,.ptr 3 0)] ∧ S = ⟨[[.int .u64 b_33],[i6 0,i6 0,i6 0,i6 0,i6 0,i6 0,i6 0,i6 0,.nils],[i6 r_4.1,i6 r_5.1,i6 r_11.1,i6 r_12.1,i6 r_7.1,i6 r_9.1,i6 r_13.1,i6 r_10.1,.sl (b_22.map A_Load) (some 0)],[i6 r_27.1,i6 r_29.1.Lo,i6 r_29.1.Hi,i6 r_31.1.Lo,i6 r_31.1.Hi,i6 r_32.1,i6 b_34]],[(b_22.length,7)]⟩) ?_ ?_
    ·obtain ⟨K_40,hK_41,h⟩:=letE h
     refine Ex.seqJ (fun a S => ∃ (y_38 : Bool),K_40 y_38 = some r ∧ a = mkS 91 [(0,.ptr 0 0),(4,.ptr 1 0),(5,.ptr 2 0),(6,i6 i_20),(7,.ptr 3 0),(80,.bool y_38)] ∧ S = ⟨[(C_bk_Drum r_32.2),[i6 0,i6 0,i6 0,i6 0,i6 0,i6 0,i6 0,i6 0,.nils],[i6 r_4.1,i6 r_5.1,i6 r_11.1,i6 r_12.1,i6 r_7.1,i6 r_9.1,i6 r_13.1,i6 r_10.1,.sl (b_22.map A_Load) (some 0)],[i6 r_27.1,i6 r_29.1.Lo,i6 r_29.1.Hi,i6 r_31.1.Lo,i6 r_31.1.Hi,i6 r_32.1,i6 0]],[(b_22.length,7)]⟩) ?_ ?_
     ·rcases condI h with ⟨hc_42,h⟩ | ⟨hc_42,h⟩
      ·refine regH 8 [(3, .eq (.bool true))] [0, 4, 5, 6, 7, 80] [AV.bool (r_32.1 == 2) = AV.bool true] (mkS 91 [(0, .ptr 0 0), (4, .ptr 1 0), (5, .ptr 2 0), (6, i6 i_20), (7, .ptr 3 0), (80, .bool true)]) (⟨[(C_bk_Drum r_32.2), [i6 0, i6 0, i6 0, i6 0, i6 0, i6 0, i6 0, i6 0, .nils], [i6 r_4.1, i6 r_5.1, i6 r_11.1, i6 r_12.1, i6 r_7.1, i6 r_9.1, i6 r_13.1, i6 r_10.1, .sl (b_22.map A_Load) (some 0)], [i6 r_27.1, i6 r_29.1.Lo, i6 r_29.1.Hi, i6 r_31.1.Lo, i6 r_31.1.Hi, i6 r_32.1, i6 0]], [(b_22.length, 7), (2, 1), (2, 1)]⟩) (by kernel_rfl) ⟨congrArg AV.bool hc_42, trivial⟩ rfl ?_
       (try simp only [reduceCtorEq,AEx.ex.injEq,Nat.reduceEqDiff,if_true,if_false])
       exact ⟨_,_,forgetA (m:=91) 4 [0] [(0,.ptr 0 0),(4,.ptr 1 0),(5,.ptr 2 0),(6,i6 i_20),(7,.ptr 3 0),(80,.bool true)] [(C_bk_Drum r_32.2),[i6 0,i6 0,i6 0,i6 0,i6 0,i6 0,i6 0,i6 0,.nils],[i6 r_4.1,i6 r_5.1,i6 r_11.1,i6 r_12.1,i6 r_7.1,i6 r_9.1,i6 r_13.1,i6 r_10.1,.sl (b_22.map A_Load) (some 0)],[i6 r_27.1,i6 r_29.1.Lo,i6 r_29.1.Hi,i6 r_31.1.Lo,i6 r_31.1.Hi,i6 r_32.1,i6 0]] [(b_22.length,7)] (by simp [setAll]) (by simp) ⟨rfl,rfl,rfl,rfl,rfl,rfl,trivial⟩ (by simp) rfl (by decide),true,h,rfl,rfl⟩
      ·refine regH 8 [(3, .eq (.bool false))] [0, 4, 5, 6, 7, 80] [AV.bool (r_32.1 == 2) = AV.bool false] (mkS 91 [(0, .ptr 0 0), (4, .ptr 1 0), (5, .ptr 2 0), (6, i6 i_20), (7, .ptr 3 0), (80, .bool (r_32.1 == 3))]) (⟨[(C_bk_Drum r_32.2), [i6 0, i6 0, i6 0, i6 0, i6 0, i6 0, i6 0, i6 0, .nils], [i6 r_4.1, i6 r_5.1, i6 r_11.1, i6 r_12.1, i6 r_7.1, i6 r_9.1, i6 r_13.1, i6 r_10.1, .sl (b_22.map A_Load) (some 0)], [i6 r_27.1, i6 r_29.1.Lo, i6 r_29.1.Hi, i6 r_31.1.Lo, i6 r_31.1.Hi, i6 r_32.1, i6 0]], [(b_22.length, 7), (2, 1), (2, 1)]⟩) (by kernel_rfl) ⟨congrArg AV.bool hc_42, trivial⟩ rfl ?_
       (try simp only [reduceCtorEq,AEx.ex.injEq,Nat.reduceEqDiff,if_true,if_false])
       exact ⟨_,_,forgetA (m:=91) 4 [0] [(0,.ptr 0 0),(4,.ptr 1 0),(5,.ptr 2 0),(6,i6 i_20),(7,.ptr 3 0),(80,.bool (r_32.1 == 3))] [(C_bk_Drum r_32.2),[i6 0,i6 0,i6 0,i6 0,i6 0,i6 0,i6 0,i6 0,.nils],[i6 r_4.1,i6 r_5.1,i6 r_11.1,i6 r_12.1,i6 r_7.1,i6 r_9.1,i6 r_13.1,i6 r_10.1,.sl (b_22.map A_Load) (some 0)],[i6 r_27.1,i6 r_29.1.Lo,i6 r_29.1.Hi,i6 r_31.1.Lo,i6 r_31.1.Hi,i6 r_32.1,i6 0]] [(b_22.length,7)] (by simp [setAll]) (by simp) ⟨rfl,rfl,rfl,rfl,rfl,rfl,trivial⟩ (by simp) rfl (by decide),(r_32.1 == 3),h,rfl,rfl⟩
     ·rintro a S ⟨y_38,h,rfl,rfl⟩
      subst hK_41
      rcases condI h with ⟨hc_43,h⟩ | ⟨hc_43,h⟩
      ·refine Ex.condT _ rfl hc_43 ?_
       obtain ⟨r_44,hr_44,h⟩:=bE h
       refine Ex.reg (rn 1 [0,4,5,6,7,81] (mkS 91 [(0,.ptr 0 0),(4,.ptr 1 0),(5,.ptr 2 0),(6,i6 i_20),(7,.ptr 3 0),(81,.ptr 0 0)]) ⟨[(C_bk_Drum r_32.2),[i6 0,i6 0,i6 0,i6 0,i6 0,i6 0,i6 0,i6 0,.nils],[i6 r_4.1,i6 r_5.1,i6 r_11.1,i6 r_12.1,i6 r_7.1,i6 r_9.1,i6 r_13.1,i6 r_10.1,.sl (b_22.map A_Load) (some 0)],[i6 r_27.1,i6 r_29.1.Lo,i6 r_29.1.Hi,i6 r_31.1.Lo,i6 r_31.1.Hi,i6 r_32.1,i6 0]],[(b_22.length,7)]⟩ ?_)
       refine ExO.callL [0] [.ptr 0 0,i6 3000] rfl rfl (by simp; try rfl) rfl (by simp) (d_bk_Drum_Roll N r_32.2 3000 r_44 hr_44) (b_bk_Drum_Roll _ _ _ _) (by simp) ?_
       refine rn 2 [0,4,5,6,7] (mkS 91 [(0,.ptr 0 0),(4,.ptr 1 0),(5,.ptr 2 0),(6,i6 i_20),(7,.ptr 3 0)]) ⟨[(C_bk_Drum r_44.2),[i6 0,i6 0,i6 0,i6 0,i6 0,i6 0,i6 0,i6 0,.nils],[i6 r_4.1,i6 r_5.1,i6 r_11.1,i6 r_12.1,i6 r_7.1,i6 r_9.1,i6 r_13.1,i6 r_10.1,.sl (b_22.map A_Load) (some 0)],[i6 r_27.1,i6 r_29.1.Lo,i6 r_29.1.Hi,i6 r_31.1.Lo,i6 r_31.1.Hi,i6 r_32.1,i6 r_44.1]],[(b_22.length,7)]⟩ ?_
       refine ExO.nil ?_
       (try simp only [reduceCtorEq,AEx.ex.injEq,Nat.reduceEqDiff,if_true,if_false])
       exact ⟨_,_,Forgets.refl _ _ _,r_44.2.beat_,r_44.1,h,rfl,rfl⟩
      ·refine Ex.condF _ rfl hc_43 ?_
       refine Ex.skip ?_
       (try simp only [reduceCtorEq,AEx.ex.injEq,Nat.reduceEqDiff,if_true,if_false])
       exact ⟨_,_,forgetK [0,4,5,6,7],r_32.2.beat_,0,h,rfl,rfl⟩
    ·rintro a S ⟨b_33,b_34,h,rfl,rfl⟩
     subst hK_37
     obtain ⟨l_45,hl_45,h⟩:=bE h
     refine regH 7 [(4,.app (l_45.map A_Load) l_45.length)] [0,4,5,6] [LApp b_22.length (b_22.map A_Load) (([(⟨r_27.1,r_29.1,r_31.1,r_32.1,b_34⟩ : T_Load)] : List T_Load).map A_Load) 7 (l_45.map A_Load) l_45.length] (mkS 91 [(0,.ptr 0 0),(4,.ptr 1 0),(5,.ptr 2 0),(6,i6 i_20)]) (⟨[[.int .u64 b_33],[i6 0,i6 0,i6 0,i6 0,i6 0,i6 0,i6 0,i6 0,.nils],[i6 r_4.1,i6 r_5.1,i6 r_11.1,i6 r_12.1,i6 r_7.1,i6 r_9.1,i6 r_13.1,i6 r_10.1,.sl (l_45.map A_Load) (some 0)],[i6 r_27.1,i6 r_29.1.Lo,i6 r_29.1.Hi,i6 r_31.1.Lo,i6 r_31.1.Hi,i6 r_32.1,i6 b_34]],[(l_45.length,7),(1,7)]⟩) (by kernel_rfl) ⟨LApp.of hl_45 (fun _ => rfl),trivial⟩ rfl ?_
     refine rg 3 [0,4,5,6] (mkS 91 [(0,.ptr 0 0),(4,.ptr 1 0),(5,.ptr 2 0),(6,i6 (IntKind.i64.wrap (i_20 - 1)))]) ⟨[[.int .u64 b_33],[i6 0,i6 0,i6 0,i6 0,i6 0,i6 0,i6 0,i6 0,.nils],[i6 r_4.1,i6 r_5.1,i6 r_11.1,i6 r_12.1,i6 r_7.1,i6 r_9.1,i6 r_13.1,i6 r_10.1,.sl (l_45.map A_Load) (some 0)],[i6 r_27.1,i6 r_29.1.Lo,i6 r_29.1.Hi,i6 r_31.1.Lo,i6 r_31.1.Hi,i6 r_32.1,i6 b_34]],[(l_45.length,7),(1,7)]⟩ ?_
     dsimp only
     exact ⟨_,_,forgetA (m:=91) 3 [0] [(0,.ptr 0 0),(4,.ptr 1 0),(5,.ptr 2 0),(6,i6 (IntKind.i64.wrap (i_20 - 1)))] [[.int .u64 b_33],[i6 0,i6 0,i6 0,i6 0,i6 0,i6 0,i6 0,i6 0,.nils],[i6 r_4.1,i6 r_5.1,i6 r_11.1,i6 r_12.1,i6 r_7.1,i6 r_9.1,i6 r_13.1,i6 r_10.1,.sl (l_45.map A_Load) (some 0)]] [(l_45.length,7)] (by simp [setAll]) (by simp) ⟨rfl,rfl,rfl,rfl,trivial⟩ (by simp) rfl (by decide),k,Nat.lt_succ_self k,(IntKind.i64.wrap (i_20 - 1)),b_33,l_45,h,rfl,rfl⟩
   ·refine Ex.condF _ rfl hc_26 ?_
    refine Ex.exit ?_
    (try simp only [reduceCtorEq,AEx.ex.injEq,Nat.reduceEqDiff,if_true,if_false])
    exact ⟨_,_,forgetK [4,5],b_21,b_22,h,rfl,rfl⟩
 ·rintro a S ⟨b_15,b_16,h,rfl,rfl⟩
  subst hK_19
  refine Ex.seq (rg 2 [4] (mkS 91 [(4,.ptr 1 0)]) ⟨[[.int .u64 b_15],[i6 r_4.1,i6 r_5.1,i6 r_11.1,i6 r_12.1,i6 r_7.1,i6 r_9.1,i6 r_13.1,i6 r_10.1,.sl (b_16.map A_Load) (some 0)],[i6 r_4.1,i6 r_5.1,i6 r_11.1,i6 r_12.1,i6 r_7.1,i6 r_9.1,i6 r_13.1,i6 r_10.1,.sl (b_16.map A_Load) (some 0)]],[(b_16.length,7)]⟩ ?_)
  refine Ex.ret ?_
  obtain rfl:=sJ h
  exact rt (.agg [i6 r_4.1,i6 r_5.1,i6 r_11.1,i6 r_12.1,i6 r_7.1,i6 r_9.1,i6 r_13.1,i6 r_10.1,.sl (b_16.map A_Load) (some 0)])
def p_br2_within (N : Nat) (n_1 : Int) (low_2 : Int) (high_3 : Int) : Option (Bool):=(bif (decide (n_1 ≥ low_2)) then some (decide (n_1 ≤ high_3)) else some false)
def v_br2_within (r : Bool) : AV:=.bool r
attribute [local simp] v_br2_within
theorem a_br2_within (n_1 : Int) (low_2 : Int) (high_3 : Int) : [i6 n_1,i6 low_2,i6 high_3].mapM (ren []) = some [i6 n_1,i6 low_2,i6 high_3]:=by simp
theorem b_br2_within (r : Bool) (n n2 m : Nat) : back n n2 m (v_br2_within r) = some (v_br2_within r):=by simp
theorem d_br2_within (N : Nat) (n_1 : Int) (low_2 : Int) (high_3 : Int) (r : Bool) (h : p_br2_within N n_1 low_2 high_3 = some r) : Does Try.prog 55 [i6 n_1,i6 low_2,i6 high_3] [] fun v c => v = v_br2_within r ∧ c = []:=by
 unfold p_br2_within at h
 refine Does.ofL comp55 _ _ rfl rfl ?_
 refine Ex.seq (rg 1 [0,1,2] (mkS 15 [(0,i6 n_1),(1,i6 low_2),(2,i6 high_3)]) ⟨[],[]⟩ ?_)
 refine Ex.seq ?_
 rcases condI h with ⟨hc_4,h⟩ | ⟨hc_4,h⟩
 ·refine regH 9 [(3, .eq (.bool true))] [6] [AV.bool (decide (n_1 ≥ low_2)) = AV.bool true] (mkS 15 [(6, .bool (decide (n_1 ≤ high_3)))]) (⟨[], []⟩) (by kernel_rfl) ⟨congrArg AV.bool hc_4, trivial⟩ rfl ?_
  refine Ex.ret ?_
  obtain rfl:=sJ h
  exact rt (.bool (decide (n_1 ≤ high_3)))
 ·refine regH 9 [(3, .eq (.bool false))] [6] [AV.bool (decide (n_1 ≥ low_2)) = AV.bool false] (mkS 15 [(6, .bool false)]) (⟨[], []⟩) (by kernel_rfl) ⟨congrArg AV.bool hc_4, trivial⟩ rfl ?_
  refine Ex.ret ?_
  obtain rfl:=sJ h
  exact rt (.bool false)
def p_br2_checkSpan (N : Nat) (x_1 : T_Span) (limit_2 : Int) : Option (Int):=(letJ (fun (y_3 : Bool) => (bif y_3 then some 2 else (bif (decide (x_1.Lo > x_1.Hi)) then some 9 else some 0))) (fun k_4 => ((p_br2_within N x_1.Lo 0 limit_2).bind fun r_7 => (bif (!r_7) then (k_4 true) else ((p_br2_within N x_1.Hi 0 limit_2).bind fun r_9 => (k_4 (!r_9)))))))
def v_br2_checkSpan (r : Int) : AV:=i6 r
attribute [local simp] v_br2_checkSpan
theorem a_br2_checkSpan (x_1 : T_Span) (limit_2 : Int) : [(A_Span x_1),i6 limit_2].mapM (ren []) = some [(A_Span x_1),i6 limit_2]:=by simp
theorem b_br2_checkSpan (r : Int) (n n2 m : Nat) : back n n2 m (v_br2_checkSpan r) = some (v_br2_checkSpan r):=by simp
theorem d_br2_checkSpan (N : Nat) (x_1 : T_Span) (limit_2 : Int) (r : Int) (h : p_br2_checkSpan N x_1 limit_2 = some r) : Does Try.prog 67 [(A_Span x_1),i6 limit_2] [] fun v c => v = v_br2_checkSpan r ∧ c = []:=by
 unfold p_br2_checkSpan at h
 refine Does.ofL comp67 _ _ rfl rfl ?_
 refine Ex.seq (rg 2 [1,2] (mkS 22 [(1,i6 limit_2),(2,.ptr 0 0)]) ⟨[(C_Span x_1)],[]⟩ ?_)
 refine Ex.seq ?_
 obtain ⟨K_5,hK_6,h⟩:=letE h
 refine Ex.seqJ (fun a S => ∃ (y_3 : Bool),K_5 y_3 = some r ∧ a = mkS 22 [(2,.ptr 0 0),(16,.bool y_3)] ∧ S = ⟨[(C_Span x_1)],[]⟩) ?_ ?_
 ·obtain ⟨r_7,hr_7,h⟩:=bE h
  refine Ex.reg (rn 3 [1,2,6,7] (mkS 22 [(1,i6 limit_2),(2,.ptr 0 0),(6,i6 x_1.Lo),(7,i6 limit_2)]) ⟨[(C_Span x_1)],[]⟩ ?_)
  refine ExO.callL [] [i6 x_1.Lo,i6 0,i6 limit_2] rfl rfl (a_br2_within x_1.Lo 0 limit_2) rfl rfl (d_br2_within N x_1.Lo 0 limit_2 r_7 hr_7) (b_br2_within _ _ _ _) rfl ?_
  rcases condI h with ⟨hc_8,h⟩ | ⟨hc_8,h⟩
  ·refine runH 8 [(1, .eq (.bool true))] [2, 16] [AV.bool (!r_7) = AV.bool true] (mkS 22 [(2, .ptr 0 0), (16, .bool true)]) (⟨[(C_Span x_1)], []⟩) (by kernel_rfl) ⟨congrArg AV.bool hc_8, trivial⟩ ?_
   refine ExO.nil ?_
   (try simp only [reduceCtorEq,AEx.ex.injEq,Nat.reduceEqDiff,if_true,if_false])
   exact ⟨_,_,Forgets.refl _ _ _,true,h,rfl,rfl⟩
  ·obtain ⟨r_9,hr_9,h⟩:=bE h
   refine runH 5 [(1,.eq (.bool false))] [2,10,12,13] [AV.bool (!r_7) = AV.bool false] (mkS 22 [(2,.ptr 0 0),(10,.bool false),(12,i6 x_1.Hi),(13,i6 limit_2)]) (⟨[(C_Span x_1)],[]⟩) (by kernel_rfl) ⟨congrArg AV.bool hc_8,trivial⟩ ?_
   refine ExO.callL [] [i6 x_1.Hi,i6 0,i6 limit_2] rfl rfl (a_br2_within x_1.Hi 0 limit_2) rfl rfl (d_br2_within N x_1.Hi 0 limit_2 r_9 hr_9) (b_br2_within _ _ _ _) rfl ?_
   refine rn 2 [2,16] (mkS 22 [(2,.ptr 0 0),(16,.bool (!r_9))]) ⟨[(C_Span x_1)],[]⟩ ?_
   refine ExO.nil ?_
   (try simp only [reduceCtorEq,AEx.ex.injEq,Nat.reduceEqDiff,if_true,if_false])
   exact ⟨_,_,Forgets.refl _ _ _,(!r_9),h,rfl,rfl⟩
 ·rintro a S ⟨y_3,h,rfl,rfl⟩
  subst hK_6
  rcases condI h with ⟨hc_10,h⟩ | ⟨hc_10,h⟩
  ·refine Ex.condT _ rfl hc_10 ?_
   refine Ex.seq (rg 1 [4] (mkS 22 [(4,i6 2)]) ⟨[(C_Span x_1)],[]⟩ ?_)
   refine Ex.ret ?_
   obtain rfl:=sJ h
   exact rt (i6 2)
  ·refine Ex.condF _ rfl hc_10 ?_
   refine Ex.skip ?_
   refine Ex.seq (Ex.seq ?_)
   refine rg 5 [21] (mkS 22 [(21,.bool (decide (x_1.Lo > x_1.Hi)))]) ⟨[(C_Span x_1)],[]⟩ ?_
   rcases condI h with ⟨hc_11,h⟩ | ⟨hc_11,h⟩
   ·refine Ex.condT _ rfl hc_11 ?_
    refine Ex.seq (rg 1 [4] (mkS 22 [(4,i6 9)]) ⟨[(C_Span x_1)],[]⟩ ?_)
    refine Ex.ret ?_
    obtain rfl:=sJ h
    exact rt (i6 9)
   ·refine Ex.condF _ rfl hc_11 ?_
    refine Ex.skip ?_
    refine Ex.seq (rg 1 [4] (mkS 22 [(4,i6 0)]) ⟨[(C_Span x_1)],[]⟩ ?_)
    refine Ex.ret ?_
    obtain rfl:=sJ h
    exact rt (i6 0)
def p_br2_checkLoad (N : Nat) (f_1 : T_Float) (l_2 : T_Load) : Option (Int):=((p_br2_within N l_2.At f_1.Front f_1.Rear).bind fun r_3 => (bif (!r_3) then some 2 else ((p_br2_checkSpan N l_2.Kilos 100000).bind fun r_5 => (bif (r_5 != 0) then some r_5 else ((p_br2_checkSpan N l_2.Top 2000).bind fun r_7 => (bif (r_7 != 0) then some r_7 else ((p_br2_within N l_2.Kind 1 4).bind fun r_9 => (bif (!r_9) then some 3 else ((p_br2_within N l_2.Watts 0 1000000).bind fun r_11 => (bif (!r_11) then some 2 else (letJ (fun (y_13 : Bool) => (bif y_13 then some 1 else some 0)) (fun k_14 => (bif (decide (l_2.Watts > 0)) then (bif (l_2.Kind != 2) then (k_14 (l_2.Kind != 3)) else (k_14 false)) else (k_14 false))))))))))))))
def v_br2_checkLoad (r : Int) : AV:=i6 r
attribute [local simp] v_br2_checkLoad
theorem a_br2_checkLoad (f_1 : T_Float) (l_2 : T_Load) : [(A_Float f_1),(A_Load l_2)].mapM (ren []) = some [(A_Float f_1),(A_Load l_2)]:=by simp
theorem b_br2_checkLoad (r : Int) (n n2 m : Nat) : back n n2 m (v_br2_checkLoad r) = some (v_br2_checkLoad r):=by simp
theorem d_br2_checkLoad (N : Nat) (f_1 : T_Float) (l_2 : T_Load) (r : Int) (h : p_br2_checkLoad N f_1 l_2 = some r) : Does Try.prog 56 [(A_Float f_1),(A_Load l_2)] [] fun v c => v = v_br2_checkLoad r ∧ c = []:=by
 unfold p_br2_checkLoad at h
 refine Does.ofL comp56 _ _ rfl rfl ?_
 refine Ex.seq (rg 3 [2,3] (mkS 48 [(2,.ptr 0 0),(3,.ptr 1 0)]) ⟨[(C_Float f_1),(C_Load l_2)],[]⟩ ?_)
 refine Ex.seq (Ex.seq ?_)
 obtain ⟨r_3,hr_3,h⟩:=bE h
 refine Ex.reg (rn 6 [3,8,10,12] (mkS 48 [(3,.ptr 1 0),(8,i6 l_2.At),(10,i6 f_1.Front),(12,i6 f_1.Rear)]) ⟨[(C_Float f_1),(C_Load l_2)],[]⟩ ?_)
 refine ExO.callL [] [i6 l_2.At,i6 f_1.Front,i6 f_1.Rear] rfl rfl (a_br2_within l_2.At f_1.Front f_1.Rear) rfl rfl (d_br2_within N l_2.At f_1.Front f_1.Rear r_3 hr_3) (b_br2_within _ _ _ _) rfl ?_
 refine rn 1 [3,14] (mkS 48 [(3,.ptr 1 0),(14,.bool (!r_3))]) ⟨[(C_Float f_1),(C_Load l_2)],[]⟩ ?_
 refine ExO.nil ?_
 rcases condI h with ⟨hc_4,h⟩ | ⟨hc_4,h⟩
 ·refine Ex.condT _ rfl hc_4 ?_
  refine Ex.seq (rg 1 [4] (mkS 48 [(4,i6 2)]) ⟨[(C_Float f_1),(C_Load l_2)],[]⟩ ?_)
  refine Ex.ret ?_
  obtain rfl:=sJ h
  exact rt (i6 2)
 ·refine Ex.condF _ rfl hc_4 ?_
  refine Ex.skip ?_
  refine Ex.seq (Ex.seq ?_)
  obtain ⟨r_5,hr_5,h⟩:=bE h
  refine Ex.reg (rn 2 [3,16] (mkS 48 [(3,.ptr 1 0),(16,(A_Span l_2.Kilos))]) ⟨[(C_Float f_1),(C_Load l_2)],[]⟩ ?_)
  refine ExO.callL [] [(A_Span l_2.Kilos),i6 100000] rfl rfl (a_br2_checkSpan l_2.Kilos 100000) rfl rfl (d_br2_checkSpan N l_2.Kilos 100000 r_5 hr_5) (b_br2_checkSpan _ _ _ _) rfl ?_
  refine rn 1 [3,5] (mkS 48 [(3,.ptr 1 0),(5,i6 r_5)]) ⟨[(C_Float f_1),(C_Load l_2)],[]⟩ ?_
  refine ExO.nil ?_
  refine Ex.seq (rg 2 [3,5,19] (mkS 48 [(3,.ptr 1 0),(5,i6 r_5),(19,.bool (r_5 != 0))]) ⟨[(C_Float f_1),(C_Load l_2)],[]⟩ ?_)
  rcases condI h with ⟨hc_6,h⟩ | ⟨hc_6,h⟩
  ·refine Ex.condT _ rfl hc_6 ?_
   refine Ex.seq (rg 2 [4] (mkS 48 [(4,i6 r_5)]) ⟨[(C_Float f_1),(C_Load l_2)],[]⟩ ?_)
   refine Ex.ret ?_
   obtain rfl:=sJ h
   exact rt (i6 r_5)
  ·refine Ex.condF _ rfl hc_6 ?_
   refine Ex.skip ?_
   refine Ex.seq (Ex.seq ?_)
   obtain ⟨r_7,hr_7,h⟩:=bE h
   refine Ex.reg (rn 2 [3,22] (mkS 48 [(3,.ptr 1 0),(22,(A_Span l_2.Top))]) ⟨[(C_Float f_1),(C_Load l_2)],[]⟩ ?_)
   refine ExO.callL [] [(A_Span l_2.Top),i6 2000] rfl rfl (a_br2_checkSpan l_2.Top 2000) rfl rfl (d_br2_checkSpan N l_2.Top 2000 r_7 hr_7) (b_br2_checkSpan _ _ _ _) rfl ?_
   refine rn 1 [3,6] (mkS 48 [(3,.ptr 1 0),(6,i6 r_7)]) ⟨[(C_Float f_1),(C_Load l_2)],[]⟩ ?_
   refine ExO.nil ?_
   refine Ex.seq (rg 2 [3,6,25] (mkS 48 [(3,.ptr 1 0),(6,i6 r_7),(25,.bool (r_7 != 0))]) ⟨[(C_Float f_1),(C_Load l_2)],[]⟩ ?_)
   rcases condI h with ⟨hc_8,h⟩ | ⟨hc_8,h⟩
   ·refine Ex.condT _ rfl hc_8 ?_
    refine Ex.seq (rg 2 [4] (mkS 48 [(4,i6 r_7)]) ⟨[(C_Float f_1),(C_Load l_2)],[]⟩ ?_)
    refine Ex.ret ?_
    obtain rfl:=sJ h
    exact rt (i6 r_7)
   ·refine Ex.condF _ rfl hc_8 ?_
    refine Ex.skip ?_
    refine Ex.seq (Ex.seq ?_)
    obtain ⟨r_9,hr_9,h⟩:=bE h
    refine Ex.reg (rn 2 [3,28] (mkS 48 [(3,.ptr 1 0),(28,i6 l_2.Kind)]) ⟨[(C_Float f_1),(C_Load l_2)],[]⟩ ?_)
    refine ExO.callL [] [i6 l_2.Kind,i6 1,i6 4] rfl rfl (a_br2_within l_2.Kind 1 4) rfl rfl (d_br2_within N l_2.Kind 1 4 r_9 hr_9) (b_br2_within _ _ _ _) rfl ?_
    refine rn 1 [3,30] (mkS 48 [(3,.ptr 1 0),(30,.bool (!r_9))]) ⟨[(C_Float f_1),(C_Load l_2)],[]⟩ ?_
    refine ExO.nil ?_
    rcases condI h with ⟨hc_10,h⟩ | ⟨hc_10,h⟩
    ·refine Ex.condT _ rfl hc_10 ?_
     refine Ex.seq (rg 1 [4] (mkS 48 [(4,i6 3)]) ⟨[(C_Float f_1),(C_Load l_2)],[]⟩ ?_)
     refine Ex.ret ?_
     obtain rfl:=sJ h
     exact rt (i6 3)
    ·refine Ex.condF _ rfl hc_10 ?_
     refine Ex.skip ?_
     refine Ex.seq (Ex.seq ?_)
     obtain ⟨r_11,hr_11,h⟩:=bE h
     refine Ex.reg (rn 2 [3,32] (mkS 48 [(3,.ptr 1 0),(32,i6 l_2.Watts)]) ⟨[(C_Float f_1),(C_Load l_2)],[]⟩ ?_)
     refine ExO.callL [] [i6 l_2.Watts,i6 0,i6 1000000] rfl rfl (a_br2_within l_2.Watts 0 1000000) rfl rfl (d_br2_within N l_2.Watts 0 1000000 r_11 hr_11) (b_br2_within _ _ _ _) rfl ?_
     refine rn 1 [3,34] (mkS 48 [(3,.ptr 1 0),(34,.bool (!r_11))]) ⟨[(C_Float f_1),(C_Load l_2)],[]⟩ ?_
     refine ExO.nil ?_
     rcases condI h with ⟨hc_12,h⟩ | ⟨hc_12,h⟩
     ·refine Ex.condT _ rfl hc_12 ?_
      refine Ex.seq (rg 1 [4] (mkS 48 [(4,i6 2)]) ⟨[(C_Float f_1),(C_Load l_2)],[]⟩ ?_)
      refine Ex.ret ?_
      obtain rfl:=sJ h
      exact rt (i6 2)
     ·refine Ex.condF _ rfl hc_12 ?_
      refine Ex.skip ?_
      refine Ex.seq ?_
      obtain ⟨K_15,hK_16,h⟩:=letE h
      refine Ex.seqJ (fun a S => ∃ (y_13 : Bool),K_15 y_13 = some r ∧ a = mkS 48 [(47,.bool y_13)] ∧ S = ⟨[],[]⟩) ?_ ?_
      ·rcases condI h with ⟨hc_17,h⟩ | ⟨hc_17,h⟩
       ·rcases condI h with ⟨hc_18,h⟩ | ⟨hc_18,h⟩
        ·refine regH 13 [(3, .eq (.bool true)), (8, .eq (.bool true))] [47] [AV.bool (decide (l_2.Watts > 0)) = AV.bool true, AV.bool (l_2.Kind != 2) = AV.bool true] (mkS 48 [(47, .bool (l_2.Kind != 3))]) (⟨[(C_Float f_1), (C_Load l_2)], []⟩) (by kernel_rfl) ⟨congrArg AV.bool hc_17, congrArg AV.bool hc_18, trivial⟩ rfl ?_
         (try simp only [reduceCtorEq,AEx.ex.injEq,Nat.reduceEqDiff,if_true,if_false])
         exact ⟨_,_,forgetA (m:=48) 0 [] [(47,.bool (l_2.Kind != 3))] [] [] (by simp [setAll]) (by simp) ⟨rfl,trivial⟩ (by simp) rfl (by decide),(l_2.Kind != 3),h,rfl,rfl⟩
        ·refine regH 13 [(3, .eq (.bool true)), (8, .eq (.bool false))] [47] [AV.bool (decide (l_2.Watts > 0)) = AV.bool true, AV.bool (l_2.Kind != 2) = AV.bool false] (mkS 48 [(47, .bool false)]) (⟨[(C_Float f_1), (C_Load l_2)], []⟩) (by kernel_rfl) ⟨congrArg AV.bool hc_17, congrArg AV.bool hc_18, trivial⟩ rfl ?_
         (try simp only [reduceCtorEq,AEx.ex.injEq,Nat.reduceEqDiff,if_true,if_false])
         exact ⟨_,_,forgetA (m:=48) 0 [] [(47,.bool false)] [] [] (by simp [setAll]) (by simp) ⟨rfl,trivial⟩ (by simp) rfl (by decide),false,h,rfl,rfl⟩
       ·refine regH 13 [(3, .eq (.bool false))] [47] [AV.bool (decide (l_2.Watts > 0)) = AV.bool false] (mkS 48 [(47, .bool false)]) (⟨[(C_Float f_1), (C_Load l_2)], []⟩) (by kernel_rfl) ⟨congrArg AV.bool hc_17, trivial⟩ rfl ?_
        (try simp only [reduceCtorEq,AEx.ex.injEq,Nat.reduceEqDiff,if_true,if_false])
        exact ⟨_,_,forgetA (m:=48) 0 [] [(47,.bool false)] [] [] (by simp [setAll]) (by simp) ⟨rfl,trivial⟩ (by simp) rfl (by decide),false,h,rfl,rfl⟩
      ·rintro a S ⟨y_13,h,rfl,rfl⟩
       subst hK_16
       rcases condI h with ⟨hc_19,h⟩ | ⟨hc_19,h⟩
       ·refine Ex.condT _ rfl hc_19 ?_
        refine Ex.seq (rg 1 [4] (mkS 48 [(4,i6 1)]) ⟨[],[]⟩ ?_)
        refine Ex.ret ?_
        obtain rfl:=sJ h
        exact rt (i6 1)
       ·refine Ex.condF _ rfl hc_19 ?_
        refine Ex.skip ?_
        refine Ex.seq (rg 1 [4] (mkS 48 [(4,i6 0)]) ⟨[],[]⟩ ?_)
        refine Ex.ret ?_
        obtain rfl:=sJ h
        exact rt (i6 0)
def p_br2_Check (N : Nat) (f_1 : T_Float) : Option (Int):=(letJ (fun (y_2 : Bool) => (bif y_2 then some 2 else (bif (decide (f_1.Front ≥ f_1.Rear)) then some 9 else (letJ (fun (y_15 : Bool) => (bif y_15 then some 2 else (bif (decide (((f_1.Loads.length : Nat) : Int) > 20)) then some 5 else (letJ (fun (_ : Unit) => some 0) (fun k_28 => (loop1 (fun rec_32 (i_31 : Int) => (bif (decide (i_31 < ((f_1.Loads.length : Nat) : Int))) then ((getI f_1.Loads i_31).bind fun x_36 => ((p_br2_checkLoad N f_1 x_36).bind fun r_37 => (bif (r_37 != 0) then some r_37 else (rec_32 (IntKind.i64.wrap (i_31 + 1)))))) else (k_28 ()))) N 0)))))) (fun k_16 => ((p_br2_within N f_1.Turn 0 20000).bind fun r_19 => (bif (!r_19) then (k_16 true) else ((p_br2_within N f_1.Kilos 0 100000).bind fun r_21 => (bif (!r_21) then (k_16 true) else ((p_br2_within N f_1.Middle 0 f_1.Length).bind fun r_23 => (bif (!r_23) then (k_16 true) else ((p_br2_within N f_1.High 0 2000).bind fun r_25 => (k_16 (!r_25)))))))))))))) (fun k_3 => ((p_br2_within N f_1.Length 1 3000).bind fun r_6 => (bif (!r_6) then (k_3 true) else ((p_br2_within N f_1.Width 1 1000).bind fun r_8 => (bif (!r_8) then (k_3 true) else ((p_br2_within N f_1.Front 0 f_1.Length).bind fun r_10 => (bif (!r_10) then (k_3 true) else ((p_br2_within N f_1.Rear 0 f_1.Length).bind fun r_12 => (k_3 (!r_12)))))))))))
def v_br2_Check (r : Int) : AV:=i6 r
attribute [local simp] v_br2_Check
theorem a_br2_Check (f_1 : T_Float) : [(A_Float f_1)].mapM (ren []) = some [(A_Float f_1)]:=by simp
theorem b_br2_Check (r : Int) (n n2 m : Nat) : back n n2 m (v_br2_Check r) = some (v_br2_Check r):=by simp
theorem d_br2_Check (N : Nat) (f_1 : T_Float) (r : Int) (h : p_br2_Check N f_1 = some r) : Does Try.prog 30 [(A_Float f_1)] [] fun v c => v = v_br2_Check r ∧ c = []:=by
 unfold p_br2_Check at h
 refine Does.ofL comp30 _ _ rfl rfl ?_
 refine Ex.seq (rg 2 [1] (mkS 81 [(1,.ptr 0 0)]) ⟨[(C_Float f_1)],[]⟩ ?_)
 refine Ex.seq ?_
 obtain ⟨K_4,hK_5,h⟩:=letE h
 refine Ex.seqJ (fun a S => ∃ (y_2 : Bool),K_4 y_2 = some r ∧ a = mkS 81 [(1,.ptr 0 0),(30,.bool y_2)] ∧ S = ⟨[(C_Float f_1)],[]⟩) ?_ ?_
 ·obtain ⟨r_6,hr_6,h⟩:=bE h
  refine Ex.reg (rn 2 [1,6] (mkS 81 [(1,.ptr 0 0),(6,i6 f_1.Length)]) ⟨[(C_Float f_1)],[]⟩ ?_)
  refine ExO.callL [] [i6 f_1.Length,i6 1,i6 3000] rfl rfl (a_br2_within f_1.Length 1 3000) rfl rfl (d_br2_within N f_1.Length 1 3000 r_6 hr_6) (b_br2_within _ _ _ _) rfl ?_
  rcases condI h with ⟨hc_7,h⟩ | ⟨hc_7,h⟩
  ·refine runH 23 [(1, .eq (.bool true))] [1, 30] [AV.bool (!r_6) = AV.bool true] (mkS 81 [(1, .ptr 0 0), (30, .bool true)]) (⟨[(C_Float f_1)], []⟩) (by kernel_rfl) ⟨congrArg AV.bool hc_7, trivial⟩ ?_
   refine ExO.nil ?_
   (try simp only [reduceCtorEq,AEx.ex.injEq,Nat.reduceEqDiff,if_true,if_false])
   exact ⟨_,_,Forgets.refl _ _ _,true,h,rfl,rfl⟩
  ·obtain ⟨r_8,hr_8,h⟩:=bE h
   refine runH 4 [(1,.eq (.bool false))] [1,9,11] [AV.bool (!r_6) = AV.bool false] (mkS 81 [(1,.ptr 0 0),(9,.bool false),(11,i6 f_1.Width)]) (⟨[(C_Float f_1)],[]⟩) (by kernel_rfl) ⟨congrArg AV.bool hc_7,trivial⟩ ?_
   refine ExO.callL [] [i6 f_1.Width,i6 1,i6 1000] rfl rfl (a_br2_within f_1.Width 1 1000) rfl rfl (d_br2_within N f_1.Width 1 1000 r_8 hr_8) (b_br2_within _ _ _ _) rfl ?_
   rcases condI h with ⟨hc_9,h⟩ | ⟨hc_9,h⟩
   ·refine runH 18 [(2, .eq (.bool true))] [1, 30] [AV.bool (!r_8) = AV.bool true] (mkS 81 [(1, .ptr 0 0), (30, .bool true)]) (⟨[(C_Float f_1)], []⟩) (by kernel_rfl) ⟨congrArg AV.bool hc_9, trivial⟩ ?_
    refine ExO.nil ?_
    (try simp only [reduceCtorEq,AEx.ex.injEq,Nat.reduceEqDiff,if_true,if_false])
    exact ⟨_,_,Forgets.refl _ _ _,true,h,rfl,rfl⟩
   ·obtain ⟨r_10,hr_10,h⟩:=bE h
    refine runH 7 [(2,.eq (.bool false))] [1,15,17,19] [AV.bool (!r_8) = AV.bool false] (mkS 81 [(1,.ptr 0 0),(15,.bool false),(17,i6 f_1.Front),(19,i6 f_1.Length)]) (⟨[(C_Float f_1)],[]⟩) (by kernel_rfl) ⟨congrArg AV.bool hc_9,trivial⟩ ?_
    refine ExO.callL [] [i6 f_1.Front,i6 0,i6 f_1.Length] rfl rfl (a_br2_within f_1.Front 0 f_1.Length) rfl rfl (d_br2_within N f_1.Front 0 f_1.Length r_10 hr_10) (b_br2_within _ _ _ _) rfl ?_
    rcases condI h with ⟨hc_11,h⟩ | ⟨hc_11,h⟩
    ·refine runH 10 [(2, .eq (.bool true))] [1, 30] [AV.bool (!r_10) = AV.bool true] (mkS 81 [(1, .ptr 0 0), (30, .bool true)]) (⟨[(C_Float f_1)], []⟩) (by kernel_rfl) ⟨congrArg AV.bool hc_11, trivial⟩ ?_
     refine ExO.nil ?_
     (try simp only [reduceCtorEq,AEx.ex.injEq,Nat.reduceEqDiff,if_true,if_false])
     exact ⟨_,_,Forgets.refl _ _ _,true,h,rfl,rfl⟩
    ·obtain ⟨r_12,hr_12,h⟩:=bE h
     refine runH 7 [(2,.eq (.bool false))] [1,23,25,27] [AV.bool (!r_10) = AV.bool false] (mkS 81 [(1,.ptr 0 0),(23,.bool false),(25,i6 f_1.Rear),(27,i6 f_1.Length)]) (⟨[(C_Float f_1)],[]⟩) (by kernel_rfl) ⟨congrArg AV.bool hc_11,trivial⟩ ?_
     refine ExO.callL [] [i6 f_1.Rear,i6 0,i6 f_1.Length] rfl rfl (a_br2_within f_1.Rear 0 f_1.Length) rfl rfl (d_br2_within N f_1.Rear 0 f_1.Length r_12 hr_12) (b_br2_within _ _ _ _) rfl ?_
     refine rn 2 [1,30] (mkS 81 [(1,.ptr 0 0),(30,.bool (!r_12))]) ⟨[(C_Float f_1)],[]⟩ ?_
     refine ExO.nil ?_
     (try simp only [reduceCtorEq,AEx.ex.injEq,Nat.reduceEqDiff,if_true,if_false])
     exact ⟨_,_,Forgets.refl _ _ _,(!r_12),h,rfl,rfl⟩
 ·rintro a S ⟨y_2,h,rfl,rfl⟩
  subst hK_5
  rcases condI h with ⟨hc_13,h⟩ | ⟨hc_13,h⟩
  ·refine Ex.condT _ rfl hc_13 ?_
   refine Ex.seq (rg 1 [2] (mkS 81 [(2,i6 2)]) ⟨[(C_Float f_1)],[]⟩ ?_)
   refine Ex.ret ?_
   obtain rfl:=sJ h
   exact rt (i6 2)
  ·refine Ex.condF _ rfl hc_13 ?_
   refine Ex.skip ?_
   refine Ex.seq (Ex.seq ?_)
   refine rg 5 [1,35] (mkS 81 [(1,.ptr 0 0),(35,.bool (decide (f_1.Front ≥ f_1.Rear)))]) ⟨[(C_Float f_1)],[]⟩ ?_
   rcases condI h with ⟨hc_14,h⟩ | ⟨hc_14,h⟩
   ·refine Ex.condT _ rfl hc_14 ?_
    refine Ex.seq (rg 1 [2] (mkS 81 [(2,i6 9)]) ⟨[(C_Float f_1)],[]⟩ ?_)
    refine Ex.ret ?_
    obtain rfl:=sJ h
    exact rt (i6 9)
   ·refine Ex.condF _ rfl hc_14 ?_
    refine Ex.skip ?_
    refine Ex.seq ?_
    obtain ⟨K_17,hK_18,h⟩:=letE h
    refine Ex.seqJ (fun a S => ∃ (y_15 : Bool),K_17 y_15 = some r ∧ a = mkS 81 [(1,.ptr 0 0),(59,.bool y_15)] ∧ S = ⟨[(C_Float f_1)],[]⟩) ?_ ?_
    ·obtain ⟨r_19,hr_19,h⟩:=bE h
     refine Ex.reg (rn 2 [1,37] (mkS 81 [(1,.ptr 0 0),(37,i6 f_1.Turn)]) ⟨[(C_Float f_1)],[]⟩ ?_)
     refine ExO.callL [] [i6 f_1.Turn,i6 0,i6 20000] rfl rfl (a_br2_within f_1.Turn 0 20000) rfl rfl (d_br2_within N f_1.Turn 0 20000 r_19 hr_19) (b_br2_within _ _ _ _) rfl ?_
     rcases condI h with ⟨hc_20,h⟩ | ⟨hc_20,h⟩
     ·refine runH 21 [(1, .eq (.bool true))] [1, 59] [AV.bool (!r_19) = AV.bool true] (mkS 81 [(1, .ptr 0 0), (59, .bool true)]) (⟨[(C_Float f_1)], []⟩) (by kernel_rfl) ⟨congrArg AV.bool hc_20, trivial⟩ ?_
      refine ExO.nil ?_
      (try simp only [reduceCtorEq,AEx.ex.injEq,Nat.reduceEqDiff,if_true,if_false])
      exact ⟨_,_,Forgets.refl _ _ _,true,h,rfl,rfl⟩
     ·obtain ⟨r_21,hr_21,h⟩:=bE h
      refine runH 4 [(1,.eq (.bool false))] [1,40,42] [AV.bool (!r_19) = AV.bool false] (mkS 81 [(1,.ptr 0 0),(40,.bool false),(42,i6 f_1.Kilos)]) (⟨[(C_Float f_1)],[]⟩) (by kernel_rfl) ⟨congrArg AV.bool hc_20,trivial⟩ ?_
      refine ExO.callL [] [i6 f_1.Kilos,i6 0,i6 100000] rfl rfl (a_br2_within f_1.Kilos 0 100000) rfl rfl (d_br2_within N f_1.Kilos 0 100000 r_21 hr_21) (b_br2_within _ _ _ _) rfl ?_
      rcases condI h with ⟨hc_22,h⟩ | ⟨hc_22,h⟩
      ·refine runH 16 [(2, .eq (.bool true))] [1, 59] [AV.bool (!r_21) = AV.bool true] (mkS 81 [(1, .ptr 0 0), (59, .bool true)]) (⟨[(C_Float f_1)], []⟩) (by kernel_rfl) ⟨congrArg AV.bool hc_22, trivial⟩ ?_
       refine ExO.nil ?_
       (try simp only [reduceCtorEq,AEx.ex.injEq,Nat.reduceEqDiff,if_true,if_false])
       exact ⟨_,_,Forgets.refl _ _ _,true,h,rfl,rfl⟩
      ·obtain ⟨r_23,hr_23,h⟩:=bE h
       refine runH 7 [(2,.eq (.bool false))] [1,46,48,50] [AV.bool (!r_21) = AV.bool false] (mkS 81 [(1,.ptr 0 0),(46,.bool false),(48,i6 f_1.Middle),(50,i6 f_1.Length)]) (⟨[(C_Float f_1)],[]⟩) (by kernel_rfl) ⟨congrArg AV.bool hc_22,trivial⟩ ?_
       refine ExO.callL [] [i6 f_1.Middle,i6 0,i6 f_1.Length] rfl rfl (a_br2_within f_1.Middle 0 f_1.Length) rfl rfl (d_br2_within N f_1.Middle 0 f_1.Length r_23 hr_23) (b_br2_within _ _ _ _) rfl ?_
       rcases condI h with ⟨hc_24,h⟩ | ⟨hc_24,h⟩
       ·refine runH 8 [(2, .eq (.bool true))] [1, 59] [AV.bool (!r_23) = AV.bool true] (mkS 81 [(1, .ptr 0 0), (59, .bool true)]) (⟨[(C_Float f_1)], []⟩) (by kernel_rfl) ⟨congrArg AV.bool hc_24, trivial⟩ ?_
        refine ExO.nil ?_
        (try simp only [reduceCtorEq,AEx.ex.injEq,Nat.reduceEqDiff,if_true,if_false])
        exact ⟨_,_,Forgets.refl _ _ _,true,h,rfl,rfl⟩
       ·obtain ⟨r_25,hr_25,h⟩:=bE h
        refine runH 5 [(2,.eq (.bool false))] [1,54,56] [AV.bool (!r_23) = AV.bool false] (mkS 81 [(1,.ptr 0 0),(54,.bool false),(56,i6 f_1.High)]) (⟨[(C_Float f_1)],[]⟩) (by kernel_rfl) ⟨congrArg AV.bool hc_24,trivial⟩ ?_
        refine ExO.callL [] [i6 f_1.High,i6 0,i6 2000] rfl rfl (a_br2_within f_1.High 0 2000) rfl rfl (d_br2_within N f_1.High 0 2000 r_25 hr_25) (b_br2_within _ _ _ _) rfl ?_
        refine rn 2 [1,59] (mkS 81 [(1,.ptr 0 0),(59,.bool (!r_25))]) ⟨[(C_Float f_1)],[]⟩ ?_
        refine ExO.nil ?_
        (try simp only [reduceCtorEq,AEx.ex.injEq,Nat.reduceEqDiff,if_true,if_false])
        exact ⟨_,_,Forgets.refl _ _ _,(!r_25),h,rfl,rfl⟩
    ·rintro a S ⟨y_15,h,rfl,rfl⟩
     subst hK_18
     rcases condI h with ⟨hc_26,h⟩ | ⟨hc_26,h⟩
     ·refine Ex.condT _ rfl hc_26 ?_
      refine Ex.seq (rg 1 [2] (mkS 81 [(2,i6 2)]) ⟨[(C_Float f_1)],[]⟩ ?_)
      refine Ex.ret ?_
      obtain rfl:=sJ h
      exact rt (i6 2)
     ·refine Ex.condF _ rfl hc_26 ?_
      refine Ex.skip ?_
      refine Ex.seq (Ex.seq ?_)
      refine regH 4 [(2,.eq (i6 ((f_1.Loads.length : Nat) : Int)))] [1,63] [AV.int .i64 (((f_1.Loads.map A_Load).length : Nat) : Int) = AV.int .i64 ((f_1.Loads.length : Nat) : Int)] (mkS 81 [(1,.ptr 0 0),(63,.bool (decide (((f_1.Loads.length : Nat) : Int) > 20)))]) (⟨[(C_Float f_1)],[]⟩) (by kernel_rfl) ⟨lenM _ _,trivial⟩ rfl ?_
      rcases condI h with ⟨hc_27,h⟩ | ⟨hc_27,h⟩
      ·refine Ex.condT _ rfl hc_27 ?_
       refine Ex.seq (rg 1 [2] (mkS 81 [(2,i6 5)]) ⟨[(C_Float f_1)],[]⟩ ?_)
       refine Ex.ret ?_
       obtain rfl:=sJ h
       exact rt (i6 5)
      ·refine Ex.condF _ rfl hc_27 ?_
       refine Ex.skip ?_
       refine Ex.seq (Ex.seq ?_)
       refine rg 1 [1,3] (mkS 81 [(1,.ptr 0 0),(3,i6 0)]) ⟨[(C_Float f_1)],[]⟩ ?_
       obtain ⟨K_29,hK_30,h⟩:=letE h
       refine Ex.blockJ (fun a S => K_29 () = some r ∧ a = mkS 81 [] ∧ S = ⟨[],[]⟩) ?_ ?_
       ·obtain ⟨B_33,hB_34,h⟩:=loop1I h
        refine Ex.loopF (fun k a S => ∃ (i_31 : Int),loop1 B_33 k i_31 = some r ∧ a = mkS 81 [(1,.ptr 0 0),(3,i6 i_31)] ∧ S = ⟨[(C_Float f_1)],[]⟩) N ⟨_,_,Forgets.refl _ _ _,0,h,rfl,rfl⟩ ?_
        rintro k a S ⟨i_31,h,rfl,rfl⟩
        cases k with
        | zero => exact (loop1Z h).elim
        | succ k =>
         replace h:=loop1S h hB_34
         refine Ex.seq (Ex.seq ?_)
         refine regH 5 [(3,.eq (i6 ((f_1.Loads.length : Nat) : Int)))] [1,3,68] [AV.int .i64 (((f_1.Loads.map A_Load).length : Nat) : Int) = AV.int .i64 ((f_1.Loads.length : Nat) : Int)] (mkS 81 [(1,.ptr 0 0),(3,i6 i_31),(68,.bool (decide (i_31 < ((f_1.Loads.length : Nat) : Int))))]) (⟨[(C_Float f_1)],[]⟩) (by kernel_rfl) ⟨lenM _ _,trivial⟩ rfl ?_
         rcases condI h with ⟨hc_35,h⟩ | ⟨hc_35,h⟩
         ·refine Ex.condT _ rfl hc_35 ?_
          refine Ex.skip ?_
          refine Ex.seq ?_
          refine Ex.blockK ?_
          refine Ex.seq ?_
          obtain ⟨x_36,hx_36,h⟩:=bE h
          refine Ex.drawE (a1:=mkS 81 [(1,.ptr 0 0),(3,i6 i_31),(68,.bool (decide (i_31 < ((f_1.Loads.length : Nat) : Int)))),(71,(A_Float f_1)),(72,.ptr 0 8),(73,.sl (f_1.Loads.map A_Load) none),(74,i6 i_31),(75,.rop (C_Load x_36)),(76,(A_Load x_36))]) (noClr_ok _) [] [] [] ?_ ?_
          ·refine drS [0] 6 [(4, .rop (C_Load x_36))] [LGet (f_1.Loads.map A_Load) i_31 7 (C_Load x_36)] (mkS 81 [(1, .ptr 0 0), (3, i6 i_31), (68, .bool (decide (i_31 < ((f_1.Loads.length : Nat) : Int)))), (71, (A_Float f_1)), (72, .ptr 0 8), (73, .sl (f_1.Loads.map A_Load) none), (74, i6 i_31), (75, .rop (C_Load x_36)), (76, (A_Load x_36))]) (by simp) (by kernel_rfl) ⟨LGet.of hx_36 rfl, trivial⟩ (by kernel_rfl) ?_
           exact DrO.nil rfl
          ·dsimp only [List.getLastD_cons,List.getLastD_nil]
           obtain ⟨r_37,hr_37,h⟩:=bE h
           refine ExO.callL [] [(A_Float f_1),(A_Load x_36)] rfl rfl (a_br2_checkLoad f_1 x_36) rfl rfl (d_br2_checkLoad N f_1 x_36 r_37 hr_37) (b_br2_checkLoad _ _ _ _) rfl ?_
           refine rn 1 [1,3,4] (mkS 81 [(1,.ptr 0 0),(3,i6 i_31),(4,i6 r_37)]) ⟨[(C_Float f_1)],[]⟩ ?_
           refine ExO.nil ?_
           refine Ex.seq (rg 2 [1,3,4,79] (mkS 81 [(1,.ptr 0 0),(3,i6 i_31),(4,i6 r_37),(79,.bool (r_37 != 0))]) ⟨[(C_Float f_1)],[]⟩ ?_)
           rcases condI h with ⟨hc_38,h⟩ | ⟨hc_38,h⟩
           ·refine Ex.condT _ rfl hc_38 ?_
            refine Ex.seq (rg 2 [2] (mkS 81 [(2,i6 r_37)]) ⟨[(C_Float f_1)],[]⟩ ?_)
            refine Ex.ret ?_
            obtain rfl:=sJ h
            exact rt (i6 r_37)
           ·refine Ex.condF _ rfl hc_38 ?_
            refine Ex.skip ?_
            refine rg 3 [1,3] (mkS 81 [(1,.ptr 0 0),(3,i6 (IntKind.i64.wrap (i_31 + 1)))]) ⟨[(C_Float f_1)],[]⟩ ?_
            dsimp only
            exact ⟨_,_,Forgets.refl _ _ _,k,Nat.lt_succ_self k,(IntKind.i64.wrap (i_31 + 1)),h,rfl,rfl⟩
         ·refine Ex.condF _ rfl hc_35 ?_
          refine Ex.exit ?_
          (try simp only [reduceCtorEq,AEx.ex.injEq,Nat.reduceEqDiff,if_true,if_false])
          exact ⟨_,_,forgetA (m:=81) 0 [] [] [] [] (by simp [setAll]) (by simp) trivial (by simp) rfl (by decide),h,rfl,rfl⟩
       ·rintro a S ⟨h,rfl,rfl⟩
        subst hK_30
        refine Ex.seq (rg 1 [2] (mkS 81 [(2,i6 0)]) ⟨[],[]⟩ ?_)
        refine Ex.ret ?_
        obtain rfl:=sJ h
        exact rt (i6 0)
structure T_br2_Truth where
 Kilos : (List Int)
 Tops : (List Int)
 deriving Inhabited
def C_br2_Truth (x : T_br2_Truth) : List AV:=[.sl (x.Kilos.map (AV.int .i64)) none,.sl (x.Tops.map (AV.int .i64)) none]
attribute [local simp] C_br2_Truth
def A_br2_Truth (x : T_br2_Truth) : AV:=.agg (C_br2_Truth x)
attribute [local simp] A_br2_Truth
theorem KC_br2_Truth (x : T_br2_Truth) : cleanL (C_br2_Truth x) = true:=by simp
theorem KA_br2_Truth (x : T_br2_Truth) : (A_br2_Truth x).clean = true:=KC_br2_Truth x
theorem KL_br2_Truth (l : List T_br2_Truth) : cleanL (l.map A_br2_Truth) = true:=cleanM KA_br2_Truth l
attribute [local simp] KL_br2_Truth
theorem KB_br2_Truth (x : T_br2_Truth) (n : Nat) (σ : List Nat) : (C_br2_Truth x).mapM (re n σ) = some (C_br2_Truth x):=by simp
attribute [local simp] KB_br2_Truth
def p_br2_Least (N : Nat) (f_1 : T_Float) : Option (T_br2_Truth):=(letJ (fun (b_2 : List Int) (b_3 : List Int) => some (⟨b_2,b_3⟩ : T_br2_Truth)) (fun k_4 => (loop3 (fun rec_10 (i_7 : Int) (b_8 : List Int) (b_9 : List Int) => (bif (decide (i_7 < ((f_1.Loads.length : Nat) : Int))) then ((getI f_1.Loads i_7).bind fun x_14 => ((pushI b_8 ([x_14.Kilos.Lo] : List Int)).bind fun l_15 => ((getI f_1.Loads i_7).bind fun x_16 => ((pushI b_9 ([x_16.Top.Lo] : List Int)).bind fun l_17 => (rec_10 (IntKind.i64.wrap (i_7 + 1)) l_15 l_17))))) else (k_4 b_8 b_9))) N 0 [] [])))
def v_br2_Least (r : T_br2_Truth) : AV:=(A_br2_Truth r)
attribute [local simp] v_br2_Least
theorem b_br2_Least (r : T_br2_Truth) (n n2 m : Nat) : back n n2 m (v_br2_Least r) = some (v_br2_Least r):=by simp
theorem d_br2_Least (N : Nat) (f_1 : T_Float) (r : T_br2_Truth) (h : p_br2_Least N f_1 = some r) : Does Try.prog 32 [(A_Float f_1)] [] fun v c => v = v_br2_Least r ∧ c = []:=by
 unfold p_br2_Least at h
 refine Does.ofL comp32 _ _ rfl rfl ?_
 refine Ex.seq (rg 2 [1,2] (mkS 37 [(1,.ptr 0 0),(2,.ptr 1 0)]) ⟨[(C_Float f_1),[.nils,.nils]],[]⟩ ?_)
 refine Ex.seq (rg 1 [1,2,3] (mkS 37 [(1,.ptr 0 0),(2,.ptr 1 0),(3,.ptr 2 0)]) ⟨[(C_Float f_1),[.nils,.nils],[.nils,.nils]],[]⟩ ?_)
 refine Ex.seq (Ex.seq ?_)
 refine rg 1 [1,2,3,4] (mkS 37 [(1,.ptr 0 0),(2,.ptr 1 0),(3,.ptr 2 0),(4,i6 0)]) ⟨[(C_Float f_1),[.nils,.nils],[.nils,.nils]],[]⟩ ?_
 obtain ⟨K_5,hK_6,h⟩:=letE h
 refine Ex.blockJ (fun a S => ∃ (b_2 : List Int),∃ (b_3 : List Int),K_5 b_2 b_3 = some r ∧ a = mkS 37 [(2,.ptr 1 0),(3,.ptr 2 0)] ∧ S = ⟨[(C_Float f_1),[.nils,.nils],[.sl (b_2.map (AV.int .i64)) (some 0),.sl (b_3.map (AV.int .i64)) (some 1)]],[(b_2.length,1),(b_3.length,1)]⟩) ?_ ?_
 ·refine Ex.forget (nilB 2 0 1 [.nils,.nils] rfl rfl) ?_
  refine Ex.forget (nilB 2 1 1 [.sl (([] : List Int).map (AV.int .i64)) (some 0),.nils] rfl rfl) ?_
  refine Ex.castA (a2:=mkS 37 [(1,.ptr 0 0),(2,.ptr 1 0),(3,.ptr 2 0),(4,i6 0)]) (S2:=⟨[(C_Float f_1),[.nils,.nils],[.sl (([] : List Int).map (AV.int .i64)) (some 0),.sl (([] : List Int).map (AV.int .i64)) (some 1)]],[(0,1),(0,1)]⟩) (by kernel_rfl) (by kernel_rfl) ?_
  obtain ⟨B_11,hB_12,h⟩:=loop3I h
  refine Ex.loopF (fun k a S => ∃ (i_7 : Int),∃ (b_8 : List Int),∃ (b_9 : List Int),loop3 B_11 k i_7 b_8 b_9 = some r ∧ a = mkS 37 [(1,.ptr 0 0),(2,.ptr 1 0),(3,.ptr 2 0),(4,i6 i_7)] ∧ S = ⟨[(C_Float f_1),[.nils,.nils],[.sl (b_8.map (AV.int .i64)) (some 0),.sl (b_9.map (AV.int .i64)) (some 1)]],[(b_8.length,1),(b_9.length,1)]⟩) N ⟨_,_,Forgets.refl _ _ _,0,[],[],h,rfl,rfl⟩ ?_
  rintro k a S ⟨i_7,b_8,b_9,h,rfl,rfl⟩
  cases k with
  | zero => exact (loop3Z h).elim
  | succ k =>
   replace h:=loop3S h hB_12
   refine Ex.seq (Ex.seq ?_)
   refine regH 5 [(3,.eq (i6 ((f_1.Loads.length : Nat) : Int)))] [1,2,3,4,9] [AV.int .i64 (((f_1.Loads.map A_Load).length : Nat) : Int) = AV.int .i64 ((f_1.Loads.length : Nat) : Int)] (mkS 37 [(1,.ptr 0 0),(2,.ptr 1 0),(3,.ptr 2 0),(4,i6 i_7),(9,.bool (decide (i_7 < ((f_1.Loads.length : Nat) : Int))))]) (⟨[(C_Float f_1),[.nils,.nils],[.sl (b_8.map (AV.int .i64)) (some 0),.sl (b_9.map (AV.int .i64)) (some 1)]],[(b_8.length,1),(b_9.length,1)]⟩) (by kernel_rfl) ⟨lenM _ _,trivial⟩ rfl ?_
   rcases condI h with ⟨hc_13,h⟩ | ⟨hc_13,h⟩
   ·refine Ex.condT _ rfl hc_13 ?_
    refine Ex.skip ?_
    refine Ex.seq ?_
    refine Ex.blockK ?_
    obtain ⟨x_14,hx_14,h⟩:=bE h
    obtain ⟨l_15,hl_15,h⟩:=bE h
    obtain ⟨x_16,hx_16,h⟩:=bE h
    obtain ⟨l_17,hl_17,h⟩:=bE h
    refine Ex.drawE (a1:=mkS 37 [(1,.ptr 0 0),(2,.ptr 1 0),(3,.ptr 2 0),(4,i6 i_7),(9,.bool (decide (i_7 < ((f_1.Loads.length : Nat) : Int)))),(12,.ptr 2 0),(13,.sl (b_8.map (AV.int .i64)) (some 0)),(14,.ptr 0 8),(15,.sl (f_1.Loads.map A_Load) none),(16,i6 i_7),(17,.rop (C_Load x_14)),(18,.rop [i6 x_14.Kilos.Lo,i6 x_14.Kilos.Hi,i6 x_14.Top.Lo,i6 x_14.Top.Hi,i6 x_14.Kind,i6 x_14.Watts]),(19,.rop [i6 x_14.Kilos.Lo,i6 x_14.Kilos.Hi,i6 x_14.Top.Lo,i6 x_14.Top.Hi,i6 x_14.Kind,i6 x_14.Watts]),(20,i6 x_14.Kilos.Lo),(21,.sl (([x_14.Kilos.Lo] : List Int).map (AV.int .i64)) (some 2)),(22,.sl (l_15.map (AV.int .i64)) (some 0)),(23,.ptr 2 1),(24,.sl (b_9.map (AV.int .i64)) (some 1)),(25,.ptr 0 8),(26,.sl (f_1.Loads.map A_Load) none),(27,i6 i_7),(28,.rop (C_Load x_16)),(29,.rop [i6 x_16.Top.Lo,i6 x_16.Top.Hi,i6 x_16.Kind,i6 x_16.Watts]),(30,.rop [i6 x_16.Top.Lo,i6 x_16.Top.Hi,i6 x_16.Kind,i6 x_16.Watts]),(31,i6 x_16.Top.Lo),(32,.sl (([x_16.Top.Lo] : List Int).map (AV.int .i64)) (some 3)),(33,.sl (l_17.map (AV.int .i64)) (some 1)),(34,.ptr 2 0)]) (noClr_ok _) [] [(1,1),(1,1)] [⟨[(C_Float f_1),[.nils,.nils],[.sl (b_8.map (AV.int .i64)) (some 0),.sl (b_9.map (AV.int .i64)) (some 1)]],[(l_15.length,1),(b_9.length,1),(1,1),(1,1)]⟩,⟨[(C_Float f_1),[.nils,.nils],[.sl (b_8.map (AV.int .i64)) (some 0),.sl (b_9.map (AV.int .i64)) (some 1)]],[(l_15.length,1),(l_17.length,1),(1,1),(1,1)]⟩] ?_ ?_
    ·refine drS [0, 1, 2] 9 [(5, .rop (C_Load x_14))] [LGet (f_1.Loads.map A_Load) i_7 7 (C_Load x_14)] (mkS 37 [(1, .ptr 0 0), (2, .ptr 1 0), (3, .ptr 2 0), (4, i6 i_7), (9, .bool (decide (i_7 < ((f_1.Loads.length : Nat) : Int)))), (12, .ptr 2 0), (13, .sl (b_8.map (AV.int .i64)) (some 0)), (14, .ptr 0 8), (15, .sl (f_1.Loads.map A_Load) none), (16, i6 i_7), (17, .rop (C_Load x_14)), (18, .rop [i6 x_14.Kilos.Lo, i6 x_14.Kilos.Hi, i6 x_14.Top.Lo, i6 x_14.Top.Hi, i6 x_14.Kind, i6 x_14.Watts]), (19, .rop [i6 x_14.Kilos.Lo, i6 x_14.Kilos.Hi, i6 x_14.Top.Lo, i6 x_14.Top.Hi, i6 x_14.Kind, i6 x_14.Watts]), (20, i6 x_14.Kilos.Lo)]) (by simp) (by kernel_rfl) ⟨LGet.of hx_14 rfl, trivial⟩ (by kernel_rfl) ?_
     refine drR 2 1 (([x_14.Kilos.Lo] : List Int).map (AV.int .i64)) rfl rfl (fun _ => by kernel_rfl) (by simp) rfl rfl ?_
     refine drE (some (.app (l_15.map (AV.int .i64)) l_15.length)) (some (LApp b_8.length (b_8.map (AV.int .i64)) (([x_14.Kilos.Lo] : List Int).map (AV.int .i64)) 1 (l_15.map (AV.int .i64)) l_15.length)) (.sl (l_15.map (AV.int .i64)) (some 0)) _ _ rfl rfl rfl rfl rfl (by kernel_rfl) (LApp.of hl_15 (fun _ => rfl)) ?_
     refine drS [0,1,2] 9 [(5,.rop (C_Load x_16))] [LGet (f_1.Loads.map A_Load) i_7 7 (C_Load x_16)] (mkS 37 [(1,.ptr 0 0),(2,.ptr 1 0),(3,.ptr 2 0),(4,i6 i_7),(9,.bool (decide (i_7 < ((f_1.Loads.length : Nat) : Int)))),(12,.ptr 2 0),(13,.sl (b_8.map (AV.int .i64)) (some 0)),(14,.ptr 0 8),(15,.sl (f_1.Loads.map A_Load) none),(16,i6 i_7),(17,.rop (C_Load x_14)),(18,.rop [i6 x_14.Kilos.Lo,i6 x_14.Kilos.Hi,i6 x_14.Top.Lo,i6 x_14.Top.Hi,i6 x_14.Kind,i6 x_14.Watts]),(19,.rop [i6 x_14.Kilos.Lo,i6 x_14.Kilos.Hi,i6 x_14.Top.Lo,i6 x_14.Top.Hi,i6 x_14.Kind,i6 x_14.Watts]),(20,i6 x_14.Kilos.Lo),(21,.sl (([x_14.Kilos.Lo] : List Int).map (AV.int .i64)) (some 2)),(22,.sl (l_15.map (AV.int .i64)) (some 0)),(23,.ptr 2 1),(24,.sl (b_9.map (AV.int .i64)) (some 1)),(25,.ptr 0 8),(26,.sl (f_1.Loads.map A_Load) none),(27,i6 i_7),(28,.rop (C_Load x_16)),(29,.rop [i6 x_16.Top.Lo,i6 x_16.Top.Hi,i6 x_16.Kind,i6 x_16.Watts]),(30,.rop [i6 x_16.Top.Lo,i6 x_16.Top.Hi,i6 x_16.Kind,i6 x_16.Watts]),(31,i6 x_16.Top.Lo)]) (by simp) (by kernel_rfl) ⟨LGet.of hx_16 rfl,trivial⟩ (by kernel_rfl) ?_
     refine drR 3 1 (([x_16.Top.Lo] : List Int).map (AV.int .i64)) rfl rfl (fun _ => by kernel_rfl) (by simp) rfl rfl ?_
     refine drE (some (.app (l_17.map (AV.int .i64)) l_17.length)) (some (LApp b_9.length (b_9.map (AV.int .i64)) (([x_16.Top.Lo] : List Int).map (AV.int .i64)) 1 (l_17.map (AV.int .i64)) l_17.length)) (.sl (l_17.map (AV.int .i64)) (some 1)) _ _ rfl rfl rfl rfl rfl (by kernel_rfl) (LApp.of hl_17 (fun _ => rfl)) ?_
     refine drS [0,1,2] 1 [] [] (mkS 37 [(1,.ptr 0 0),(2,.ptr 1 0),(3,.ptr 2 0),(4,i6 i_7),(9,.bool (decide (i_7 < ((f_1.Loads.length : Nat) : Int)))),(12,.ptr 2 0),(13,.sl (b_8.map (AV.int .i64)) (some 0)),(14,.ptr 0 8),(15,.sl (f_1.Loads.map A_Load) none),(16,i6 i_7),(17,.rop (C_Load x_14)),(18,.rop [i6 x_14.Kilos.Lo,i6 x_14.Kilos.Hi,i6 x_14.Top.Lo,i6 x_14.Top.Hi,i6 x_14.Kind,i6 x_14.Watts]),(19,.rop [i6 x_14.Kilos.Lo,i6 x_14.Kilos.Hi,i6 x_14.Top.Lo,i6 x_14.Top.Hi,i6 x_14.Kind,i6 x_14.Watts]),(20,i6 x_14.Kilos.Lo),(21,.sl (([x_14.Kilos.Lo] : List Int).map (AV.int .i64)) (some 2)),(22,.sl (l_15.map (AV.int .i64)) (some 0)),(23,.ptr 2 1),(24,.sl (b_9.map (AV.int .i64)) (some 1)),(25,.ptr 0 8),(26,.sl (f_1.Loads.map A_Load) none),(27,i6 i_7),(28,.rop (C_Load x_16)),(29,.rop [i6 x_16.Top.Lo,i6 x_16.Top.Hi,i6 x_16.Kind,i6 x_16.Watts]),(30,.rop [i6 x_16.Top.Lo,i6 x_16.Top.Hi,i6 x_16.Kind,i6 x_16.Watts]),(31,i6 x_16.Top.Lo),(32,.sl (([x_16.Top.Lo] : List Int).map (AV.int .i64)) (some 3)),(33,.sl (l_17.map (AV.int .i64)) (some 1)),(34,.ptr 2 0)]) (by simp) (by kernel_rfl) trivial (by kernel_rfl) ?_
     exact DrO.nil rfl
    ·dsimp only [List.getLastD_cons,List.getLastD_nil]
     refine rn 3 [1,2,3,4] (mkS 37 [(1,.ptr 0 0),(2,.ptr 1 0),(3,.ptr 2 0),(4,i6 i_7)]) ⟨[(C_Float f_1),[.nils,.nils],[.sl (l_15.map (AV.int .i64)) (some 0),.sl (l_17.map (AV.int .i64)) (some 1)]],[(l_15.length,1),(l_17.length,1),(1,1),(1,1)]⟩ ?_
     refine ExO.nil ?_
     refine rg 3 [1,2,3,4] (mkS 37 [(1,.ptr 0 0),(2,.ptr 1 0),(3,.ptr 2 0),(4,i6 (IntKind.i64.wrap (i_7 + 1)))]) ⟨[(C_Float f_1),[.nils,.nils],[.sl (l_15.map (AV.int .i64)) (some 0),.sl (l_17.map (AV.int .i64)) (some 1)]],[(l_15.length,1),(l_17.length,1),(1,1),(1,1)]⟩ ?_
     dsimp only
     exact ⟨_,_,forgetA (m:=37) 3 [0,1] [(1,.ptr 0 0),(2,.ptr 1 0),(3,.ptr 2 0),(4,i6 (IntKind.i64.wrap (i_7 + 1)))] [(C_Float f_1),[.nils,.nils],[.sl (l_15.map (AV.int .i64)) (some 0),.sl (l_17.map (AV.int .i64)) (some 1)]] [(l_15.length,1),(l_17.length,1)] (by simp [setAll]) (by simp) ⟨rfl,rfl,rfl,rfl,trivial⟩ (by simp) rfl (by decide),k,Nat.lt_succ_self k,(IntKind.i64.wrap (i_7 + 1)),l_15,l_17,h,rfl,rfl⟩
   ·refine Ex.condF _ rfl hc_13 ?_
    refine Ex.exit ?_
    (try simp only [reduceCtorEq,AEx.ex.injEq,Nat.reduceEqDiff,if_true,if_false])
    exact ⟨_,_,forgetK [2,3],b_8,b_9,h,rfl,rfl⟩
 ·rintro a S ⟨b_2,b_3,h,rfl,rfl⟩
  subst hK_6
  refine Ex.seq (rg 2 [2] (mkS 37 [(2,.ptr 1 0)]) ⟨[(C_Float f_1),[.sl (b_2.map (AV.int .i64)) (some 0),.sl (b_3.map (AV.int .i64)) (some 1)],[.sl (b_2.map (AV.int .i64)) (some 0),.sl (b_3.map (AV.int .i64)) (some 1)]],[(b_2.length,1),(b_3.length,1)]⟩ ?_)
  refine Ex.ret ?_
  obtain rfl:=sJ h
  exact rt (.agg [.sl (b_2.map (AV.int .i64)) (some 0),.sl (b_3.map (AV.int .i64)) (some 1)])
def p_br2_Weighs (N : Nat) (f_1 : T_Float) (t_2 : T_br2_Truth) : Option (Int):=(letJ (fun (sum_3 : Int) => some sum_3) (fun k_4 => (loop2 (fun rec_9 (sum_7 : Int) (i_8 : Int) => (bif (decide (i_8 < ((t_2.Kilos.length : Nat) : Int))) then ((getI t_2.Kilos i_8).bind fun x_13 => (rec_9 (IntKind.i64.wrap (sum_7 + x_13)) (IntKind.i64.wrap (i_8 + 1)))) else (k_4 sum_7))) N f_1.Kilos 0)))
def v_br2_Weighs (r : Int) : AV:=i6 r
attribute [local simp] v_br2_Weighs
theorem a_br2_Weighs (f_1 : T_Float) (t_2 : T_br2_Truth) : [(A_Float f_1),(A_br2_Truth t_2)].mapM (ren []) = some [(A_Float f_1),(A_br2_Truth t_2)]:=by simp
theorem b_br2_Weighs (r : Int) (n n2 m : Nat) : back n n2 m (v_br2_Weighs r) = some (v_br2_Weighs r):=by simp
theorem d_br2_Weighs (N : Nat) (f_1 : T_Float) (t_2 : T_br2_Truth) (r : Int) (h : p_br2_Weighs N f_1 t_2 = some r) : Does Try.prog 31 [(A_Float f_1),(A_br2_Truth t_2)] [] fun v c => v = v_br2_Weighs r ∧ c = []:=by
 unfold p_br2_Weighs at h
 refine Does.ofL comp31 _ _ rfl rfl ?_
 refine Ex.seq (rg 3 [2,3] (mkS 24 [(2,.ptr 0 0),(3,.ptr 1 0)]) ⟨[(C_Float f_1),(C_br2_Truth t_2)],[]⟩ ?_)
 refine Ex.seq (rg 3 [3,5] (mkS 24 [(3,.ptr 1 0),(5,i6 f_1.Kilos)]) ⟨[(C_Float f_1),(C_br2_Truth t_2)],[]⟩ ?_)
 refine Ex.seq (Ex.seq ?_)
 refine rg 1 [3,5,6] (mkS 24 [(3,.ptr 1 0),(5,i6 f_1.Kilos),(6,i6 0)]) ⟨[(C_Float f_1),(C_br2_Truth t_2)],[]⟩ ?_
 obtain ⟨K_5,hK_6,h⟩:=letE h
 refine Ex.blockJ (fun a S => ∃ (sum_3 : Int),K_5 sum_3 = some r ∧ a = mkS 24 [(5,i6 sum_3)] ∧ S = ⟨[],[]⟩) ?_ ?_
 ·obtain ⟨B_10,hB_11,h⟩:=loop2I h
  refine Ex.loopF (fun k a S => ∃ (sum_7 : Int),∃ (i_8 : Int),loop2 B_10 k sum_7 i_8 = some r ∧ a = mkS 24 [(3,.ptr 1 0),(5,i6 sum_7),(6,i6 i_8)] ∧ S = ⟨[(C_Float f_1),(C_br2_Truth t_2)],[]⟩) N ⟨_,_,Forgets.refl _ _ _,f_1.Kilos,0,h,rfl,rfl⟩ ?_
  rintro k a S ⟨sum_7,i_8,h,rfl,rfl⟩
  cases k with
  | zero => exact (loop2Z h).elim
  | succ k =>
   replace h:=loop2S h hB_11
   refine Ex.seq (Ex.seq ?_)
   refine regH 5 [(3,.eq (i6 ((t_2.Kilos.length : Nat) : Int)))] [3,5,6,13] [AV.int .i64 (((t_2.Kilos.map (AV.int .i64)).length : Nat) : Int) = AV.int .i64 ((t_2.Kilos.length : Nat) : Int)] (mkS 24 [(3,.ptr 1 0),(5,i6 sum_7),(6,i6 i_8),(13,.bool (decide (i_8 < ((t_2.Kilos.length : Nat) : Int))))]) (⟨[(C_Float f_1),(C_br2_Truth t_2)],[]⟩) (by kernel_rfl) ⟨lenM _ _,trivial⟩ rfl ?_
   rcases condI h with ⟨hc_12,h⟩ | ⟨hc_12,h⟩
   ·refine Ex.condT _ rfl hc_12 ?_
    refine Ex.skip ?_
    refine Ex.seq ?_
    refine Ex.blockK ?_
    obtain ⟨x_13,hx_13,h⟩:=bE h
    refine regH 8 [(4,.rop [i6 x_13])] [3,5,6] [LGet (t_2.Kilos.map (AV.int .i64)) i_8 1 [i6 x_13]] (mkS 24 [(3,.ptr 1 0),(5,i6 (IntKind.i64.wrap (sum_7 + x_13))),(6,i6 i_8)]) (⟨[(C_Float f_1),(C_br2_Truth t_2)],[]⟩) (by kernel_rfl) ⟨LGet.of hx_13 rfl,trivial⟩ rfl ?_
    refine rg 3 [3,5,6] (mkS 24 [(3,.ptr 1 0),(5,i6 (IntKind.i64.wrap (sum_7 + x_13))),(6,i6 (IntKind.i64.wrap (i_8 + 1)))]) ⟨[(C_Float f_1),(C_br2_Truth t_2)],[]⟩ ?_
    dsimp only
    exact ⟨_,_,Forgets.refl _ _ _,k,Nat.lt_succ_self k,(IntKind.i64.wrap (sum_7 + x_13)),(IntKind.i64.wrap (i_8 + 1)),h,rfl,rfl⟩
   ·refine Ex.condF _ rfl hc_12 ?_
    refine Ex.exit ?_
    (try simp only [reduceCtorEq,AEx.ex.injEq,Nat.reduceEqDiff,if_true,if_false])
    exact ⟨_,_,forgetA (m:=24) 0 [] [(5,i6 sum_7)] [] [] (by simp [setAll]) (by simp) ⟨rfl,trivial⟩ (by simp) rfl (by decide),sum_7,h,rfl,rfl⟩
 ·rintro a S ⟨sum_3,h,rfl,rfl⟩
  subst hK_6
  refine Ex.seq (rg 2 [4] (mkS 24 [(4,i6 sum_3)]) ⟨[],[]⟩ ?_)
  refine Ex.ret ?_
  obtain rfl:=sJ h
  exact rt (i6 sum_3)
def p_br2_Greatest (N : Nat) (f_1 : T_Float) : Option (T_br2_Truth):=(letJ (fun (b_2 : List Int) (b_3 : List Int) => some (⟨b_2,b_3⟩ : T_br2_Truth)) (fun k_4 => (loop3 (fun rec_10 (i_7 : Int) (b_8 : List Int) (b_9 : List Int) => (bif (decide (i_7 < ((f_1.Loads.length : Nat) : Int))) then ((getI f_1.Loads i_7).bind fun x_14 => ((pushI b_8 ([x_14.Kilos.Hi] : List Int)).bind fun l_15 => ((getI f_1.Loads i_7).bind fun x_16 => ((pushI b_9 ([x_16.Top.Hi] : List Int)).bind fun l_17 => (rec_10 (IntKind.i64.wrap (i_7 + 1)) l_15 l_17))))) else (k_4 b_8 b_9))) N 0 [] [])))
def v_br2_Greatest (r : T_br2_Truth) : AV:=(A_br2_Truth r)
attribute [local simp] v_br2_Greatest
theorem b_br2_Greatest (r : T_br2_Truth) (n n2 m : Nat) : back n n2 m (v_br2_Greatest r) = some (v_br2_Greatest r):=by simp
theorem d_br2_Greatest (N : Nat) (f_1 : T_Float) (r : T_br2_Truth) (h : p_br2_Greatest N f_1 = some r) : Does Try.prog 33 [(A_Float f_1)] [] fun v c => v = v_br2_Greatest r ∧ c = []:=by
 unfold p_br2_Greatest at h
 refine Does.ofL comp33 _ _ rfl rfl ?_
 refine Ex.seq (rg 2 [1,2] (mkS 37 [(1,.ptr 0 0),(2,.ptr 1 0)]) ⟨[(C_Float f_1),[.nils,.nils]],[]⟩ ?_)
 refine Ex.seq (rg 1 [1,2,3] (mkS 37 [(1,.ptr 0 0),(2,.ptr 1 0),(3,.ptr 2 0)]) ⟨[(C_Float f_1),[.nils,.nils],[.nils,.nils]],[]⟩ ?_)
 refine Ex.seq (Ex.seq ?_)
 refine rg 1 [1,2,3,4] (mkS 37 [(1,.ptr 0 0),(2,.ptr 1 0),(3,.ptr 2 0),(4,i6 0)]) ⟨[(C_Float f_1),[.nils,.nils],[.nils,.nils]],[]⟩ ?_
 obtain ⟨K_5,hK_6,h⟩:=letE h
 refine Ex.blockJ (fun a S => ∃ (b_2 : List Int),∃ (b_3 : List Int),K_5 b_2 b_3 = some r ∧ a = mkS 37 [(2,.ptr 1 0),(3,.ptr 2 0)] ∧ S = ⟨[(C_Float f_1),[.nils,.nils],[.sl (b_2.map (AV.int .i64)) (some 0),.sl (b_3.map (AV.int .i64)) (some 1)]],[(b_2.length,1),(b_3.length,1)]⟩) ?_ ?_
 ·refine Ex.forget (nilB 2 0 1 [.nils,.nils] rfl rfl) ?_
  refine Ex.forget (nilB 2 1 1 [.sl (([] : List Int).map (AV.int .i64)) (some 0),.nils] rfl rfl) ?_
  refine Ex.castA (a2:=mkS 37 [(1,.ptr 0 0),(2,.ptr 1 0),(3,.ptr 2 0),(4,i6 0)]) (S2:=⟨[(C_Float f_1),[.nils,.nils],[.sl (([] : List Int).map (AV.int .i64)) (some 0),.sl (([] : List Int).map (AV.int .i64)) (some 1)]],[(0,1),(0,1)]⟩) (by kernel_rfl) (by kernel_rfl) ?_
  obtain ⟨B_11,hB_12,h⟩:=loop3I h
  refine Ex.loopF (fun k a S => ∃ (i_7 : Int),∃ (b_8 : List Int),∃ (b_9 : List Int),loop3 B_11 k i_7 b_8 b_9 = some r ∧ a = mkS 37 [(1,.ptr 0 0),(2,.ptr 1 0),(3,.ptr 2 0),(4,i6 i_7)] ∧ S = ⟨[(C_Float f_1),[.nils,.nils],[.sl (b_8.map (AV.int .i64)) (some 0),.sl (b_9.map (AV.int .i64)) (some 1)]],[(b_8.length,1),(b_9.length,1)]⟩) N ⟨_,_,Forgets.refl _ _ _,0,[],[],h,rfl,rfl⟩ ?_
  rintro k a S ⟨i_7,b_8,b_9,h,rfl,rfl⟩
  cases k with
  | zero => exact (loop3Z h).elim
  | succ k =>
   replace h:=loop3S h hB_12
   refine Ex.seq (Ex.seq ?_)
   refine regH 5 [(3,.eq (i6 ((f_1.Loads.length : Nat) : Int)))] [1,2,3,4,9] [AV.int .i64 (((f_1.Loads.map A_Load).length : Nat) : Int) = AV.int .i64 ((f_1.Loads.length : Nat) : Int)] (mkS 37 [(1,.ptr 0 0),(2,.ptr 1 0),(3,.ptr 2 0),(4,i6 i_7),(9,.bool (decide (i_7 < ((f_1.Loads.length : Nat) : Int))))]) (⟨[(C_Float f_1),[.nils,.nils],[.sl (b_8.map (AV.int .i64)) (some 0),.sl (b_9.map (AV.int .i64)) (some 1)]],[(b_8.length,1),(b_9.length,1)]⟩) (by kernel_rfl) ⟨lenM _ _,trivial⟩ rfl ?_
   rcases condI h with ⟨hc_13,h⟩ | ⟨hc_13,h⟩
   ·refine Ex.condT _ rfl hc_13 ?_
    refine Ex.skip ?_
    refine Ex.seq ?_
    refine Ex.blockK ?_
    obtain ⟨x_14,hx_14,h⟩:=bE h
    obtain ⟨l_15,hl_15,h⟩:=bE h
    obtain ⟨x_16,hx_16,h⟩:=bE h
    obtain ⟨l_17,hl_17,h⟩:=bE h
    refine Ex.drawE (a1:=mkS 37 [(1,.ptr 0 0),(2,.ptr 1 0),(3,.ptr 2 0),(4,i6 i_7),(9,.bool (decide (i_7 < ((f_1.Loads.length : Nat) : Int)))),(12,.ptr 2 0),(13,.sl (b_8.map (AV.int .i64)) (some 0)),(14,.ptr 0 8),(15,.sl (f_1.Loads.map A_Load) none),(16,i6 i_7),(17,.rop (C_Load x_14)),(18,.rop [i6 x_14.Kilos.Lo,i6 x_14.Kilos.Hi,i6 x_14.Top.Lo,i6 x_14.Top.Hi,i6 x_14.Kind,i6 x_14.Watts]),(19,.rop [i6 x_14.Kilos.Hi,i6 x_14.Top.Lo,i6 x_14.Top.Hi,i6 x_14.Kind,i6 x_14.Watts]),(20,i6 x_14.Kilos.Hi),(21,.sl (([x_14.Kilos.Hi] : List Int).map (AV.int .i64)) (some 2)),(22,.sl (l_15.map (AV.int .i64)) (some 0)),(23,.ptr 2 1),(24,.sl (b_9.map (AV.int .i64)) (some 1)),(25,.ptr 0 8),(26,.sl (f_1.Loads.map A_Load) none),(27,i6 i_7),(28,.rop (C_Load x_16)),(29,.rop [i6 x_16.Top.Lo,i6 x_16.Top.Hi,i6 x_16.Kind,i6 x_16.Watts]),(30,.rop [i6 x_16.Top.Hi,i6 x_16.Kind,i6 x_16.Watts]),(31,i6 x_16.Top.Hi),(32,.sl (([x_16.Top.Hi] : List Int).map (AV.int .i64)) (some 3)),(33,.sl (l_17.map (AV.int .i64)) (some 1)),(34,.ptr 2 0)]) (noClr_ok _) [] [(1,1),(1,1)] [⟨[(C_Float f_1),[.nils,.nils],[.sl (b_8.map (AV.int .i64)) (some 0),.sl (b_9.map (AV.int .i64)) (some 1)]],[(l_15.length,1),(b_9.length,1),(1,1),(1,1)]⟩,⟨[(C_Float f_1),[.nils,.nils],[.sl (b_8.map (AV.int .i64)) (some 0),.sl (b_9.map (AV.int .i64)) (some 1)]],[(l_15.length,1),(l_17.length,1),(1,1),(1,1)]⟩] ?_ ?_
    ·refine drS [0, 1, 2] 9 [(5, .rop (C_Load x_14))] [LGet (f_1.Loads.map A_Load) i_7 7 (C_Load x_14)] (mkS 37 [(1, .ptr 0 0), (2, .ptr 1 0), (3, .ptr 2 0), (4, i6 i_7), (9, .bool (decide (i_7 < ((f_1.Loads.length : Nat) : Int)))), (12, .ptr 2 0), (13, .sl (b_8.map (AV.int .i64)) (some 0)), (14, .ptr 0 8), (15, .sl (f_1.Loads.map A_Load) none), (16, i6 i_7), (17, .rop (C_Load x_14)), (18, .rop [i6 x_14.Kilos.Lo, i6 x_14.Kilos.Hi, i6 x_14.Top.Lo, i6 x_14.Top.Hi, i6 x_14.Kind, i6 x_14.Watts]), (19, .rop [i6 x_14.Kilos.Hi, i6 x_14.Top.Lo, i6 x_14.Top.Hi, i6 x_14.Kind, i6 x_14.Watts]), (20, i6 x_14.Kilos.Hi)]) (by simp) (by kernel_rfl) ⟨LGet.of hx_14 rfl, trivial⟩ (by kernel_rfl) ?_
     refine drR 2 1 (([x_14.Kilos.Hi] : List Int).map (AV.int .i64)) rfl rfl (fun _ => by kernel_rfl) (by simp) rfl rfl ?_
     refine drE (some (.app (l_15.map (AV.int .i64)) l_15.length)) (some (LApp b_8.length (b_8.map (AV.int .i64)) (([x_14.Kilos.Hi] : List Int).map (AV.int .i64)) 1 (l_15.map (AV.int .i64)) l_15.length)) (.sl (l_15.map (AV.int .i64)) (some 0)) _ _ rfl rfl rfl rfl rfl (by kernel_rfl) (LApp.of hl_15 (fun _ => rfl)) ?_
     refine drS [0,1,2] 9 [(5,.rop (C_Load x_16))] [LGet (f_1.Loads.map A_Load) i_7 7 (C_Load x_16)] (mkS 37 [(1,.ptr 0 0),(2,.ptr 1 0),(3,.ptr 2 0),(4,i6 i_7),(9,.bool (decide (i_7 < ((f_1.Loads.length : Nat) : Int)))),(12,.ptr 2 0),(13,.sl (b_8.map (AV.int .i64)) (some 0)),(14,.ptr 0 8),(15,.sl (f_1.Loads.map A_Load) none),(16,i6 i_7),(17,.rop (C_Load x_14)),(18,.rop [i6 x_14.Kilos.Lo,i6 x_14.Kilos.Hi,i6 x_14.Top.Lo,i6 x_14.Top.Hi,i6 x_14.Kind,i6 x_14.Watts]),(19,.rop [i6 x_14.Kilos.Hi,i6 x_14.Top.Lo,i6 x_14.Top.Hi,i6 x_14.Kind,i6 x_14.Watts]),(20,i6 x_14.Kilos.Hi),(21,.sl (([x_14.Kilos.Hi] : List Int).map (AV.int .i64)) (some 2)),(22,.sl (l_15.map (AV.int .i64)) (some 0)),(23,.ptr 2 1),(24,.sl (b_9.map (AV.int .i64)) (some 1)),(25,.ptr 0 8),(26,.sl (f_1.Loads.map A_Load) none),(27,i6 i_7),(28,.rop (C_Load x_16)),(29,.rop [i6 x_16.Top.Lo,i6 x_16.Top.Hi,i6 x_16.Kind,i6 x_16.Watts]),(30,.rop [i6 x_16.Top.Hi,i6 x_16.Kind,i6 x_16.Watts]),(31,i6 x_16.Top.Hi)]) (by simp) (by kernel_rfl) ⟨LGet.of hx_16 rfl,trivial⟩ (by kernel_rfl) ?_
     refine drR 3 1 (([x_16.Top.Hi] : List Int).map (AV.int .i64)) rfl rfl (fun _ => by kernel_rfl) (by simp) rfl rfl ?_
     refine drE (some (.app (l_17.map (AV.int .i64)) l_17.length)) (some (LApp b_9.length (b_9.map (AV.int .i64)) (([x_16.Top.Hi] : List Int).map (AV.int .i64)) 1 (l_17.map (AV.int .i64)) l_17.length)) (.sl (l_17.map (AV.int .i64)) (some 1)) _ _ rfl rfl rfl rfl rfl (by kernel_rfl) (LApp.of hl_17 (fun _ => rfl)) ?_
     refine drS [0,1,2] 1 [] [] (mkS 37 [(1,.ptr 0 0),(2,.ptr 1 0),(3,.ptr 2 0),(4,i6 i_7),(9,.bool (decide (i_7 < ((f_1.Loads.length : Nat) : Int)))),(12,.ptr 2 0),(13,.sl (b_8.map (AV.int .i64)) (some 0)),(14,.ptr 0 8),(15,.sl (f_1.Loads.map A_Load) none),(16,i6 i_7),(17,.rop (C_Load x_14)),(18,.rop [i6 x_14.Kilos.Lo,i6 x_14.Kilos.Hi,i6 x_14.Top.Lo,i6 x_14.Top.Hi,i6 x_14.Kind,i6 x_14.Watts]),(19,.rop [i6 x_14.Kilos.Hi,i6 x_14.Top.Lo,i6 x_14.Top.Hi,i6 x_14.Kind,i6 x_14.Watts]),(20,i6 x_14.Kilos.Hi),(21,.sl (([x_14.Kilos.Hi] : List Int).map (AV.int .i64)) (some 2)),(22,.sl (l_15.map (AV.int .i64)) (some 0)),(23,.ptr 2 1),(24,.sl (b_9.map (AV.int .i64)) (some 1)),(25,.ptr 0 8),(26,.sl (f_1.Loads.map A_Load) none),(27,i6 i_7),(28,.rop (C_Load x_16)),(29,.rop [i6 x_16.Top.Lo,i6 x_16.Top.Hi,i6 x_16.Kind,i6 x_16.Watts]),(30,.rop [i6 x_16.Top.Hi,i6 x_16.Kind,i6 x_16.Watts]),(31,i6 x_16.Top.Hi),(32,.sl (([x_16.Top.Hi] : List Int).map (AV.int .i64)) (some 3)),(33,.sl (l_17.map (AV.int .i64)) (some 1)),(34,.ptr 2 0)]) (by simp) (by kernel_rfl) trivial (by kernel_rfl) ?_
     exact DrO.nil rfl
    ·dsimp only [List.getLastD_cons,List.getLastD_nil]
     refine rn 3 [1,2,3,4] (mkS 37 [(1,.ptr 0 0),(2,.ptr 1 0),(3,.ptr 2 0),(4,i6 i_7)]) ⟨[(C_Float f_1),[.nils,.nils],[.sl (l_15.map (AV.int .i64)) (some 0),.sl (l_17.map (AV.int .i64)) (some 1)]],[(l_15.length,1),(l_17.length,1),(1,1),(1,1)]⟩ ?_
     refine ExO.nil ?_
     refine rg 3 [1,2,3,4] (mkS 37 [(1,.ptr 0 0),(2,.ptr 1 0),(3,.ptr 2 0),(4,i6 (IntKind.i64.wrap (i_7 + 1)))]) ⟨[(C_Float f_1),[.nils,.nils],[.sl (l_15.map (AV.int .i64)) (some 0),.sl (l_17.map (AV.int .i64)) (some 1)]],[(l_15.length,1),(l_17.length,1),(1,1),(1,1)]⟩ ?_
     dsimp only
     exact ⟨_,_,forgetA (m:=37) 3 [0,1] [(1,.ptr 0 0),(2,.ptr 1 0),(3,.ptr 2 0),(4,i6 (IntKind.i64.wrap (i_7 + 1)))] [(C_Float f_1),[.nils,.nils],[.sl (l_15.map (AV.int .i64)) (some 0),.sl (l_17.map (AV.int .i64)) (some 1)]] [(l_15.length,1),(l_17.length,1)] (by simp [setAll]) (by simp) ⟨rfl,rfl,rfl,rfl,trivial⟩ (by simp) rfl (by decide),k,Nat.lt_succ_self k,(IntKind.i64.wrap (i_7 + 1)),l_15,l_17,h,rfl,rfl⟩
   ·refine Ex.condF _ rfl hc_13 ?_
    refine Ex.exit ?_
    (try simp only [reduceCtorEq,AEx.ex.injEq,Nat.reduceEqDiff,if_true,if_false])
    exact ⟨_,_,forgetK [2,3],b_8,b_9,h,rfl,rfl⟩
 ·rintro a S ⟨b_2,b_3,h,rfl,rfl⟩
  subst hK_6
  refine Ex.seq (rg 2 [2] (mkS 37 [(2,.ptr 1 0)]) ⟨[(C_Float f_1),[.sl (b_2.map (AV.int .i64)) (some 0),.sl (b_3.map (AV.int .i64)) (some 1)],[.sl (b_2.map (AV.int .i64)) (some 0),.sl (b_3.map (AV.int .i64)) (some 1)]],[(b_2.length,1),(b_3.length,1)]⟩ ?_)
  refine Ex.ret ?_
  obtain rfl:=sJ h
  exact rt (.agg [.sl (b_2.map (AV.int .i64)) (some 0),.sl (b_3.map (AV.int .i64)) (some 1)])
def p_br2_Total (N : Nat) (f_1 : T_Float) : Option (T_Span × Int):=((p_br2_Check N f_1).bind fun r_2 => (bif (r_2 != 0) then some ((⟨0,0⟩ : T_Span),r_2) else ((p_br2_Least N f_1).bind fun r_4 => ((p_br2_Weighs N f_1 r_4).bind fun r_5 => ((p_br2_Greatest N f_1).bind fun r_6 => ((p_br2_Weighs N f_1 r_6).bind fun r_8 => some ((⟨r_5,r_8⟩ : T_Span),0)))))))
def v_br2_Total (r : T_Span × Int) : AV:=.tup [(A_Span r.1),i6 r.2]
attribute [local simp] v_br2_Total
theorem a_br2_Total (f_1 : T_Float) : [(A_Float f_1)].mapM (ren []) = some [(A_Float f_1)]:=by simp
theorem b_br2_Total (r : T_Span × Int) (n n2 m : Nat) : back n n2 m (v_br2_Total r) = some (v_br2_Total r):=by simp
theorem d_br2_Total (N : Nat) (f_1 : T_Float) (r : T_Span × Int) (h : p_br2_Total N f_1 = some r) : Does Try.prog 16 [(A_Float f_1)] [] fun v c => v = v_br2_Total r ∧ c = []:=by
 unfold p_br2_Total at h
 refine Does.ofL comp16 _ _ rfl rfl ?_
 refine Ex.seq (rg 3 [1,2] (mkS 20 [(1,.ptr 0 0),(2,.ptr 1 0)]) ⟨[(C_Float f_1),[i6 0,i6 0]],[]⟩ ?_)
 refine Ex.seq (Ex.seq ?_)
 obtain ⟨r_2,hr_2,h⟩:=bE h
 refine Ex.reg (rn 1 [1,2,5] (mkS 20 [(1,.ptr 0 0),(2,.ptr 1 0),(5,(A_Float f_1))]) ⟨[(C_Float f_1),[i6 0,i6 0]],[]⟩ ?_)
 refine ExO.callL [] [(A_Float f_1)] rfl rfl (a_br2_Check f_1) rfl rfl (d_br2_Check N f_1 r_2 hr_2) (b_br2_Check _ _ _ _) rfl ?_
 refine rn 1 [1,2,4] (mkS 20 [(1,.ptr 0 0),(2,.ptr 1 0),(4,i6 r_2)]) ⟨[(C_Float f_1),[i6 0,i6 0]],[]⟩ ?_
 refine ExO.nil ?_
 refine Ex.seq (rg 2 [1,2,4,8] (mkS 20 [(1,.ptr 0 0),(2,.ptr 1 0),(4,i6 r_2),(8,.bool (r_2 != 0))]) ⟨[(C_Float f_1),[i6 0,i6 0]],[]⟩ ?_)
 rcases condI h with ⟨hc_3,h⟩ | ⟨hc_3,h⟩
 ·refine Ex.condT _ rfl hc_3 ?_
  refine Ex.seq (rg 4 [2,3] (mkS 20 [(2,.ptr 1 0),(3,i6 r_2)]) ⟨[(C_Float f_1),[i6 0,i6 0]],[]⟩ ?_)
  refine Ex.ret ?_
  obtain rfl:=sJ h
  exact rt (.tup [.agg [i6 0,i6 0],i6 r_2])
 ·refine Ex.condF _ rfl hc_3 ?_
  refine Ex.skip ?_
  refine Ex.seq ?_
  obtain ⟨r_4,hr_4,h⟩:=bE h
  obtain ⟨r_5,hr_5,h⟩:=bE h
  obtain ⟨r_6,hr_6,h⟩:=bE h
  have hT_7 : DoesA Try.prog [⟨32,[(A_Float f_1)],[],(v_br2_Least r_4),[]⟩,⟨31,[(A_Float f_1),(A_br2_Truth r_4)],[],(v_br2_Weighs r_5),[]⟩,⟨33,[(A_Float f_1)],[],(v_br2_Greatest r_6),[]⟩] ∧ ConsA [⟨32,[(A_Float f_1)],[],(v_br2_Least r_4),[]⟩,⟨31,[(A_Float f_1),(A_br2_Truth r_4)],[],(v_br2_Weighs r_5),[]⟩,⟨33,[(A_Float f_1)],[],(v_br2_Greatest r_6),[]⟩]:=⟨⟨(d_br2_Least N f_1 r_4 hr_4),rfl,(d_br2_Weighs N f_1 r_4 r_5 hr_5),rfl,(d_br2_Greatest N f_1 r_6 hr_6),rfl,trivial⟩,⟨⟨ConsR.ne rfl,ConsR.ne rfl,trivial⟩,⟨ConsR.ne rfl,trivial⟩,trivial,trivial⟩⟩
  refine Ex.drawE (a1:=mkS 20 [(1,.ptr 0 0),(2,.ptr 1 0),(4,i6 r_2),(8,.bool (r_2 != 0)),(11,(A_Float f_1)),(12,(A_Float f_1)),(13,(A_br2_Truth r_4)),(14,i6 r_5),(15,(A_Float f_1)),(16,(A_Float f_1)),(17,(A_br2_Truth r_6))]) (tabO_ok hT_7.1) [] [] [] ?_ ?_
  ·refine drS [0, 1] 2 [] [] (mkS 20 [(1, .ptr 0 0), (2, .ptr 1 0), (4, i6 r_2), (8, .bool (r_2 != 0)), (11, (A_Float f_1)), (12, (A_Float f_1))]) (by simp) (by kernel_rfl) trivial (by kernel_rfl) ?_
   refine drC hT_7.2 0 _ [(A_Float f_1)] (v_br2_Least r_4) rfl rfl rfl rfl rfl (fun _ => rfl) rfl (by simp; try rfl) (fun _ => b_br2_Least _ _ _ _) ?_
   refine drC hT_7.2 1 _ [(A_Float f_1),(A_br2_Truth r_4)] (v_br2_Weighs r_5) rfl rfl rfl rfl rfl (fun _ => rfl) rfl (by simp; try rfl) (fun _ => b_br2_Weighs _ _ _ _) ?_
   refine drS [0,1] 2 [] [] (mkS 20 [(1,.ptr 0 0),(2,.ptr 1 0),(4,i6 r_2),(8,.bool (r_2 != 0)),(11,(A_Float f_1)),(12,(A_Float f_1)),(13,(A_br2_Truth r_4)),(14,i6 r_5),(15,(A_Float f_1)),(16,(A_Float f_1))]) (by simp) (by kernel_rfl) trivial (by kernel_rfl) ?_
   refine drC hT_7.2 2 _ [(A_Float f_1)] (v_br2_Greatest r_6) rfl rfl rfl rfl rfl (fun _ => rfl) rfl (by simp; try rfl) (fun _ => b_br2_Greatest _ _ _ _) ?_
   exact DrO.nil rfl
  ·dsimp only [List.getLastD_cons,List.getLastD_nil]
   obtain ⟨r_8,hr_8,h⟩:=bE h
   refine ExO.callL [] [(A_Float f_1),(A_br2_Truth r_6)] rfl rfl (a_br2_Weighs f_1 r_6) rfl rfl (d_br2_Weighs N f_1 r_6 r_8 hr_8) (b_br2_Weighs _ _ _ _) rfl ?_
   refine rn 3 [2,3] (mkS 20 [(2,.ptr 1 0),(3,i6 0)]) ⟨[(C_Float f_1),[i6 r_5,i6 r_8]],[]⟩ ?_
   refine ExO.nil ?_
   refine Ex.ret ?_
   obtain rfl:=sJ h
   exact rt (.tup [.agg [i6 r_5,i6 r_8],i6 0])
def p_br2_Carries (N : Nat) (f_1 : T_Float) (t_2 : T_br2_Truth) : Option (Int × Int):=(letJ (fun (front_3 : Int) (rear_4 : Int) => some (front_3,rear_4)) (fun k_5 => (loop3 (fun rec_11 (front_8 : Int) (rear_9 : Int) (i_10 : Int) => (bif (decide (i_10 < ((t_2.Kilos.length : Nat) : Int))) then ((getI f_1.Loads i_10).bind fun x_15 => ((getI t_2.Kilos i_10).bind fun x_16 => ((getI t_2.Kilos i_10).bind fun x_17 => (rec_11 (IntKind.i64.wrap (front_8 + (IntKind.i64.wrap (x_16 * (IntKind.i64.wrap (f_1.Rear - x_15.At)))))) (IntKind.i64.wrap (rear_9 + (IntKind.i64.wrap (x_17 * (IntKind.i64.wrap (x_15.At - f_1.Front)))))) (IntKind.i64.wrap (i_10 + 1)))))) else (k_5 front_8 rear_9))) N (IntKind.i64.wrap (f_1.Kilos * (IntKind.i64.wrap (f_1.Rear - f_1.Middle)))) (IntKind.i64.wrap (f_1.Kilos * (IntKind.i64.wrap (f_1.Middle - f_1.Front)))) 0)))
def v_br2_Carries (r : Int × Int) : AV:=.tup [i6 r.1,i6 r.2]
attribute [local simp] v_br2_Carries
theorem b_br2_Carries (r : Int × Int) (n n2 m : Nat) : back n n2 m (v_br2_Carries r) = some (v_br2_Carries r):=by simp
theorem d_br2_Carries (N : Nat) (f_1 : T_Float) (t_2 : T_br2_Truth) (r : Int × Int) (h : p_br2_Carries N f_1 t_2 = some r) : Does Try.prog 34 [(A_Float f_1),(A_br2_Truth t_2)] [] fun v c => v = v_br2_Carries r ∧ c = []:=by
 unfold p_br2_Carries at h
 refine Does.ofL comp34 _ _ rfl rfl ?_
 refine Ex.seq (rg 4 [2,3] (mkS 65 [(2,.ptr 0 0),(3,.ptr 1 0)]) ⟨[(C_Float f_1),(C_br2_Truth t_2)],[]⟩ ?_)
 refine Ex.seq ?_
 refine Ex.drawE (a1:=mkS 65 [(2,.ptr 0 0),(3,.ptr 1 0),(6,i6 (IntKind.i64.wrap (f_1.Kilos * (IntKind.i64.wrap (f_1.Rear - f_1.Middle))))),(10,.ptr 0 5),(11,i6 f_1.Kilos),(12,.ptr 0 3),(13,i6 f_1.Rear),(14,.ptr 0 6),(15,i6 f_1.Middle),(16,i6 (IntKind.i64.wrap (f_1.Rear - f_1.Middle))),(17,i6 (IntKind.i64.wrap (f_1.Kilos * (IntKind.i64.wrap (f_1.Rear - f_1.Middle))))),(18,.ptr 0 5),(19,i6 f_1.Kilos),(20,.ptr 0 6),(21,i6 f_1.Middle),(22,.ptr 0 2),(23,i6 f_1.Front),(24,i6 (IntKind.i64.wrap (f_1.Middle - f_1.Front))),(25,i6 (IntKind.i64.wrap (f_1.Kilos * (IntKind.i64.wrap (f_1.Middle - f_1.Front)))))]) (noClr_ok _) [] [] [] ?_ ?_
 ·refine drS [0, 1] 17 [] [] (mkS 65 [(2, .ptr 0 0), (3, .ptr 1 0), (6, i6 (IntKind.i64.wrap (f_1.Kilos * (IntKind.i64.wrap (f_1.Rear - f_1.Middle))))), (10, .ptr 0 5), (11, i6 f_1.Kilos), (12, .ptr 0 3), (13, i6 f_1.Rear), (14, .ptr 0 6), (15, i6 f_1.Middle), (16, i6 (IntKind.i64.wrap (f_1.Rear - f_1.Middle))), (17, i6 (IntKind.i64.wrap (f_1.Kilos * (IntKind.i64.wrap (f_1.Rear - f_1.Middle))))), (18, .ptr 0 5), (19, i6 f_1.Kilos), (20, .ptr 0 6), (21, i6 f_1.Middle), (22, .ptr 0 2), (23, i6 f_1.Front), (24, i6 (IntKind.i64.wrap (f_1.Middle - f_1.Front))), (25, i6 (IntKind.i64.wrap (f_1.Kilos * (IntKind.i64.wrap (f_1.Middle - f_1.Front)))))]) (by simp) (by kernel_rfl) trivial (by kernel_rfl) ?_
  exact DrO.nil rfl
 ·dsimp only [List.getLastD_cons,List.getLastD_nil]
  refine rn 1 [2,3,6,7] (mkS 65 [(2,.ptr 0 0),(3,.ptr 1 0),(6,i6 (IntKind.i64.wrap (f_1.Kilos * (IntKind.i64.wrap (f_1.Rear - f_1.Middle))))),(7,i6 (IntKind.i64.wrap (f_1.Kilos * (IntKind.i64.wrap (f_1.Middle - f_1.Front)))))]) ⟨[(C_Float f_1),(C_br2_Truth t_2)],[]⟩ ?_
  refine ExO.nil ?_
  refine Ex.seq (Ex.seq ?_)
  refine rg 1 [2,3,6,7,8] (mkS 65 [(2,.ptr 0 0),(3,.ptr 1 0),(6,i6 (IntKind.i64.wrap (f_1.Kilos * (IntKind.i64.wrap (f_1.Rear - f_1.Middle))))),(7,i6 (IntKind.i64.wrap (f_1.Kilos * (IntKind.i64.wrap (f_1.Middle - f_1.Front))))),(8,i6 0)]) ⟨[(C_Float f_1),(C_br2_Truth t_2)],[]⟩ ?_
  obtain ⟨K_6,hK_7,h⟩:=letE h
  refine Ex.blockJ (fun a S => ∃ (front_3 : Int),∃ (rear_4 : Int),K_6 front_3 rear_4 = some r ∧ a = mkS 65 [(6,i6 front_3),(7,i6 rear_4)] ∧ S = ⟨[],[]⟩) ?_ ?_
  ·obtain ⟨B_12,hB_13,h⟩:=loop3I h
   refine Ex.loopF (fun k a S => ∃ (front_8 : Int),∃ (rear_9 : Int),∃ (i_10 : Int),loop3 B_12 k front_8 rear_9 i_10 = some r ∧ a = mkS 65 [(2,.ptr 0 0),(3,.ptr 1 0),(6,i6 front_8),(7,i6 rear_9),(8,i6 i_10)] ∧ S = ⟨[(C_Float f_1),(C_br2_Truth t_2)],[]⟩) N ⟨_,_,Forgets.refl _ _ _,(IntKind.i64.wrap (f_1.Kilos * (IntKind.i64.wrap (f_1.Rear - f_1.Middle)))),(IntKind.i64.wrap (f_1.Kilos * (IntKind.i64.wrap (f_1.Middle - f_1.Front)))),0,h,rfl,rfl⟩ ?_
   rintro k a S ⟨front_8,rear_9,i_10,h,rfl,rfl⟩
   cases k with
   | zero => exact (loop3Z h).elim
   | succ k =>
    replace h:=loop3S h hB_13
    refine Ex.seq (Ex.seq ?_)
    refine regH 5 [(3,.eq (i6 ((t_2.Kilos.length : Nat) : Int)))] [2,3,6,7,8,30] [AV.int .i64 (((t_2.Kilos.map (AV.int .i64)).length : Nat) : Int) = AV.int .i64 ((t_2.Kilos.length : Nat) : Int)] (mkS 65 [(2,.ptr 0 0),(3,.ptr 1 0),(6,i6 front_8),(7,i6 rear_9),(8,i6 i_10),(30,.bool (decide (i_10 < ((t_2.Kilos.length : Nat) : Int))))]) (⟨[(C_Float f_1),(C_br2_Truth t_2)],[]⟩) (by kernel_rfl) ⟨lenM _ _,trivial⟩ rfl ?_
    rcases condI h with ⟨hc_14,h⟩ | ⟨hc_14,h⟩
    ·refine Ex.condT _ rfl hc_14 ?_
     refine Ex.skip ?_
     refine Ex.seq ?_
     refine Ex.blockK ?_
     refine Ex.seq ?_
     obtain ⟨x_15,hx_15,h⟩:=bE h
     refine regH 7 [(3,.rop (C_Load x_15))] [2,3,6,7,8,9] [LGet (f_1.Loads.map A_Load) i_10 7 (C_Load x_15)] (mkS 65 [(2,.ptr 0 0),(3,.ptr 1 0),(6,i6 front_8),(7,i6 rear_9),(8,i6 i_10),(9,i6 x_15.At)]) (⟨[(C_Float f_1),(C_br2_Truth t_2)],[]⟩) (by kernel_rfl) ⟨LGet.of hx_15 rfl,trivial⟩ rfl ?_
     obtain ⟨x_16,hx_16,h⟩:=bE h
     obtain ⟨x_17,hx_17,h⟩:=bE h
     refine Ex.drawE (a1:=mkS 65 [(2,.ptr 0 0),(3,.ptr 1 0),(6,i6 (IntKind.i64.wrap (front_8 + (IntKind.i64.wrap (x_16 * (IntKind.i64.wrap (f_1.Rear - x_15.At))))))),(7,i6 rear_9),(8,i6 i_10),(9,i6 x_15.At),(39,i6 front_8),(40,.ptr 1 0),(41,.sl (t_2.Kilos.map (AV.int .i64)) none),(42,i6 i_10),(43,.rop [i6 x_16]),(44,i6 x_16),(45,.ptr 0 3),(46,i6 f_1.Rear),(47,i6 x_15.At),(48,i6 (IntKind.i64.wrap (f_1.Rear - x_15.At))),(49,i6 (IntKind.i64.wrap (x_16 * (IntKind.i64.wrap (f_1.Rear - x_15.At))))),(50,i6 (IntKind.i64.wrap (front_8 + (IntKind.i64.wrap (x_16 * (IntKind.i64.wrap (f_1.Rear - x_15.At))))))),(51,i6 rear_9),(52,.ptr 1 0),(53,.sl (t_2.Kilos.map (AV.int .i64)) none),(54,i6 i_10),(55,.rop [i6 x_17]),(56,i6 x_17),(57,i6 x_15.At),(58,.ptr 0 2),(59,i6 f_1.Front),(60,i6 (IntKind.i64.wrap (x_15.At - f_1.Front))),(61,i6 (IntKind.i64.wrap (x_17 * (IntKind.i64.wrap (x_15.At - f_1.Front))))),(62,i6 (IntKind.i64.wrap (rear_9 + (IntKind.i64.wrap (x_17 * (IntKind.i64.wrap (x_15.At - f_1.Front)))))))]) (noClr_ok _) [] [] [] ?_ ?_
     ·refine drS [0, 1] 25 [(4, .rop [i6 x_16]), (16, .rop [i6 x_17])] [LGet (t_2.Kilos.map (AV.int .i64)) i_10 1 [i6 x_16], LGet (t_2.Kilos.map (AV.int .i64)) i_10 1 [i6 x_17]] (mkS 65 [(2, .ptr 0 0), (3, .ptr 1 0), (6, i6 (IntKind.i64.wrap (front_8 + (IntKind.i64.wrap (x_16 * (IntKind.i64.wrap (f_1.Rear - x_15.At))))))), (7, i6 rear_9), (8, i6 i_10), (9, i6 x_15.At), (39, i6 front_8), (40, .ptr 1 0), (41, .sl (t_2.Kilos.map (AV.int .i64)) none), (42, i6 i_10), (43, .rop [i6 x_16]), (44, i6 x_16), (45, .ptr 0 3), (46, i6 f_1.Rear), (47, i6 x_15.At), (48, i6 (IntKind.i64.wrap (f_1.Rear - x_15.At))), (49, i6 (IntKind.i64.wrap (x_16 * (IntKind.i64.wrap (f_1.Rear - x_15.At))))), (50, i6 (IntKind.i64.wrap (front_8 + (IntKind.i64.wrap (x_16 * (IntKind.i64.wrap (f_1.Rear - x_15.At))))))), (51, i6 rear_9), (52, .ptr 1 0), (53, .sl (t_2.Kilos.map (AV.int .i64)) none), (54, i6 i_10), (55, .rop [i6 x_17]), (56, i6 x_17), (57, i6 x_15.At), (58, .ptr 0 2), (59, i6 f_1.Front), (60, i6 (IntKind.i64.wrap (x_15.At - f_1.Front))), (61, i6 (IntKind.i64.wrap (x_17 * (IntKind.i64.wrap (x_15.At - f_1.Front))))), (62, i6 (IntKind.i64.wrap (rear_9 + (IntKind.i64.wrap (x_17 * (IntKind.i64.wrap (x_15.At - f_1.Front)))))))]) (by simp) (by kernel_rfl) ⟨LGet.of hx_16 rfl, LGet.of hx_17 rfl, trivial⟩ (by kernel_rfl) ?_
      exact DrO.nil rfl
     ·dsimp only [List.getLastD_cons,List.getLastD_nil]
      refine rn 1 [2,3,6,7,8] (mkS 65 [(2,.ptr 0 0),(3,.ptr 1 0),(6,i6 (IntKind.i64.wrap (front_8 + (IntKind.i64.wrap (x_16 * (IntKind.i64.wrap (f_1.Rear - x_15.At))))))),(7,i6 (IntKind.i64.wrap (rear_9 + (IntKind.i64.wrap (x_17 * (IntKind.i64.wrap (x_15.At - f_1.Front))))))),(8,i6 i_10)]) ⟨[(C_Float f_1),(C_br2_Truth t_2)],[]⟩ ?_
      refine ExO.nil ?_
      refine rg 3 [2,3,6,7,8] (mkS 65 [(2,.ptr 0 0),(3,.ptr 1 0),(6,i6 (IntKind.i64.wrap (front_8 + (IntKind.i64.wrap (x_16 * (IntKind.i64.wrap (f_1.Rear - x_15.At))))))),(7,i6 (IntKind.i64.wrap (rear_9 + (IntKind.i64.wrap (x_17 * (IntKind.i64.wrap (x_15.At - f_1.Front))))))),(8,i6 (IntKind.i64.wrap (i_10 + 1)))]) ⟨[(C_Float f_1),(C_br2_Truth t_2)],[]⟩ ?_
      dsimp only
      exact ⟨_,_,Forgets.refl _ _ _,k,Nat.lt_succ_self k,(IntKind.i64.wrap (front_8 + (IntKind.i64.wrap (x_16 * (IntKind.i64.wrap (f_1.Rear - x_15.At)))))),(IntKind.i64.wrap (rear_9 + (IntKind.i64.wrap (x_17 * (IntKind.i64.wrap (x_15.At - f_1.Front)))))),(IntKind.i64.wrap (i_10 + 1)),h,rfl,rfl⟩
    ·refine Ex.condF _ rfl hc_14 ?_
     refine Ex.exit ?_
     (try simp only [reduceCtorEq,AEx.ex.injEq,Nat.reduceEqDiff,if_true,if_false])
     exact ⟨_,_,forgetA (m:=65) 0 [] [(6,i6 front_8),(7,i6 rear_9)] [] [] (by simp [setAll]) (by simp) ⟨rfl,rfl,trivial⟩ (by simp) rfl (by decide),front_8,rear_9,h,rfl,rfl⟩
  ·rintro a S ⟨front_3,rear_4,h,rfl,rfl⟩
   subst hK_7
   refine Ex.seq (rg 4 [4,5] (mkS 65 [(4,i6 front_3),(5,i6 rear_4)]) ⟨[],[]⟩ ?_)
   refine Ex.ret ?_
   obtain rfl:=sJ h
   exact rt (.tup [i6 front_3,i6 rear_4])
def p_br2_Down (N : Nat) (n_1 : Int) (d_2 : Int) : Option (Int):=((nzI d_2).bind fun u_3 => ((nzI d_2).bind fun u_4 => (bif (decide ((Int.tmod n_1 d_2) < 0)) then some (IntKind.i64.wrap ((IntKind.i64.wrap (Int.tdiv n_1 d_2)) - 1)) else some (IntKind.i64.wrap (Int.tdiv n_1 d_2)))))
def v_br2_Down (r : Int) : AV:=i6 r
attribute [local simp] v_br2_Down
theorem a_br2_Down (n_1 : Int) (d_2 : Int) : [i6 n_1,i6 d_2].mapM (ren []) = some [i6 n_1,i6 d_2]:=by simp
theorem b_br2_Down (r : Int) (n n2 m : Nat) : back n n2 m (v_br2_Down r) = some (v_br2_Down r):=by simp
theorem d_br2_Down (N : Nat) (n_1 : Int) (d_2 : Int) (r : Int) (h : p_br2_Down N n_1 d_2 = some r) : Does Try.prog 35 [i6 n_1,i6 d_2] [] fun v c => v = v_br2_Down r ∧ c = []:=by
 unfold p_br2_Down at h
 refine Does.ofL comp35 _ _ rfl rfl ?_
 refine Ex.seq (rg 1 [0,1] (mkS 16 [(0,i6 n_1),(1,i6 d_2)]) ⟨[],[]⟩ ?_)
 refine Ex.seq ?_
 obtain ⟨u_3,hu_3,h⟩:=bE h
 refine regH 4 [(2,.bin (i6 (IntKind.i64.wrap (Int.tdiv n_1 d_2))))] [0,1,5] [binA .quo (i6 n_1) (i6 d_2) = some (i6 (IntKind.i64.wrap (Int.tdiv n_1 d_2)))] (mkS 16 [(0,i6 n_1),(1,i6 d_2),(5,i6 (IntKind.i64.wrap (Int.tdiv n_1 d_2)))]) (⟨[],[]⟩) (by kernel_rfl) ⟨binQ hu_3,trivial⟩ rfl ?_
 refine Ex.seq (Ex.seq ?_)
 obtain ⟨u_4,hu_4,h⟩:=bE h
 refine regH 4 [(2,.bin (i6 (Int.tmod n_1 d_2)))] [5,12] [binA .rem (i6 n_1) (i6 d_2) = some (i6 (Int.tmod n_1 d_2))] (mkS 16 [(5,i6 (IntKind.i64.wrap (Int.tdiv n_1 d_2))),(12,.bool (decide ((Int.tmod n_1 d_2) < 0)))]) (⟨[],[]⟩) (by kernel_rfl) ⟨binR hu_4,trivial⟩ rfl ?_
 rcases condI h with ⟨hc_5,h⟩ | ⟨hc_5,h⟩
 ·refine Ex.condT _ rfl hc_5 ?_
  refine rg 3 [5] (mkS 16 [(5,i6 (IntKind.i64.wrap ((IntKind.i64.wrap (Int.tdiv n_1 d_2)) - 1)))]) ⟨[],[]⟩ ?_
  refine Ex.seq (rg 2 [4] (mkS 16 [(4,i6 (IntKind.i64.wrap ((IntKind.i64.wrap (Int.tdiv n_1 d_2)) - 1)))]) ⟨[],[]⟩ ?_)
  refine Ex.ret ?_
  obtain rfl:=sJ h
  exact rt (i6 (IntKind.i64.wrap ((IntKind.i64.wrap (Int.tdiv n_1 d_2)) - 1)))
 ·refine Ex.condF _ rfl hc_5 ?_
  refine Ex.skip ?_
  refine Ex.seq (rg 2 [4] (mkS 16 [(4,i6 (IntKind.i64.wrap (Int.tdiv n_1 d_2)))]) ⟨[],[]⟩ ?_)
  refine Ex.ret ?_
  obtain rfl:=sJ h
  exact rt (i6 (IntKind.i64.wrap (Int.tdiv n_1 d_2)))
def p_br2_Up (N : Nat) (n_1 : Int) (d_2 : Int) : Option (Int):=((p_br2_Down N (IntKind.i64.wrap (0 - n_1)) d_2).bind fun r_3 => some (IntKind.i64.wrap (0 - r_3)))
def v_br2_Up (r : Int) : AV:=i6 r
attribute [local simp] v_br2_Up
theorem a_br2_Up (n_1 : Int) (d_2 : Int) : [i6 n_1,i6 d_2].mapM (ren []) = some [i6 n_1,i6 d_2]:=by simp
theorem b_br2_Up (r : Int) (n n2 m : Nat) : back n n2 m (v_br2_Up r) = some (v_br2_Up r):=by simp
theorem d_br2_Up (N : Nat) (n_1 : Int) (d_2 : Int) (r : Int) (h : p_br2_Up N n_1 d_2 = some r) : Does Try.prog 36 [i6 n_1,i6 d_2] [] fun v c => v = v_br2_Up r ∧ c = []:=by
 unfold p_br2_Up at h
 refine Does.ofL comp36 _ _ rfl rfl ?_
 refine Ex.seq (rg 1 [0,1] (mkS 10 [(0,i6 n_1),(1,i6 d_2)]) ⟨[],[]⟩ ?_)
 refine Ex.seq ?_
 obtain ⟨r_3,hr_3,h⟩:=bE h
 refine Ex.reg (rn 3 [6,7] (mkS 10 [(6,i6 (IntKind.i64.wrap (0 - n_1))),(7,i6 d_2)]) ⟨[],[]⟩ ?_)
 refine ExO.callL [] [i6 (IntKind.i64.wrap (0 - n_1)),i6 d_2] rfl rfl (a_br2_Down (IntKind.i64.wrap (0 - n_1)) d_2) rfl rfl (d_br2_Down N (IntKind.i64.wrap (0 - n_1)) d_2 r_3 hr_3) (b_br2_Down _ _ _ _) rfl ?_
 refine rn 2 [4] (mkS 10 [(4,i6 (IntKind.i64.wrap (0 - r_3)))]) ⟨[],[]⟩ ?_
 refine ExO.nil ?_
 refine Ex.ret ?_
 obtain rfl:=sJ h
 exact rt (i6 (IntKind.i64.wrap (0 - r_3)))
def p_br2_Axles (N : Nat) (f_1 : T_Float) : Option (T_Span × T_Span × Int):=((p_br2_Check N f_1).bind fun r_2 => (bif (r_2 != 0) then some ((⟨0,0⟩ : T_Span),(⟨0,0⟩ : T_Span),r_2) else ((p_br2_Least N f_1).bind fun r_4 => ((p_br2_Carries N f_1 r_4).bind fun r_5 => ((p_br2_Greatest N f_1).bind fun r_7 => ((p_br2_Carries N f_1 r_7).bind fun r_8 => ((p_br2_Down N r_5.1 (IntKind.i64.wrap (f_1.Rear - f_1.Front))).bind fun r_10 => ((p_br2_Up N r_8.1 (IntKind.i64.wrap (f_1.Rear - f_1.Front))).bind fun r_11 => ((p_br2_Down N r_5.2 (IntKind.i64.wrap (f_1.Rear - f_1.Front))).bind fun r_12 => ((p_br2_Up N r_8.2 (IntKind.i64.wrap (f_1.Rear - f_1.Front))).bind fun r_13 => some ((⟨r_10,r_11⟩ : T_Span),(⟨r_12,r_13⟩ : T_Span),0)))))))))))
def v_br2_Axles (r : T_Span × T_Span × Int) : AV:=.tup [(A_Span r.1),(A_Span r.2.1),i6 r.2.2]
attribute [local simp] v_br2_Axles
theorem a_br2_Axles (f_1 : T_Float) : [(A_Float f_1)].mapM (ren []) = some [(A_Float f_1)]:=by simp
theorem b_br2_Axles (r : T_Span × T_Span × Int) (n n2 m : Nat) : back n n2 m (v_br2_Axles r) = some (v_br2_Axles r):=by simp
theorem d_br2_Axles (N : Nat) (f_1 : T_Float) (r : T_Span × T_Span × Int) (h : p_br2_Axles N f_1 = some r) : Does Try.prog 17 [(A_Float f_1)] [] fun v c => v = v_br2_Axles r ∧ c = []:=by
 unfold p_br2_Axles at h
 refine Does.ofL comp17 _ _ rfl rfl ?_
 refine Ex.seq (rg 4 [1,2,3] (mkS 51 [(1,.ptr 0 0),(2,.ptr 1 0),(3,.ptr 2 0)]) ⟨[(C_Float f_1),[i6 0,i6 0],[i6 0,i6 0]],[]⟩ ?_)
 refine Ex.seq (Ex.seq ?_)
 obtain ⟨r_2,hr_2,h⟩:=bE h
 refine Ex.reg (rn 1 [1,2,3,11] (mkS 51 [(1,.ptr 0 0),(2,.ptr 1 0),(3,.ptr 2 0),(11,(A_Float f_1))]) ⟨[(C_Float f_1),[i6 0,i6 0],[i6 0,i6 0]],[]⟩ ?_)
 refine ExO.callL [] [(A_Float f_1)] rfl rfl (a_br2_Check f_1) rfl rfl (d_br2_Check N f_1 r_2 hr_2) (b_br2_Check _ _ _ _) rfl ?_
 refine rn 1 [1,2,3,5] (mkS 51 [(1,.ptr 0 0),(2,.ptr 1 0),(3,.ptr 2 0),(5,i6 r_2)]) ⟨[(C_Float f_1),[i6 0,i6 0],[i6 0,i6 0]],[]⟩ ?_
 refine ExO.nil ?_
 refine Ex.seq (rg 2 [1,2,3,5,14] (mkS 51 [(1,.ptr 0 0),(2,.ptr 1 0),(3,.ptr 2 0),(5,i6 r_2),(14,.bool (r_2 != 0))]) ⟨[(C_Float f_1),[i6 0,i6 0],[i6 0,i6 0]],[]⟩ ?_)
 rcases condI h with ⟨hc_3,h⟩ | ⟨hc_3,h⟩
 ·refine Ex.condT _ rfl hc_3 ?_
  refine Ex.seq (rg 6 [2,3,4] (mkS 51 [(2,.ptr 1 0),(3,.ptr 2 0),(4,i6 r_2)]) ⟨[(C_Float f_1),[i6 0,i6 0],[i6 0,i6 0]],[]⟩ ?_)
  refine Ex.ret ?_
  obtain rfl:=sJ h
  exact rt (.tup [.agg [i6 0,i6 0],.agg [i6 0,i6 0],i6 r_2])
 ·refine Ex.condF _ rfl hc_3 ?_
  refine Ex.skip ?_
  refine Ex.seq ?_
  obtain ⟨r_4,hr_4,h⟩:=bE h
  obtain ⟨r_5,hr_5,h⟩:=bE h
  have hT_6 : DoesA Try.prog [⟨32,[(A_Float f_1)],[],(v_br2_Least r_4),[]⟩,⟨34,[(A_Float f_1),(A_br2_Truth r_4)],[],(v_br2_Carries r_5),[]⟩] ∧ ConsA [⟨32,[(A_Float f_1)],[],(v_br2_Least r_4),[]⟩,⟨34,[(A_Float f_1),(A_br2_Truth r_4)],[],(v_br2_Carries r_5),[]⟩]:=⟨⟨(d_br2_Least N f_1 r_4 hr_4),rfl,(d_br2_Carries N f_1 r_4 r_5 hr_5),rfl,trivial⟩,⟨⟨ConsR.ne rfl,trivial⟩,trivial,trivial⟩⟩
  refine Ex.drawE (a1:=mkS 51 [(1,.ptr 0 0),(2,.ptr 1 0),(3,.ptr 2 0),(5,i6 r_2),(6,i6 r_5.1),(14,.bool (r_2 != 0)),(18,.tup [i6 r_5.1,i6 r_5.2]),(19,(A_Float f_1)),(20,(A_Float f_1)),(21,(A_br2_Truth r_4)),(22,.tup [i6 r_5.1,i6 r_5.2]),(23,i6 r_5.1),(24,i6 r_5.2)]) (tabO_ok hT_6.1) [] [] [] ?_ ?_
  ·refine drS [0, 1, 2] 2 [] [] (mkS 51 [(1, .ptr 0 0), (2, .ptr 1 0), (3, .ptr 2 0), (5, i6 r_2), (14, .bool (r_2 != 0)), (19, (A_Float f_1)), (20, (A_Float f_1))]) (by simp) (by kernel_rfl) trivial (by kernel_rfl) ?_
   refine drC hT_6.2 0 _ [(A_Float f_1)] (v_br2_Least r_4) rfl rfl rfl rfl rfl (fun _ => rfl) rfl (by simp; try rfl) (fun _ => b_br2_Least _ _ _ _) ?_
   refine drC hT_6.2 1 _ [(A_Float f_1),(A_br2_Truth r_4)] (v_br2_Carries r_5) rfl rfl rfl rfl rfl (fun _ => rfl) rfl (by simp; try rfl) (fun _ => b_br2_Carries _ _ _ _) ?_
   refine drS [0,1,2] 4 [] [] (mkS 51 [(1,.ptr 0 0),(2,.ptr 1 0),(3,.ptr 2 0),(5,i6 r_2),(6,i6 r_5.1),(14,.bool (r_2 != 0)),(18,.tup [i6 r_5.1,i6 r_5.2]),(19,(A_Float f_1)),(20,(A_Float f_1)),(21,(A_br2_Truth r_4)),(22,.tup [i6 r_5.1,i6 r_5.2]),(23,i6 r_5.1),(24,i6 r_5.2)]) (by simp) (by kernel_rfl) trivial (by kernel_rfl) ?_
   exact DrO.nil rfl
  ·dsimp only [List.getLastD_cons,List.getLastD_nil]
   refine rn 1 [1,2,3,6,7] (mkS 51 [(1,.ptr 0 0),(2,.ptr 1 0),(3,.ptr 2 0),(6,i6 r_5.1),(7,i6 r_5.2)]) ⟨[(C_Float f_1),[i6 0,i6 0],[i6 0,i6 0]],[]⟩ ?_
   refine ExO.nil ?_
   refine Ex.seq ?_
   obtain ⟨r_7,hr_7,h⟩:=bE h
   obtain ⟨r_8,hr_8,h⟩:=bE h
   have hT_9 : DoesA Try.prog [⟨33,[(A_Float f_1)],[],(v_br2_Greatest r_7),[]⟩,⟨34,[(A_Float f_1),(A_br2_Truth r_7)],[],(v_br2_Carries r_8),[]⟩] ∧ ConsA [⟨33,[(A_Float f_1)],[],(v_br2_Greatest r_7),[]⟩,⟨34,[(A_Float f_1),(A_br2_Truth r_7)],[],(v_br2_Carries r_8),[]⟩]:=⟨⟨(d_br2_Greatest N f_1 r_7 hr_7),rfl,(d_br2_Carries N f_1 r_7 r_8 hr_8),rfl,trivial⟩,⟨⟨ConsR.ne rfl,trivial⟩,trivial,trivial⟩⟩
   refine Ex.drawE (a1:=mkS 51 [(1,.ptr 0 0),(2,.ptr 1 0),(3,.ptr 2 0),(6,i6 r_5.1),(7,i6 r_5.2),(8,i6 r_8.1),(25,.tup [i6 r_8.1,i6 r_8.2]),(26,(A_Float f_1)),(27,(A_Float f_1)),(28,(A_br2_Truth r_7)),(29,.tup [i6 r_8.1,i6 r_8.2]),(30,i6 r_8.1),(31,i6 r_8.2)]) (tabO_ok hT_9.1) [] [] [] ?_ ?_
   ·refine drS [0, 1, 2] 2 [] [] (mkS 51 [(1, .ptr 0 0), (2, .ptr 1 0), (3, .ptr 2 0), (6, i6 r_5.1), (7, i6 r_5.2), (26, (A_Float f_1)), (27, (A_Float f_1))]) (by simp) (by kernel_rfl) trivial (by kernel_rfl) ?_
    refine drC hT_9.2 0 _ [(A_Float f_1)] (v_br2_Greatest r_7) rfl rfl rfl rfl rfl (fun _ => rfl) rfl (by simp; try rfl) (fun _ => b_br2_Greatest _ _ _ _) ?_
    refine drC hT_9.2 1 _ [(A_Float f_1),(A_br2_Truth r_7)] (v_br2_Carries r_8) rfl rfl rfl rfl rfl (fun _ => rfl) rfl (by simp; try rfl) (fun _ => b_br2_Carries _ _ _ _) ?_
    refine drS [0,1,2] 4 [] [] (mkS 51 [(1,.ptr 0 0),(2,.ptr 1 0),(3,.ptr 2 0),(6,i6 r_5.1),(7,i6 r_5.2),(8,i6 r_8.1),(25,.tup [i6 r_8.1,i6 r_8.2]),(26,(A_Float f_1)),(27,(A_Float f_1)),(28,(A_br2_Truth r_7)),(29,.tup [i6 r_8.1,i6 r_8.2]),(30,i6 r_8.1),(31,i6 r_8.2)]) (by simp) (by kernel_rfl) trivial (by kernel_rfl) ?_
    exact DrO.nil rfl
   ·dsimp only [List.getLastD_cons,List.getLastD_nil]
    refine rn 1 [1,2,3,6,7,8,9] (mkS 51 [(1,.ptr 0 0),(2,.ptr 1 0),(3,.ptr 2 0),(6,i6 r_5.1),(7,i6 r_5.2),(8,i6 r_8.1),(9,i6 r_8.2)]) ⟨[(C_Float f_1),[i6 0,i6 0],[i6 0,i6 0]],[]⟩ ?_
    refine ExO.nil ?_
    refine Ex.seq (rg 6 [2,3,6,7,8,9,10] (mkS 51 [(2,.ptr 1 0),(3,.ptr 2 0),(6,i6 r_5.1),(7,i6 r_5.2),(8,i6 r_8.1),(9,i6 r_8.2),(10,i6 (IntKind.i64.wrap (f_1.Rear - f_1.Front)))]) ⟨[(C_Float f_1),[i6 0,i6 0],[i6 0,i6 0]],[]⟩ ?_)
    refine Ex.seq ?_
    obtain ⟨r_10,hr_10,h⟩:=bE h
    refine Ex.reg (rn 2 [2,3,7,8,9,10,37,38] (mkS 51 [(2,.ptr 1 0),(3,.ptr 2 0),(7,i6 r_5.2),(8,i6 r_8.1),(9,i6 r_8.2),(10,i6 (IntKind.i64.wrap (f_1.Rear - f_1.Front))),(37,i6 r_5.1),(38,i6 (IntKind.i64.wrap (f_1.Rear - f_1.Front)))]) ⟨[(C_Float f_1),[i6 0,i6 0],[i6 0,i6 0]],[]⟩ ?_)
    refine ExO.callL [] [i6 r_5.1,i6 (IntKind.i64.wrap (f_1.Rear - f_1.Front))] rfl rfl (a_br2_Down r_5.1 (IntKind.i64.wrap (f_1.Rear - f_1.Front))) rfl rfl (d_br2_Down N r_5.1 (IntKind.i64.wrap (f_1.Rear - f_1.Front)) r_10 hr_10) (b_br2_Down _ _ _ _) rfl ?_
    obtain ⟨r_11,hr_11,h⟩:=bE h
    refine rn 2 [2,3,7,9,10,39,40,41] (mkS 51 [(2,.ptr 1 0),(3,.ptr 2 0),(7,i6 r_5.2),(9,i6 r_8.2),(10,i6 (IntKind.i64.wrap (f_1.Rear - f_1.Front))),(39,i6 r_10),(40,i6 r_8.1),(41,i6 (IntKind.i64.wrap (f_1.Rear - f_1.Front)))]) ⟨[(C_Float f_1),[i6 0,i6 0],[i6 0,i6 0]],[]⟩ ?_
    refine ExO.callL [] [i6 r_8.1,i6 (IntKind.i64.wrap (f_1.Rear - f_1.Front))] rfl rfl (a_br2_Up r_8.1 (IntKind.i64.wrap (f_1.Rear - f_1.Front))) rfl rfl (d_br2_Up N r_8.1 (IntKind.i64.wrap (f_1.Rear - f_1.Front)) r_11 hr_11) (b_br2_Up _ _ _ _) rfl ?_
    obtain ⟨r_12,hr_12,h⟩:=bE h
    refine rn 3 [2,3,9,10,43,44,45] (mkS 51 [(2,.ptr 1 0),(3,.ptr 2 0),(9,i6 r_8.2),(10,i6 (IntKind.i64.wrap (f_1.Rear - f_1.Front))),(43,.agg [i6 r_10,i6 r_11]),(44,i6 r_5.2),(45,i6 (IntKind.i64.wrap (f_1.Rear - f_1.Front)))]) ⟨[(C_Float f_1),[i6 0,i6 0],[i6 0,i6 0]],[]⟩ ?_
    refine ExO.callL [] [i6 r_5.2,i6 (IntKind.i64.wrap (f_1.Rear - f_1.Front))] rfl rfl (a_br2_Down r_5.2 (IntKind.i64.wrap (f_1.Rear - f_1.Front))) rfl rfl (d_br2_Down N r_5.2 (IntKind.i64.wrap (f_1.Rear - f_1.Front)) r_12 hr_12) (b_br2_Down _ _ _ _) rfl ?_
    obtain ⟨r_13,hr_13,h⟩:=bE h
    refine rn 2 [2,3,43,46,47,48] (mkS 51 [(2,.ptr 1 0),(3,.ptr 2 0),(43,.agg [i6 r_10,i6 r_11]),(46,i6 r_12),(47,i6 r_8.2),(48,i6 (IntKind.i64.wrap (f_1.Rear - f_1.Front)))]) ⟨[(C_Float f_1),[i6 0,i6 0],[i6 0,i6 0]],[]⟩ ?_
    refine ExO.callL [] [i6 r_8.2,i6 (IntKind.i64.wrap (f_1.Rear - f_1.Front))] rfl rfl (a_br2_Up r_8.2 (IntKind.i64.wrap (f_1.Rear - f_1.Front))) rfl rfl (d_br2_Up N r_8.2 (IntKind.i64.wrap (f_1.Rear - f_1.Front)) r_13 hr_13) (b_br2_Up _ _ _ _) rfl ?_
    refine rn 4 [2,3,4] (mkS 51 [(2,.ptr 1 0),(3,.ptr 2 0),(4,i6 0)]) ⟨[(C_Float f_1),[i6 r_10,i6 r_11],[i6 r_12,i6 r_13]],[]⟩ ?_
    refine ExO.nil ?_
    refine Ex.ret ?_
    obtain rfl:=sJ h
    exact rt (.tup [.agg [i6 r_10,i6 r_11],.agg [i6 r_12,i6 r_13],i6 0])
def p_br2_Tall (N : Nat) (f_1 : T_Float) (t_2 : T_br2_Truth) : Option (Int):=(letJ (fun (n_3 : Int) => some n_3) (fun k_4 => (loop2 (fun rec_9 (n_7 : Int) (i_8 : Int) => (bif (decide (i_8 < ((t_2.Tops.length : Nat) : Int))) then ((getI t_2.Tops i_8).bind fun x_13 => (rec_9 (if x_13 > n_7 then x_13 else n_7) (IntKind.i64.wrap (i_8 + 1)))) else (k_4 n_7))) N f_1.High 0)))
def v_br2_Tall (r : Int) : AV:=i6 r
attribute [local simp] v_br2_Tall
theorem a_br2_Tall (f_1 : T_Float) (t_2 : T_br2_Truth) : [(A_Float f_1),(A_br2_Truth t_2)].mapM (ren []) = some [(A_Float f_1),(A_br2_Truth t_2)]:=by simp
theorem b_br2_Tall (r : Int) (n n2 m : Nat) : back n n2 m (v_br2_Tall r) = some (v_br2_Tall r):=by simp
theorem d_br2_Tall (N : Nat) (f_1 : T_Float) (t_2 : T_br2_Truth) (r : Int) (h : p_br2_Tall N f_1 t_2 = some r) : Does Try.prog 37 [(A_Float f_1),(A_br2_Truth t_2)] [] fun v c => v = v_br2_Tall r ∧ c = []:=by
 unfold p_br2_Tall at h
 refine Does.ofL comp37 _ _ rfl rfl ?_
 refine Ex.seq (rg 3 [2,3] (mkS 24 [(2,.ptr 0 0),(3,.ptr 1 0)]) ⟨[(C_Float f_1),(C_br2_Truth t_2)],[]⟩ ?_)
 refine Ex.seq (rg 3 [3,5] (mkS 24 [(3,.ptr 1 0),(5,i6 f_1.High)]) ⟨[(C_Float f_1),(C_br2_Truth t_2)],[]⟩ ?_)
 refine Ex.seq (Ex.seq ?_)
 refine rg 1 [3,5,6] (mkS 24 [(3,.ptr 1 0),(5,i6 f_1.High),(6,i6 0)]) ⟨[(C_Float f_1),(C_br2_Truth t_2)],[]⟩ ?_
 obtain ⟨K_5,hK_6,h⟩:=letE h
 refine Ex.blockJ (fun a S => ∃ (n_3 : Int),K_5 n_3 = some r ∧ a = mkS 24 [(5,i6 n_3)] ∧ S = ⟨[],[]⟩) ?_ ?_
 ·obtain ⟨B_10,hB_11,h⟩:=loop2I h
  refine Ex.loopF (fun k a S => ∃ (n_7 : Int),∃ (i_8 : Int),loop2 B_10 k n_7 i_8 = some r ∧ a = mkS 24 [(3,.ptr 1 0),(5,i6 n_7),(6,i6 i_8)] ∧ S = ⟨[(C_Float f_1),(C_br2_Truth t_2)],[]⟩) N ⟨_,_,Forgets.refl _ _ _,f_1.High,0,h,rfl,rfl⟩ ?_
  rintro k a S ⟨n_7,i_8,h,rfl,rfl⟩
  cases k with
  | zero => exact (loop2Z h).elim
  | succ k =>
   replace h:=loop2S h hB_11
   refine Ex.seq (Ex.seq ?_)
   refine regH 5 [(3,.eq (i6 ((t_2.Tops.length : Nat) : Int)))] [3,5,6,13] [AV.int .i64 (((t_2.Tops.map (AV.int .i64)).length : Nat) : Int) = AV.int .i64 ((t_2.Tops.length : Nat) : Int)] (mkS 24 [(3,.ptr 1 0),(5,i6 n_7),(6,i6 i_8),(13,.bool (decide (i_8 < ((t_2.Tops.length : Nat) : Int))))]) (⟨[(C_Float f_1),(C_br2_Truth t_2)],[]⟩) (by kernel_rfl) ⟨lenM _ _,trivial⟩ rfl ?_
   rcases condI h with ⟨hc_12,h⟩ | ⟨hc_12,h⟩
   ·refine Ex.condT _ rfl hc_12 ?_
    refine Ex.skip ?_
    refine Ex.seq ?_
    refine Ex.blockK ?_
    obtain ⟨x_13,hx_13,h⟩:=bE h
    refine regH 8 [(4,.rop [i6 x_13])] [3,5,6] [LGet (t_2.Tops.map (AV.int .i64)) i_8 1 [i6 x_13]] (mkS 24 [(3,.ptr 1 0),(5,i6 (if x_13 > n_7 then x_13 else n_7)),(6,i6 i_8)]) (⟨[(C_Float f_1),(C_br2_Truth t_2)],[]⟩) (by kernel_rfl) ⟨LGet.of hx_13 rfl,trivial⟩ rfl ?_
    refine rg 3 [3,5,6] (mkS 24 [(3,.ptr 1 0),(5,i6 (if x_13 > n_7 then x_13 else n_7)),(6,i6 (IntKind.i64.wrap (i_8 + 1)))]) ⟨[(C_Float f_1),(C_br2_Truth t_2)],[]⟩ ?_
    dsimp only
    exact ⟨_,_,Forgets.refl _ _ _,k,Nat.lt_succ_self k,(if x_13 > n_7 then x_13 else n_7),(IntKind.i64.wrap (i_8 + 1)),h,rfl,rfl⟩
   ·refine Ex.condF _ rfl hc_12 ?_
    refine Ex.exit ?_
    (try simp only [reduceCtorEq,AEx.ex.injEq,Nat.reduceEqDiff,if_true,if_false])
    exact ⟨_,_,forgetA (m:=24) 0 [] [(5,i6 n_7)] [] [] (by simp [setAll]) (by simp) ⟨rfl,trivial⟩ (by simp) rfl (by decide),n_7,h,rfl,rfl⟩
 ·rintro a S ⟨n_3,h,rfl,rfl⟩
  subst hK_6
  refine Ex.seq (rg 2 [4] (mkS 24 [(4,i6 n_3)]) ⟨[],[]⟩ ?_)
  refine Ex.ret ?_
  obtain rfl:=sJ h
  exact rt (i6 n_3)
def p_br2_Height (N : Nat) (f_1 : T_Float) : Option (T_Span × Int):=((p_br2_Check N f_1).bind fun r_2 => (bif (r_2 != 0) then some ((⟨0,0⟩ : T_Span),r_2) else ((p_br2_Least N f_1).bind fun r_4 => ((p_br2_Tall N f_1 r_4).bind fun r_5 => ((p_br2_Greatest N f_1).bind fun r_6 => ((p_br2_Tall N f_1 r_6).bind fun r_8 => some ((⟨r_5,r_8⟩ : T_Span),0)))))))
def v_br2_Height (r : T_Span × Int) : AV:=.tup [(A_Span r.1),i6 r.2]
attribute [local simp] v_br2_Height
theorem a_br2_Height (f_1 : T_Float) : [(A_Float f_1)].mapM (ren []) = some [(A_Float f_1)]:=by simp
theorem b_br2_Height (r : T_Span × Int) (n n2 m : Nat) : back n n2 m (v_br2_Height r) = some (v_br2_Height r):=by simp
theorem d_br2_Height (N : Nat) (f_1 : T_Float) (r : T_Span × Int) (h : p_br2_Height N f_1 = some r) : Does Try.prog 18 [(A_Float f_1)] [] fun v c => v = v_br2_Height r ∧ c = []:=by
 unfold p_br2_Height at h
 refine Does.ofL comp18 _ _ rfl rfl ?_
 refine Ex.seq (rg 3 [1,2] (mkS 20 [(1,.ptr 0 0),(2,.ptr 1 0)]) ⟨[(C_Float f_1),[i6 0,i6 0]],[]⟩ ?_)
 refine Ex.seq (Ex.seq ?_)
 obtain ⟨r_2,hr_2,h⟩:=bE h
 refine Ex.reg (rn 1 [1,2,5] (mkS 20 [(1,.ptr 0 0),(2,.ptr 1 0),(5,(A_Float f_1))]) ⟨[(C_Float f_1),[i6 0,i6 0]],[]⟩ ?_)
 refine ExO.callL [] [(A_Float f_1)] rfl rfl (a_br2_Check f_1) rfl rfl (d_br2_Check N f_1 r_2 hr_2) (b_br2_Check _ _ _ _) rfl ?_
 refine rn 1 [1,2,4] (mkS 20 [(1,.ptr 0 0),(2,.ptr 1 0),(4,i6 r_2)]) ⟨[(C_Float f_1),[i6 0,i6 0]],[]⟩ ?_
 refine ExO.nil ?_
 refine Ex.seq (rg 2 [1,2,4,8] (mkS 20 [(1,.ptr 0 0),(2,.ptr 1 0),(4,i6 r_2),(8,.bool (r_2 != 0))]) ⟨[(C_Float f_1),[i6 0,i6 0]],[]⟩ ?_)
 rcases condI h with ⟨hc_3,h⟩ | ⟨hc_3,h⟩
 ·refine Ex.condT _ rfl hc_3 ?_
  refine Ex.seq (rg 4 [2,3] (mkS 20 [(2,.ptr 1 0),(3,i6 r_2)]) ⟨[(C_Float f_1),[i6 0,i6 0]],[]⟩ ?_)
  refine Ex.ret ?_
  obtain rfl:=sJ h
  exact rt (.tup [.agg [i6 0,i6 0],i6 r_2])
 ·refine Ex.condF _ rfl hc_3 ?_
  refine Ex.skip ?_
  refine Ex.seq ?_
  obtain ⟨r_4,hr_4,h⟩:=bE h
  obtain ⟨r_5,hr_5,h⟩:=bE h
  obtain ⟨r_6,hr_6,h⟩:=bE h
  have hT_7 : DoesA Try.prog [⟨32,[(A_Float f_1)],[],(v_br2_Least r_4),[]⟩,⟨37,[(A_Float f_1),(A_br2_Truth r_4)],[],(v_br2_Tall r_5),[]⟩,⟨33,[(A_Float f_1)],[],(v_br2_Greatest r_6),[]⟩] ∧ ConsA [⟨32,[(A_Float f_1)],[],(v_br2_Least r_4),[]⟩,⟨37,[(A_Float f_1),(A_br2_Truth r_4)],[],(v_br2_Tall r_5),[]⟩,⟨33,[(A_Float f_1)],[],(v_br2_Greatest r_6),[]⟩]:=⟨⟨(d_br2_Least N f_1 r_4 hr_4),rfl,(d_br2_Tall N f_1 r_4 r_5 hr_5),rfl,(d_br2_Greatest N f_1 r_6 hr_6),rfl,trivial⟩,⟨⟨ConsR.ne rfl,ConsR.ne rfl,trivial⟩,⟨ConsR.ne rfl,trivial⟩,trivial,trivial⟩⟩
  refine Ex.drawE (a1:=mkS 20 [(1,.ptr 0 0),(2,.ptr 1 0),(4,i6 r_2),(8,.bool (r_2 != 0)),(11,(A_Float f_1)),(12,(A_Float f_1)),(13,(A_br2_Truth r_4)),(14,i6 r_5),(15,(A_Float f_1)),(16,(A_Float f_1)),(17,(A_br2_Truth r_6))]) (tabO_ok hT_7.1) [] [] [] ?_ ?_
  ·refine drS [0, 1] 2 [] [] (mkS 20 [(1, .ptr 0 0), (2, .ptr 1 0), (4, i6 r_2), (8, .bool (r_2 != 0)), (11, (A_Float f_1)), (12, (A_Float f_1))]) (by simp) (by kernel_rfl) trivial (by kernel_rfl) ?_
   refine drC hT_7.2 0 _ [(A_Float f_1)] (v_br2_Least r_4) rfl rfl rfl rfl rfl (fun _ => rfl) rfl (by simp; try rfl) (fun _ => b_br2_Least _ _ _ _) ?_
   refine drC hT_7.2 1 _ [(A_Float f_1),(A_br2_Truth r_4)] (v_br2_Tall r_5) rfl rfl rfl rfl rfl (fun _ => rfl) rfl (by simp; try rfl) (fun _ => b_br2_Tall _ _ _ _) ?_
   refine drS [0,1] 2 [] [] (mkS 20 [(1,.ptr 0 0),(2,.ptr 1 0),(4,i6 r_2),(8,.bool (r_2 != 0)),(11,(A_Float f_1)),(12,(A_Float f_1)),(13,(A_br2_Truth r_4)),(14,i6 r_5),(15,(A_Float f_1)),(16,(A_Float f_1))]) (by simp) (by kernel_rfl) trivial (by kernel_rfl) ?_
   refine drC hT_7.2 2 _ [(A_Float f_1)] (v_br2_Greatest r_6) rfl rfl rfl rfl rfl (fun _ => rfl) rfl (by simp; try rfl) (fun _ => b_br2_Greatest _ _ _ _) ?_
   exact DrO.nil rfl
  ·dsimp only [List.getLastD_cons,List.getLastD_nil]
   obtain ⟨r_8,hr_8,h⟩:=bE h
   refine ExO.callL [] [(A_Float f_1),(A_br2_Truth r_6)] rfl rfl (a_br2_Tall f_1 r_6) rfl rfl (d_br2_Tall N f_1 r_6 r_8 hr_8) (b_br2_Tall _ _ _ _) rfl ?_
   refine rn 3 [2,3] (mkS 20 [(2,.ptr 1 0),(3,i6 0)]) ⟨[(C_Float f_1),[i6 r_5,i6 r_8]],[]⟩ ?_
   refine ExO.nil ?_
   refine Ex.ret ?_
   obtain rfl:=sJ h
   exact rt (.tup [.agg [i6 r_5,i6 r_8],i6 0])
structure T_Hurdle where
 Kind : Int
 A : Int
 B : Int
 deriving Inhabited
def C_Hurdle (x : T_Hurdle) : List AV:=[i6 x.Kind,i6 x.A,i6 x.B]
attribute [local simp] C_Hurdle
def A_Hurdle (x : T_Hurdle) : AV:=.agg (C_Hurdle x)
attribute [local simp] A_Hurdle
theorem KC_Hurdle (x : T_Hurdle) : cleanL (C_Hurdle x) = true:=by simp
theorem KA_Hurdle (x : T_Hurdle) : (A_Hurdle x).clean = true:=KC_Hurdle x
theorem KL_Hurdle (l : List T_Hurdle) : cleanL (l.map A_Hurdle) = true:=cleanM KA_Hurdle l
attribute [local simp] KL_Hurdle
theorem KB_Hurdle (x : T_Hurdle) (n : Nat) (σ : List Nat) : (C_Hurdle x).mapM (re n σ) = some (C_Hurdle x):=by simp
attribute [local simp] KB_Hurdle
theorem IJ_bk_Drum (x y : T_bk_Drum) (h : A_bk_Drum x = A_bk_Drum y) : x = y:=by
 have h:=AV.agg.inj h
 simp only [C_bk_Drum,List.cons.injEq,AV.int.injEq,AV.bool.injEq,AV.str.injEq,AV.sl.injEq,true_and,and_true] at h
 have h0:=h
 obtain ⟨x0⟩:=x; obtain ⟨y0⟩:=y; simp_all
theorem IJ_Span (x y : T_Span) (h : A_Span x = A_Span y) : x = y:=by
 have h:=AV.agg.inj h
 simp only [C_Span,List.cons.injEq,AV.int.injEq,AV.bool.injEq,AV.str.injEq,AV.sl.injEq,true_and,and_true] at h
 obtain ⟨h0,h1⟩:=h
 obtain ⟨x0,x1⟩:=x; obtain ⟨y0,y1⟩:=y; simp_all
theorem k_bk_Drum_Of (N : Nat) (d_1 : T_bk_Drum) (x_2 : T_Span) (d_1z : T_bk_Drum) (x_2z : T_Span) (r s : Int × T_bk_Drum) (hr : p_bk_Drum_Of N d_1 x_2 = some r) (hs : p_bk_Drum_Of N d_1z x_2z = some s) : ConsR ⟨19,[.ptr 0 0,(A_Span x_2)],[(C_bk_Drum d_1)],v_bk_Drum_Of r,[(C_bk_Drum r.2)]⟩ ⟨19,[.ptr 0 0,(A_Span x_2z)],[(C_bk_Drum d_1z)],v_bk_Drum_Of s,[(C_bk_Drum s.2)]⟩:=by
 intro _ h1 h2
 have h1 : ([.ptr 0 0,(A_Span x_2)] : List AV) = [.ptr 0 0,(A_Span x_2z)]:=h1
 have h2 : ([(C_bk_Drum d_1)] : List (List AV)) = [(C_bk_Drum d_1z)]:=h2
 obtain rfl : d_1 = d_1z:=IJ_bk_Drum _ _ (congrArg AV.agg (List.cons.inj h2).1)
 obtain rfl : x_2 = x_2z:=IJ_Span _ _ (List.cons.inj (List.cons.inj h1).2).1
 rw [hr] at hs; cases hs; exact ⟨rfl,rfl⟩
theorem k_bk_Drum_Any (N : Nat) (d_1 : T_bk_Drum) (l_2 : (List Int)) (d_1z : T_bk_Drum) (l_2z : (List Int)) (r s : Int × T_bk_Drum) (hr : p_bk_Drum_Any N d_1 l_2 = some r) (hs : p_bk_Drum_Any N d_1z l_2z = some s) : ConsR ⟨13,[.ptr 0 0,.sl (l_2.map (AV.int .i64)) none],[(C_bk_Drum d_1)],v_bk_Drum_Any r,[(C_bk_Drum r.2)]⟩ ⟨13,[.ptr 0 0,.sl (l_2z.map (AV.int .i64)) none],[(C_bk_Drum d_1z)],v_bk_Drum_Any s,[(C_bk_Drum s.2)]⟩:=by
 intro _ h1 h2
 have h1 : ([.ptr 0 0,.sl (l_2.map (AV.int .i64)) none] : List AV) = [.ptr 0 0,.sl (l_2z.map (AV.int .i64)) none]:=h1
 have h2 : ([(C_bk_Drum d_1)] : List (List AV)) = [(C_bk_Drum d_1z)]:=h2
 obtain rfl : d_1 = d_1z:=IJ_bk_Drum _ _ (congrArg AV.agg (List.cons.inj h2).1)
 obtain rfl : l_2 = l_2z:=(slInj (intInj _)) _ _ (List.cons.inj (List.cons.inj h1).2).1
 rw [hr] at hs; cases hs; exact ⟨rfl,rfl⟩
def p_bk_RouteOf (N : Nat) (d_1 : T_bk_Drum) (f_2 : T_Float) (most_3 : Int) : Option ((List T_Hurdle) × T_bk_Drum):=((p_br2_Total N f_2).bind fun r_4 => ((p_br2_Axles N f_2).bind fun r_5 => ((p_br2_Height N f_2).bind fun r_6 => ((p_bk_Drum_Roll N d_1 (IntKind.i64.wrap (most_3 + 1))).bind fun r_7 => (letJ (fun (out_8 : List T_Hurdle) (b_9 : Int) => some (out_8,(⟨b_9⟩ : T_bk_Drum))) (fun k_10 => (loop3 (fun rec_16 (out_13 : List T_Hurdle) (i_14 : Int) (b_15 : Int) => (bif (decide (i_14 > 0)) then ((p_bk_Drum_Mid N (⟨b_15⟩ : T_bk_Drum) 1 3).bind fun r_20 => (letJ (fun (b_21 : Int) (b_22 : Int) (b_23 : Int) => ((pushI out_13 ([(⟨r_20.1,b_22,b_23⟩ : T_Hurdle)] : List T_Hurdle)).bind fun l_42 => (rec_16 l_42 (IntKind.i64.wrap (i_14 - 1)) b_21))) (fun k_24 => (bif (r_20.1 == 1) then ((p_bk_Drum_Roll N r_20.2 2000).bind fun r_28 => ((p_bk_Drum_Any N r_28.2 [0,r_28.1]).bind fun r_29 => ((p_bk_Drum_Any N r_29.2 [300,2500]).bind fun r_30 => ((p_bk_Drum_Mid N r_30.2 1 r_30.1).bind fun r_31 => (k_24 r_31.2.beat_ r_29.1 (IntKind.i64.wrap (r_29.1 + r_31.1))))))) else (bif (r_20.1 == 2) then ((p_bk_Drum_Of N r_20.2 r_6.1).bind fun r_34 => ((p_bk_Drum_Any N r_34.2 [(-1),0,1,50]).bind fun r_35 => (k_24 r_35.2.beat_ (if (if (IntKind.i64.wrap (r_34.1 + r_35.1)) > 0 then (IntKind.i64.wrap (r_34.1 + r_35.1)) else 0) < 2000 then (if (IntKind.i64.wrap (r_34.1 + r_35.1)) > 0 then (IntKind.i64.wrap (r_34.1 + r_35.1)) else 0) else 2000) 0))) else ((p_bk_Drum_Of N r_20.2 r_4.1).bind fun r_36 => ((p_bk_Drum_Any N r_36.2 [(-1),0,1,300]).bind fun r_37 => ((p_bk_Drum_Of N r_37.2 r_5.2.1).bind fun r_38 => ((p_bk_Drum_Any N r_38.2 [(-1),0,1]).bind fun r_39 => ((p_bk_Drum_Any N r_39.2 [r_4.1.Hi,(IntKind.i64.wrap (r_38.1 + r_39.1))]).bind fun r_40 => (k_24 r_40.2.beat_ (if (IntKind.i64.wrap (r_36.1 + r_37.1)) > 0 then (IntKind.i64.wrap (r_36.1 + r_37.1)) else 0) (if r_40.1 > 0 then r_40.1 else 0)))))))))))) else (k_10 out_13 b_15))) N [] r_7.1 r_7.2.beat_)))))))
def v_bk_RouteOf (r : (List T_Hurdle) × T_bk_Drum) : AV:=.sl (r.1.map A_Hurdle) none
attribute [local simp] v_bk_RouteOf
theorem b_bk_RouteOf (r : (List T_Hurdle) × T_bk_Drum) (n n2 m : Nat) : back n n2 m (v_bk_RouteOf r) = some (v_bk_RouteOf r):=by simp
theorem d_bk_RouteOf (N : Nat) (d_1 : T_bk_Drum) (f_2 : T_Float) (most_3 : Int) (r : (List T_Hurdle) × T_bk_Drum) (h : p_bk_RouteOf N d_1 f_2 most_3 = some r) : Does Try.prog 6 [.ptr 0 0,(A_Float f_2),i6 most_3] [(C_bk_Drum d_1)] fun v c => v = v_bk_RouteOf r ∧ c = [(C_bk_Drum r.2)]:=by
 unfold p_bk_RouteOf at h
 refine Does.ofL comp6 _ _ rfl rfl ?_
 refine Ex.seq (rg 2 [0,2,4] (mkS 103 [(0,.ptr 0 0),(2,i6 most_3),(4,.ptr 1 0)]) ⟨[(C_bk_Drum d_1),(C_Float f_2)],[]⟩ ?_)
 refine Ex.seq ?_
 obtain ⟨r_4,hr_4,h⟩:=bE h
 refine Ex.reg (rn 1 [0,2,4,18] (mkS 103 [(0,.ptr 0 0),(2,i6 most_3),(4,.ptr 1 0),(18,(A_Float f_2))]) ⟨[(C_bk_Drum d_1),(C_Float f_2)],[]⟩ ?_)
 refine ExO.callL [] [(A_Float f_2)] rfl rfl (a_br2_Total f_2) rfl rfl (d_br2_Total N f_2 r_4 hr_4) (b_br2_Total _ _ _ _) rfl ?_
 refine rn 6 [0,2,4,7] (mkS 103 [(0,.ptr 0 0),(2,i6 most_3),(4,.ptr 1 0),(7,.ptr 2 0)]) ⟨[(C_bk_Drum d_1),(C_Float f_2),(C_Span r_4.1)],[]⟩ ?_
 refine ExO.nil ?_
 refine Ex.seq ?_
 obtain ⟨r_5,hr_5,h⟩:=bE h
 refine Ex.reg (rn 1 [0,2,4,7,23] (mkS 103 [(0,.ptr 0 0),(2,i6 most_3),(4,.ptr 1 0),(7,.ptr 2 0),(23,(A_Float f_2))]) ⟨[(C_bk_Drum d_1),(C_Float f_2),(C_Span r_4.1)],[]⟩ ?_)
 refine ExO.callL [] [(A_Float f_2)] rfl rfl (a_br2_Axles f_2) rfl rfl (d_br2_Axles N f_2 r_5 hr_5) (b_br2_Axles _ _ _ _) rfl ?_
 refine rn 9 [0,2,4,7,10] (mkS 103 [(0,.ptr 0 0),(2,i6 most_3),(4,.ptr 1 0),(7,.ptr 2 0),(10,.ptr 4 0)]) ⟨[(C_bk_Drum d_1),(C_Float f_2),(C_Span r_4.1),(C_Span r_5.1),(C_Span r_5.2.1)],[]⟩ ?_
 refine ExO.nil ?_
 refine Ex.seq ?_
 obtain ⟨r_6,hr_6,h⟩:=bE h
 refine Ex.reg (rn 1 [0,2,7,10,29] (mkS 103 [(0,.ptr 0 0),(2,i6 most_3),(7,.ptr 2 0),(10,.ptr 4 0),(29,(A_Float f_2))]) ⟨[(C_bk_Drum d_1),(C_Float f_2),(C_Span r_4.1),(C_Span r_5.1),(C_Span r_5.2.1)],[]⟩ ?_)
 refine ExO.callL [] [(A_Float f_2)] rfl rfl (a_br2_Height f_2) rfl rfl (d_br2_Height N f_2 r_6 hr_6) (b_br2_Height _ _ _ _) rfl ?_
 refine rn 6 [0,2,7,10,12] (mkS 103 [(0,.ptr 0 0),(2,i6 most_3),(7,.ptr 2 0),(10,.ptr 4 0),(12,.ptr 5 0)]) ⟨[(C_bk_Drum d_1),(C_Float f_2),(C_Span r_4.1),(C_Span r_5.1),(C_Span r_5.2.1),(C_Span r_6.1)],[]⟩ ?_
 refine ExO.nil ?_
 refine Ex.seq (rg 1 [0,2,7,10,12,14] (mkS 103 [(0,.ptr 0 0),(2,i6 most_3),(7,.ptr 2 0),(10,.ptr 4 0),(12,.ptr 5 0),(14,.nils)]) ⟨[(C_bk_Drum d_1),(C_Float f_2),(C_Span r_4.1),(C_Span r_5.1),(C_Span r_5.2.1),(C_Span r_6.1)],[]⟩ ?_)
 refine Ex.seq (Ex.seq ?_)
 obtain ⟨r_7,hr_7,h⟩:=bE h
 refine Ex.reg (rn 3 [0,7,10,12,14,33,35] (mkS 103 [(0,.ptr 0 0),(7,.ptr 2 0),(10,.ptr 4 0),(12,.ptr 5 0),(14,.nils),(33,.ptr 0 0),(35,i6 (IntKind.i64.wrap (most_3 + 1)))]) ⟨[(C_bk_Drum d_1),(C_Float f_2),(C_Span r_4.1),(C_Span r_5.1),(C_Span r_5.2.1),(C_Span r_6.1)],[]⟩ ?_)
 refine ExO.callL [0] [.ptr 0 0,i6 (IntKind.i64.wrap (most_3 + 1))] rfl rfl (by simp; try rfl) rfl (by simp) (d_bk_Drum_Roll N d_1 (IntKind.i64.wrap (most_3 + 1)) r_7 hr_7) (b_bk_Drum_Roll _ _ _ _) (by simp) ?_
 refine rn 1 [0,7,10,12,14,15] (mkS 103 [(0,.ptr 0 0),(7,.ptr 2 0),(10,.ptr 4 0),(12,.ptr 5 0),(14,.nils),(15,i6 r_7.1)]) ⟨[(C_bk_Drum r_7.2),(C_Float f_2),(C_Span r_4.1),(C_Span r_5.1),(C_Span r_5.2.1),(C_Span r_6.1)],[]⟩ ?_
 refine ExO.nil ?_
 obtain ⟨K_11,hK_12,h⟩:=letE h
 refine Ex.blockJ (fun a S => ∃ (out_8 : List T_Hurdle),∃ (b_9 : Int),K_11 out_8 b_9 = some r ∧ a = mkS 103 [(14,.sl (out_8.map A_Hurdle) (some 0))] ∧ S = ⟨[[.int .u64 b_9]],[(out_8.length,3)]⟩) ?_ ?_
 ·refine Ex.forget (nilK 14 3 rfl) ?_
  refine Ex.castA (a2:=mkS 103 [(0,.ptr 0 0),(7,.ptr 2 0),(10,.ptr 4 0),(12,.ptr 5 0),(14,.sl (([] : List T_Hurdle).map A_Hurdle) (some 0)),(15,i6 r_7.1)]) (S2:=⟨[(C_bk_Drum r_7.2),(C_Float f_2),(C_Span r_4.1),(C_Span r_5.1),(C_Span r_5.2.1),(C_Span r_6.1)],[(0,3)]⟩) (by kernel_rfl) (by kernel_rfl) ?_
  obtain ⟨B_17,hB_18,h⟩:=loop3I h
  refine Ex.loopF (fun k a S => ∃ (out_13 : List T_Hurdle),∃ (i_14 : Int),∃ (b_15 : Int),loop3 B_17 k out_13 i_14 b_15 = some r ∧ a = mkS 103 [(0,.ptr 0 0),(7,.ptr 2 0),(10,.ptr 4 0),(12,.ptr 5 0),(14,.sl (out_13.map A_Hurdle) (some 0)),(15,i6 i_14)] ∧ S = ⟨[[.int .u64 b_15],(C_Float f_2),(C_Span r_4.1),(C_Span r_5.1),(C_Span r_5.2.1),(C_Span r_6.1)],[(out_13.length,3)]⟩) N ⟨_,_,Forgets.refl _ _ _,[],r_7.1,r_7.2.beat_,h,rfl,rfl⟩ ?_
  rintro k a S ⟨out_13,i_14,b_15,h,rfl,rfl⟩
  cases k with
  | zero => exact (loop3Z h).elim
  | succ k =>
   replace h:=loop3S h hB_18
   refine Ex.seq (Ex.seq ?_)
   refine rg 2 [0,7,10,12,14,15,38] (mkS 103 [(0,.ptr 0 0),(7,.ptr 2 0),(10,.ptr 4 0),(12,.ptr 5 0),(14,.sl (out_13.map A_Hurdle) (some 0)),(15,i6 i_14),(38,.bool (decide (i_14 > 0)))]) ⟨[[.int .u64 b_15],(C_Float f_2),(C_Span r_4.1),(C_Span r_5.1),(C_Span r_5.2.1),(C_Span r_6.1)],[(out_13.length,3)]⟩ ?_
   rcases condI h with ⟨hc_19,h⟩ | ⟨hc_19,h⟩
   ·refine Ex.condT _ rfl hc_19 ?_
    refine Ex.skip ?_
    refine Ex.seq ?_
    refine Ex.blockK ?_
    refine Ex.seq ?_
    obtain ⟨r_20,hr_20,h⟩:=bE h
    refine Ex.reg (rn 1 [0,7,10,12,14,15,41] (mkS 103 [(0,.ptr 0 0),(7,.ptr 2 0),(10,.ptr 4 0),(12,.ptr 5 0),(14,.sl (out_13.map A_Hurdle) (some 0)),(15,i6 i_14),(41,.ptr 0 0)]) ⟨[[.int .u64 b_15],(C_Float f_2),(C_Span r_4.1),(C_Span r_5.1),(C_Span r_5.2.1),(C_Span r_6.1)],[(out_13.length,3)]⟩ ?_)
    refine ExO.callL [0] [.ptr 0 0,i6 1,i6 3] rfl rfl (by simp; try rfl) rfl (by simp) (d_bk_Drum_Mid N (⟨b_15⟩ : T_bk_Drum) 1 3 r_20 hr_20) (b_bk_Drum_Mid _ _ _ _) (by simp) ?_
    refine rn 3 [0,7,10,12,14,15,16] (mkS 103 [(0,.ptr 0 0),(7,.ptr 2 0),(10,.ptr 4 0),(12,.ptr 5 0),(14,.sl (out_13.map A_Hurdle) (some 0)),(15,i6 i_14),(16,.ptr 6 0)]) ⟨[(C_bk_Drum r_20.2),(C_Float f_2),(C_Span r_4.1),(C_Span r_5.1),(C_Span r_5.2.1),(C_Span r_6.1),[i6 r_20.1,i6 0,i6 0]],[(out_13.length,3)]⟩ ?_
    refine ExO.nil ?_
    refine Ex.seq (Ex.seq ?_)
    refine rg 2 [0,7,10,12,14,15,16,45] (mkS 103 [(0,.ptr 0 0),(7,.ptr 2 0),(10,.ptr 4 0),(12,.ptr 5 0),(14,.sl (out_13.map A_Hurdle) (some 0)),(15,i6 i_14),(16,.ptr 6 0),(45,i6 r_20.1)]) ⟨[(C_bk_Drum r_20.2),(C_Float f_2),(C_Span r_4.1),(C_Span r_5.1),(C_Span r_5.2.1),(C_Span r_6.1),[i6 r_20.1,i6 0,i6 0]],[(out_13.length,3)]⟩ ?_
    obtain ⟨K_25,hK_26,h⟩:=letE h
    refine Ex.blockJ (fun a S => ∃ (b_21 : Int),∃ (b_22 : Int),∃ (b_23 : Int),K_25 b_21 b_22 b_23 = some r ∧ a = mkS 103 [(0,.ptr 0 0),(7,.ptr 2 0),(10,.ptr 4 0),(12,.ptr 5 0),(14,.sl (out_13.map A_Hurdle) (some 0)),(15,i6 i_14),(16,.ptr 6 0)] ∧ S = ⟨[[.int .u64 b_21],(C_Float f_2),(C_Span r_4.1),(C_Span r_5.1),(C_Span r_5.2.1),(C_Span r_6.1),[i6 r_20.1,i6 b_22,i6 b_23]],[(out_13.length,3)]⟩) ?_ ?_
    ·refine Ex.seq (rg 2 [0,7,10,12,14,15,16,45,69] (mkS 103 [(0,.ptr 0 0),(7,.ptr 2 0),(10,.ptr 4 0),(12,.ptr 5 0),(14,.sl (out_13.map A_Hurdle) (some 0)),(15,i6 i_14),(16,.ptr 6 0),(45,i6 r_20.1),(69,.bool (r_20.1 == 1))]) ⟨[(C_bk_Drum r_20.2),(C_Float f_2),(C_Span r_4.1),(C_Span r_5.1),(C_Span r_5.2.1),(C_Span r_6.1),[i6 r_20.1,i6 0,i6 0]],[(out_13.length,3)]⟩ ?_)
     rcases condI h with ⟨hc_27,h⟩ | ⟨hc_27,h⟩
     ·refine Ex.condT _ rfl hc_27 ?_
      refine Ex.seq ?_
      obtain ⟨r_28,hr_28,h⟩:=bE h
      refine Ex.reg (rn 2 [0,7,10,12,14,15,16,71,72] (mkS 103 [(0,.ptr 0 0),(7,.ptr 2 0),(10,.ptr 4 0),(12,.ptr 5 0),(14,.sl (out_13.map A_Hurdle) (some 0)),(15,i6 i_14),(16,.ptr 6 0),(71,.ptr 0 0),(72,.ptr 0 0)]) ⟨[(C_bk_Drum r_20.2),(C_Float f_2),(C_Span r_4.1),(C_Span r_5.1),(C_Span r_5.2.1),(C_Span r_6.1),[i6 r_20.1,i6 0,i6 0]],[(out_13.length,3)]⟩ ?_)
      refine ExO.callL [0] [.ptr 0 0,i6 2000] rfl rfl (by simp; try rfl) rfl (by simp) (d_bk_Drum_Roll N r_20.2 2000 r_28 hr_28) (b_bk_Drum_Roll _ _ _ _) (by simp) ?_
      obtain ⟨r_29,hr_29,h⟩:=bE h
      refine rn 1 [0,7,10,12,14,15,16,71,74] (mkS 103 [(0,.ptr 0 0),(7,.ptr 2 0),(10,.ptr 4 0),(12,.ptr 5 0),(14,.sl (out_13.map A_Hurdle) (some 0)),(15,i6 i_14),(16,.ptr 6 0),(71,.ptr 0 0),(74,.sl (([0,r_28.1] : List Int).map (AV.int .i64)) (some 1))]) ⟨[(C_bk_Drum r_28.2),(C_Float f_2),(C_Span r_4.1),(C_Span r_5.1),(C_Span r_5.2.1),(C_Span r_6.1),[i6 r_20.1,i6 0,i6 0]],[(out_13.length,3),(2,1)]⟩ ?_
      refine ExO.callL [0] [.ptr 0 0,.sl (([0,r_28.1] : List Int).map (AV.int .i64)) (some 1)] rfl rfl (by simp; try rfl) rfl (by simp) (d_bk_Drum_Any N r_28.2 [0,r_28.1] r_29 hr_29) (b_bk_Drum_Any _ _ _ _) (by simp) ?_
      refine rn 2 [0,7,10,12,14,15,16] (mkS 103 [(0,.ptr 0 0),(7,.ptr 2 0),(10,.ptr 4 0),(12,.ptr 5 0),(14,.sl (out_13.map A_Hurdle) (some 0)),(15,i6 i_14),(16,.ptr 6 0)]) ⟨[(C_bk_Drum r_29.2),(C_Float f_2),(C_Span r_4.1),(C_Span r_5.1),(C_Span r_5.2.1),(C_Span r_6.1),[i6 r_20.1,i6 r_29.1,i6 0]],[(out_13.length,3),(2,1)]⟩ ?_
      refine ExO.nil ?_
      obtain ⟨r_30,hr_30,h⟩:=bE h
      obtain ⟨r_31,hr_31,h⟩:=bE h
      have hT_32 : DoesA Try.prog [⟨13,[.ptr 0 0,.sl (([300,2500] : List Int).map (AV.int .i64)) none],[(C_bk_Drum r_29.2)],(v_bk_Drum_Any r_30),[(C_bk_Drum r_30.2)]⟩,⟨12,[.ptr 0 0,i6 1,i6 r_30.1],[(C_bk_Drum r_30.2)],(v_bk_Drum_Mid r_31),[(C_bk_Drum r_31.2)]⟩] ∧ ConsA [⟨13,[.ptr 0 0,.sl (([300,2500] : List Int).map (AV.int .i64)) none],[(C_bk_Drum r_29.2)],(v_bk_Drum_Any r_30),[(C_bk_Drum r_30.2)]⟩,⟨12,[.ptr 0 0,i6 1,i6 r_30.1],[(C_bk_Drum r_30.2)],(v_bk_Drum_Mid r_31),[(C_bk_Drum r_31.2)]⟩]:=⟨⟨(d_bk_Drum_Any N r_29.2 [300,2500] r_30 hr_30),rfl,(d_bk_Drum_Mid N r_30.2 1 r_30.1 r_31 hr_31),rfl,trivial⟩,⟨⟨ConsR.ne rfl,trivial⟩,trivial,trivial⟩⟩
      refine Ex.drawE (a1:=mkS 103 [(0,.ptr 0 0),(7,.ptr 2 0),(10,.ptr 4 0),(12,.ptr 5 0),(14,.sl (out_13.map A_Hurdle) (some 0)),(15,i6 i_14),(16,.ptr 6 0),(77,.ptr 6 1),(78,i6 r_29.1),(79,.ptr 0 0),(80,.ptr 0 0),(81,.sl (([300,2500] : List Int).map (AV.int .i64)) (some 2)),(82,i6 r_30.1),(83,i6 r_31.1)]) (tabO_ok hT_32.1) [] [(2,1)] [⟨[(C_bk_Drum r_30.2),(C_Float f_2),(C_Span r_4.1),(C_Span r_5.1),(C_Span r_5.2.1),(C_Span r_6.1),[i6 r_20.1,i6 r_29.1,i6 0]],[(out_13.length,3),(2,1),(2,1)]⟩,⟨[(C_bk_Drum r_31.2),(C_Float f_2),(C_Span r_4.1),(C_Span r_5.1),(C_Span r_5.2.1),(C_Span r_6.1),[i6 r_20.1,i6 r_29.1,i6 0]],[(out_13.length,3),(2,1),(2,1)]⟩] ?_ ?_
      ·refine drS [1, 2, 3, 4, 5, 6] 4 [] [] (mkS 103 [(0, .ptr 0 0), (7, .ptr 2 0), (10, .ptr 4 0), (12, .ptr 5 0), (14, .sl (out_13.map A_Hurdle) (some 0)), (15, i6 i_14), (16, .ptr 6 0), (77, .ptr 6 1), (78, i6 r_29.1), (79, .ptr 0 0), (80, .ptr 0 0)]) (by simp) (by kernel_rfl) trivial (by kernel_rfl) ?_
       refine drR 2 1 (([300,2500] : List Int).map (AV.int .i64)) rfl rfl (fun _ => by kernel_rfl) (by simp) rfl rfl ?_
       refine drB hT_32.2 0 _ [0] [.ptr 0 0,.sl (([300,2500] : List Int).map (AV.int .i64)) (some 2)] (v_bk_Drum_Any r_30) _ _ rfl rfl rfl rfl rfl rfl rfl rfl (by simp; try rfl) rfl (by simp) (b_bk_Drum_Any _ _ _ _) (by simp) rfl ?_
       refine drB hT_32.2 1 _ [0] [.ptr 0 0,i6 1,i6 r_30.1] (v_bk_Drum_Mid r_31) _ _ rfl rfl rfl rfl rfl rfl rfl rfl (by simp; try rfl) rfl (by simp) (b_bk_Drum_Mid _ _ _ _) (by simp) rfl ?_
       exact DrO.nil rfl
      ·dsimp only [List.getLastD_cons,List.getLastD_nil]
       refine rn 3 [0,7,10,12,14,15,16] (mkS 103 [(0,.ptr 0 0),(7,.ptr 2 0),(10,.ptr 4 0),(12,.ptr 5 0),(14,.sl (out_13.map A_Hurdle) (some 0)),(15,i6 i_14),(16,.ptr 6 0)]) ⟨[(C_bk_Drum r_31.2),(C_Float f_2),(C_Span r_4.1),(C_Span r_5.1),(C_Span r_5.2.1),(C_Span r_6.1),[i6 r_20.1,i6 r_29.1,i6 (IntKind.i64.wrap (r_29.1 + r_31.1))]],[(out_13.length,3),(2,1),(2,1)]⟩ ?_
       refine ExO.nil ?_
       (try simp only [reduceCtorEq,AEx.ex.injEq,Nat.reduceEqDiff,if_true,if_false])
       exact ⟨_,_,forgetA (m:=103) 7 [0] [(0,.ptr 0 0),(7,.ptr 2 0),(10,.ptr 4 0),(12,.ptr 5 0),(14,.sl (out_13.map A_Hurdle) (some 0)),(15,i6 i_14),(16,.ptr 6 0)] [(C_bk_Drum r_31.2),(C_Float f_2),(C_Span r_4.1),(C_Span r_5.1),(C_Span r_5.2.1),(C_Span r_6.1),[i6 r_20.1,i6 r_29.1,i6 (IntKind.i64.wrap (r_29.1 + r_31.1))]] [(out_13.length,3)] (by simp [setAll]) (by simp) ⟨rfl,rfl,rfl,rfl,(reT (KL_Hurdle _) rfl),rfl,rfl,trivial⟩ (by simp) rfl (by decide),r_31.2.beat_,r_29.1,(IntKind.i64.wrap (r_29.1 + r_31.1)),h,rfl,rfl⟩
     ·refine Ex.condF _ rfl hc_27 ?_
      refine Ex.seq (rg 2 [0,7,10,12,14,15,16,86] (mkS 103 [(0,.ptr 0 0),(7,.ptr 2 0),(10,.ptr 4 0),(12,.ptr 5 0),(14,.sl (out_13.map A_Hurdle) (some 0)),(15,i6 i_14),(16,.ptr 6 0),(86,.bool (r_20.1 == 2))]) ⟨[(C_bk_Drum r_20.2),(C_Float f_2),(C_Span r_4.1),(C_Span r_5.1),(C_Span r_5.2.1),(C_Span r_6.1),[i6 r_20.1,i6 0,i6 0]],[(out_13.length,3)]⟩ ?_)
      rcases condI h with ⟨hc_33,h⟩ | ⟨hc_33,h⟩
      ·refine Ex.condT _ rfl hc_33 ?_
       obtain ⟨r_34,hr_34,h⟩:=bE h
       refine Ex.reg (rn 2 [0,7,10,12,14,15,16,88,89] (mkS 103 [(0,.ptr 0 0),(7,.ptr 2 0),(10,.ptr 4 0),(12,.ptr 5 0),(14,.sl (out_13.map A_Hurdle) (some 0)),(15,i6 i_14),(16,.ptr 6 0),(88,.ptr 0 0),(89,(A_Span r_6.1))]) ⟨[(C_bk_Drum r_20.2),(C_Float f_2),(C_Span r_4.1),(C_Span r_5.1),(C_Span r_5.2.1),(C_Span r_6.1),[i6 r_20.1,i6 0,i6 0]],[(out_13.length,3)]⟩ ?_)
       refine ExO.callL [0] [.ptr 0 0,(A_Span r_6.1)] rfl rfl (by simp; try rfl) rfl (by simp) (d_bk_Drum_Of N r_20.2 r_6.1 r_34 hr_34) (b_bk_Drum_Of _ _ _ _) (by simp) ?_
       obtain ⟨r_35,hr_35,h⟩:=bE h
       refine rn 2 [0,7,10,12,14,15,16,90,91,92] (mkS 103 [(0,.ptr 0 0),(7,.ptr 2 0),(10,.ptr 4 0),(12,.ptr 5 0),(14,.sl (out_13.map A_Hurdle) (some 0)),(15,i6 i_14),(16,.ptr 6 0),(90,i6 r_34.1),(91,.ptr 0 0),(92,.sl (([(-1),0,1,50] : List Int).map (AV.int .i64)) (some 1))]) ⟨[(C_bk_Drum r_34.2),(C_Float f_2),(C_Span r_4.1),(C_Span r_5.1),(C_Span r_5.2.1),(C_Span r_6.1),[i6 r_20.1,i6 0,i6 0]],[(out_13.length,3),(4,1)]⟩ ?_
       refine ExO.callL [0] [.ptr 0 0,.sl (([(-1),0,1,50] : List Int).map (AV.int .i64)) (some 1)] rfl rfl (by simp; try rfl) rfl (by simp) (d_bk_Drum_Any N r_34.2 [(-1),0,1,50] r_35 hr_35) (b_bk_Drum_Any _ _ _ _) (by simp) ?_
       refine rn 5 [0,7,10,12,14,15,16] (mkS 103 [(0,.ptr 0 0),(7,.ptr 2 0),(10,.ptr 4 0),(12,.ptr 5 0),(14,.sl (out_13.map A_Hurdle) (some 0)),(15,i6 i_14),(16,.ptr 6 0)]) ⟨[(C_bk_Drum r_35.2),(C_Float f_2),(C_Span r_4.1),(C_Span r_5.1),(C_Span r_5.2.1),(C_Span r_6.1),[i6 r_20.1,i6 (if (if (IntKind.i64.wrap (r_34.1 + r_35.1)) > 0 then (IntKind.i64.wrap (r_34.1 + r_35.1)) else 0) < 2000 then (if (IntKind.i64.wrap (r_34.1 + r_35.1)) > 0 then (IntKind.i64.wrap (r_34.1 + r_35.1)) else 0) else 2000),i6 0]],[(out_13.length,3),(4,1)]⟩ ?_
       refine ExO.nil ?_
       (try simp only [reduceCtorEq,AEx.ex.injEq,Nat.reduceEqDiff,if_true,if_false])
       exact ⟨_,_,forgetA (m:=103) 7 [0] [(0,.ptr 0 0),(7,.ptr 2 0),(10,.ptr 4 0),(12,.ptr 5 0),(14,.sl (out_13.map A_Hurdle) (some 0)),(15,i6 i_14),(16,.ptr 6 0)] [(C_bk_Drum r_35.2),(C_Float f_2),(C_Span r_4.1),(C_Span r_5.1),(C_Span r_5.2.1),(C_Span r_6.1),[i6 r_20.1,i6 (if (if (IntKind.i64.wrap (r_34.1 + r_35.1)) > 0 then (IntKind.i64.wrap (r_34.1 + r_35.1)) else 0) < 2000 then (if (IntKind.i64.wrap (r_34.1 + r_35.1)) > 0 then (IntKind.i64.wrap (r_34.1 + r_35.1)) else 0) else 2000),i6 0]] [(out_13.length,3)] (by simp [setAll]) (by simp) ⟨rfl,rfl,rfl,rfl,(reT (KL_Hurdle _) rfl),rfl,rfl,trivial⟩ (by simp) rfl (by decide),r_35.2.beat_,(if (if (IntKind.i64.wrap (r_34.1 + r_35.1)) > 0 then (IntKind.i64.wrap (r_34.1 + r_35.1)) else 0) < 2000 then (if (IntKind.i64.wrap (r_34.1 + r_35.1)) > 0 then (IntKind.i64.wrap (r_34.1 + r_35.1)) else 0) else 2000),0,h,rfl,rfl⟩
      ·refine Ex.condF _ rfl hc_33 ?_
       obtain ⟨r_36,hr_36,h⟩:=bE h
       obtain ⟨r_37,hr_37,h⟩:=bE h
       obtain ⟨r_38,hr_38,h⟩:=bE h
       obtain ⟨r_39,hr_39,h⟩:=bE h
       obtain ⟨r_40,hr_40,h⟩:=bE h
       have hT_41 : DoesA Try.prog [⟨19,[.ptr 0 0,(A_Span r_4.1)],[(C_bk_Drum r_20.2)],(v_bk_Drum_Of r_36),[(C_bk_Drum r_36.2)]⟩,⟨13,[.ptr 0 0,.sl (([(-1),0,1,300] : List Int).map (AV.int .i64)) none],[(C_bk_Drum r_36.2)],(v_bk_Drum_Any r_37),[(C_bk_Drum r_37.2)]⟩,⟨19,[.ptr 0 0,(A_Span r_5.2.1)],[(C_bk_Drum r_37.2)],(v_bk_Drum_Of r_38),[(C_bk_Drum r_38.2)]⟩,⟨13,[.ptr 0 0,.sl (([(-1),0,1] : List Int).map (AV.int .i64)) none],[(C_bk_Drum r_38.2)],(v_bk_Drum_Any r_39),[(C_bk_Drum r_39.2)]⟩,⟨13,[.ptr 0 0,.sl (([r_4.1.Hi,(IntKind.i64.wrap (r_38.1 + r_39.1))] : List Int).map (AV.int .i64)) none],[(C_bk_Drum r_39.2)],(v_bk_Drum_Any r_40),[(C_bk_Drum r_40.2)]⟩] ∧ ConsA [⟨19,[.ptr 0 0,(A_Span r_4.1)],[(C_bk_Drum r_20.2)],(v_bk_Drum_Of r_36),[(C_bk_Drum r_36.2)]⟩,⟨13,[.ptr 0 0,.sl (([(-1),0,1,300] : List Int).map (AV.int .i64)) none],[(C_bk_Drum r_36.2)],(v_bk_Drum_Any r_37),[(C_bk_Drum r_37.2)]⟩,⟨19,[.ptr 0 0,(A_Span r_5.2.1)],[(C_bk_Drum r_37.2)],(v_bk_Drum_Of r_38),[(C_bk_Drum r_38.2)]⟩,⟨13,[.ptr 0 0,.sl (([(-1),0,1] : List Int).map (AV.int .i64)) none],[(C_bk_Drum r_38.2)],(v_bk_Drum_Any r_39),[(C_bk_Drum r_39.2)]⟩,⟨13,[.ptr 0 0,.sl (([r_4.1.Hi,(IntKind.i64.wrap (r_38.1 + r_39.1))] : List Int).map (AV.int .i64)) none],[(C_bk_Drum r_39.2)],(v_bk_Drum_Any r_40),[(C_bk_Drum r_40.2)]⟩]:=⟨⟨(d_bk_Drum_Of N r_20.2 r_4.1 r_36 hr_36),rfl,(d_bk_Drum_Any N r_36.2 [(-1),0,1,300] r_37 hr_37),rfl,(d_bk_Drum_Of N r_37.2 r_5.2.1 r_38 hr_38),rfl,(d_bk_Drum_Any N r_38.2 [(-1),0,1] r_39 hr_39),rfl,(d_bk_Drum_Any N r_39.2 [r_4.1.Hi,(IntKind.i64.wrap (r_38.1 + r_39.1))] r_40 hr_40),rfl,trivial⟩,⟨⟨ConsR.ne rfl,k_bk_Drum_Of N r_20.2 r_4.1 r_37.2 r_5.2.1 r_36 r_38 hr_36 hr_38,ConsR.ne rfl,ConsR.ne rfl,trivial⟩,⟨ConsR.ne rfl,k_bk_Drum_Any N r_36.2 [(-1),0,1,300] r_38.2 [(-1),0,1] r_37 r_39 hr_37 hr_39,k_bk_Drum_Any N r_36.2 [(-1),0,1,300] r_39.2 [r_4.1.Hi,(IntKind.i64.wrap (r_38.1 + r_39.1))] r_37 r_40 hr_37 hr_40,trivial⟩,⟨ConsR.ne rfl,ConsR.ne rfl,trivial⟩,⟨k_bk_Drum_Any N r_38.2 [(-1),0,1] r_39.2 [r_4.1.Hi,(IntKind.i64.wrap (r_38.1 + r_39.1))] r_39 r_40 hr_39 hr_40,trivial⟩,trivial,trivial⟩⟩
       refine Ex.drawE (a1:=mkS 103 [(0,.ptr 0 0),(7,.ptr 2 0),(10,.ptr 4 0),(12,.ptr 5 0),(14,.sl (out_13.map A_Hurdle) (some 0)),(15,i6 i_14),(16,.ptr 6 0),(46,.ptr 0 0),(47,(A_Span r_4.1)),(48,i6 r_36.1),(49,.ptr 0 0),(50,.sl (([(-1),0,1,300] : List Int).map (AV.int .i64)) (some 1)),(51,i6 r_37.1),(52,i6 (IntKind.i64.wrap (r_36.1 + r_37.1))),(53,i6 (if (IntKind.i64.wrap (r_36.1 + r_37.1)) > 0 then (IntKind.i64.wrap (r_36.1 + r_37.1)) else 0)),(54,.ptr 0 0),(55,.ptr 2 1),(56,i6 r_4.1.Hi),(57,.ptr 0 0),(58,(A_Span r_5.2.1)),(59,i6 r_38.1),(60,.ptr 0 0),(61,.sl (([(-1),0,1] : List Int).map (AV.int .i64)) (some 2)),(62,i6 r_39.1),(63,i6 (IntKind.i64.wrap (r_38.1 + r_39.1))),(64,.sl (([r_4.1.Hi,(IntKind.i64.wrap (r_38.1 + r_39.1))] : List Int).map (AV.int .i64)) (some 3)),(65,i6 r_40.1),(66,i6 (if r_40.1 > 0 then r_40.1 else 0)),(67,.ptr 6 1),(86,.bool (r_20.1 == 2))]) (tabO_ok hT_41.1) [] [(4,1),(3,1),(2,1)] [⟨[(C_bk_Drum r_36.2),(C_Float f_2),(C_Span r_4.1),(C_Span r_5.1),(C_Span r_5.2.1),(C_Span r_6.1),[i6 r_20.1,i6 0,i6 0]],[(out_13.length,3),(4,1),(3,1),(2,1)]⟩,⟨[(C_bk_Drum r_37.2),(C_Float f_2),(C_Span r_4.1),(C_Span r_5.1),(C_Span r_5.2.1),(C_Span r_6.1),[i6 r_20.1,i6 0,i6 0]],[(out_13.length,3),(4,1),(3,1),(2,1)]⟩,⟨[(C_bk_Drum r_38.2),(C_Float f_2),(C_Span r_4.1),(C_Span r_5.1),(C_Span r_5.2.1),(C_Span r_6.1),[i6 r_20.1,i6 0,i6 0]],[(out_13.length,3),(4,1),(3,1),(2,1)]⟩,⟨[(C_bk_Drum r_39.2),(C_Float f_2),(C_Span r_4.1),(C_Span r_5.1),(C_Span r_5.2.1),(C_Span r_6.1),[i6 r_20.1,i6 0,i6 0]],[(out_13.length,3),(4,1),(3,1),(2,1)]⟩,⟨[(C_bk_Drum r_40.2),(C_Float f_2),(C_Span r_4.1),(C_Span r_5.1),(C_Span r_5.2.1),(C_Span r_6.1),[i6 r_20.1,i6 0,i6 0]],[(out_13.length,3),(4,1),(3,1),(2,1)]⟩,⟨[(C_bk_Drum r_40.2),(C_Float f_2),(C_Span r_4.1),(C_Span r_5.1),(C_Span r_5.2.1),(C_Span r_6.1),[i6 r_20.1,i6 (if (IntKind.i64.wrap (r_36.1 + r_37.1)) > 0 then (IntKind.i64.wrap (r_36.1 + r_37.1)) else 0),i6 0]],[(out_13.length,3),(4,1),(3,1),(2,1)]⟩] ?_ ?_
       ·refine drS [1, 2, 3, 4, 5] 2 [] [] (mkS 103 [(0, .ptr 0 0), (7, .ptr 2 0), (10, .ptr 4 0), (12, .ptr 5 0), (14, .sl (out_13.map A_Hurdle) (some 0)), (15, i6 i_14), (16, .ptr 6 0), (46, .ptr 0 0), (47, (A_Span r_4.1)), (86, .bool (r_20.1 == 2))]) (by simp) (by kernel_rfl) trivial (by kernel_rfl) ?_
        refine drB hT_41.2 0 _ [0] [.ptr 0 0,(A_Span r_4.1)] (v_bk_Drum_Of r_36) _ _ rfl rfl rfl rfl rfl rfl rfl rfl (by simp; try rfl) rfl (by simp) (b_bk_Drum_Of _ _ _ _) (by simp) rfl ?_
        refine drS [1,2,3,4,5] 1 [] [] (mkS 103 [(0,.ptr 0 0),(7,.ptr 2 0),(10,.ptr 4 0),(12,.ptr 5 0),(14,.sl (out_13.map A_Hurdle) (some 0)),(15,i6 i_14),(16,.ptr 6 0),(46,.ptr 0 0),(47,(A_Span r_4.1)),(48,i6 r_36.1),(49,.ptr 0 0),(86,.bool (r_20.1 == 2))]) (by simp) (by kernel_rfl) trivial (by kernel_rfl) ?_
        refine drR 1 1 (([(-1),0,1,300] : List Int).map (AV.int .i64)) rfl rfl (fun _ => by kernel_rfl) (by simp) rfl rfl ?_
        refine drB hT_41.2 1 _ [0] [.ptr 0 0,.sl (([(-1),0,1,300] : List Int).map (AV.int .i64)) (some 1)] (v_bk_Drum_Any r_37) _ _ rfl rfl rfl rfl rfl rfl rfl rfl (by simp; try rfl) rfl (by simp) (b_bk_Drum_Any _ _ _ _) (by simp) rfl ?_
        refine drS [1,2,3,4,5] 7 [] [] (mkS 103 [(0,.ptr 0 0),(7,.ptr 2 0),(10,.ptr 4 0),(12,.ptr 5 0),(14,.sl (out_13.map A_Hurdle) (some 0)),(15,i6 i_14),(16,.ptr 6 0),(46,.ptr 0 0),(47,(A_Span r_4.1)),(48,i6 r_36.1),(49,.ptr 0 0),(50,.sl (([(-1),0,1,300] : List Int).map (AV.int .i64)) (some 1)),(51,i6 r_37.1),(52,i6 (IntKind.i64.wrap (r_36.1 + r_37.1))),(53,i6 (if (IntKind.i64.wrap (r_36.1 + r_37.1)) > 0 then (IntKind.i64.wrap (r_36.1 + r_37.1)) else 0)),(54,.ptr 0 0),(55,.ptr 2 1),(56,i6 r_4.1.Hi),(57,.ptr 0 0),(58,(A_Span r_5.2.1)),(86,.bool (r_20.1 == 2))]) (by simp) (by kernel_rfl) trivial (by kernel_rfl) ?_
        refine drB hT_41.2 2 _ [0] [.ptr 0 0,(A_Span r_5.2.1)] (v_bk_Drum_Of r_38) _ _ rfl rfl rfl rfl rfl rfl rfl rfl (by simp; try rfl) rfl (by simp) (b_bk_Drum_Of _ _ _ _) (by simp) rfl ?_
        refine drS [1,2,3,4,5] 1 [] [] (mkS 103 [(0,.ptr 0 0),(7,.ptr 2 0),(10,.ptr 4 0),(12,.ptr 5 0),(14,.sl (out_13.map A_Hurdle) (some 0)),(15,i6 i_14),(16,.ptr 6 0),(46,.ptr 0 0),(47,(A_Span r_4.1)),(48,i6 r_36.1),(49,.ptr 0 0),(50,.sl (([(-1),0,1,300] : List Int).map (AV.int .i64)) (some 1)),(51,i6 r_37.1),(52,i6 (IntKind.i64.wrap (r_36.1 + r_37.1))),(53,i6 (if (IntKind.i64.wrap (r_36.1 + r_37.1)) > 0 then (IntKind.i64.wrap (r_36.1 + r_37.1)) else 0)),(54,.ptr 0 0),(55,.ptr 2 1),(56,i6 r_4.1.Hi),(57,.ptr 0 0),(58,(A_Span r_5.2.1)),(59,i6 r_38.1),(60,.ptr 0 0),(86,.bool (r_20.1 == 2))]) (by simp) (by kernel_rfl) trivial (by kernel_rfl) ?_
        refine drR 2 1 (([(-1),0,1] : List Int).map (AV.int .i64)) rfl rfl (fun _ => by kernel_rfl) (by simp) rfl rfl ?_
        refine drB hT_41.2 3 _ [0] [.ptr 0 0,.sl (([(-1),0,1] : List Int).map (AV.int .i64)) (some 2)] (v_bk_Drum_Any r_39) _ _ rfl rfl rfl rfl rfl rfl rfl rfl (by simp; try rfl) rfl (by simp) (b_bk_Drum_Any _ _ _ _) (by simp) rfl ?_
        refine drS [1,2,3,4,5] 1 [] [] (mkS 103 [(0,.ptr 0 0),(7,.ptr 2 0),(10,.ptr 4 0),(12,.ptr 5 0),(14,.sl (out_13.map A_Hurdle) (some 0)),(15,i6 i_14),(16,.ptr 6 0),(46,.ptr 0 0),(47,(A_Span r_4.1)),(48,i6 r_36.1),(49,.ptr 0 0),(50,.sl (([(-1),0,1,300] : List Int).map (AV.int .i64)) (some 1)),(51,i6 r_37.1),(52,i6 (IntKind.i64.wrap (r_36.1 + r_37.1))),(53,i6 (if (IntKind.i64.wrap (r_36.1 + r_37.1)) > 0 then (IntKind.i64.wrap (r_36.1 + r_37.1)) else 0)),(54,.ptr 0 0),(55,.ptr 2 1),(56,i6 r_4.1.Hi),(57,.ptr 0 0),(58,(A_Span r_5.2.1)),(59,i6 r_38.1),(60,.ptr 0 0),(61,.sl (([(-1),0,1] : List Int).map (AV.int .i64)) (some 2)),(62,i6 r_39.1),(63,i6 (IntKind.i64.wrap (r_38.1 + r_39.1))),(86,.bool (r_20.1 == 2))]) (by simp) (by kernel_rfl) trivial (by kernel_rfl) ?_
        refine drR 3 1 (([r_4.1.Hi,(IntKind.i64.wrap (r_38.1 + r_39.1))] : List Int).map (AV.int .i64)) rfl rfl (fun _ => by kernel_rfl) (by simp) rfl rfl ?_
        refine drB hT_41.2 4 _ [0] [.ptr 0 0,.sl (([r_4.1.Hi,(IntKind.i64.wrap (r_38.1 + r_39.1))] : List Int).map (AV.int .i64)) (some 3)] (v_bk_Drum_Any r_40) _ _ rfl rfl rfl rfl rfl rfl rfl rfl (by simp; try rfl) rfl (by simp) (b_bk_Drum_Any _ _ _ _) (by simp) rfl ?_
        refine drS [1,2,3,4,5] 2 [] [] (mkS 103 [(0,.ptr 0 0),(7,.ptr 2 0),(10,.ptr 4 0),(12,.ptr 5 0),(14,.sl (out_13.map A_Hurdle) (some 0)),(15,i6 i_14),(16,.ptr 6 0),(46,.ptr 0 0),(47,(A_Span r_4.1)),(48,i6 r_36.1),(49,.ptr 0 0),(50,.sl (([(-1),0,1,300] : List Int).map (AV.int .i64)) (some 1)),(51,i6 r_37.1),(52,i6 (IntKind.i64.wrap (r_36.1 + r_37.1))),(53,i6 (if (IntKind.i64.wrap (r_36.1 + r_37.1)) > 0 then (IntKind.i64.wrap (r_36.1 + r_37.1)) else 0)),(54,.ptr 0 0),(55,.ptr 2 1),(56,i6 r_4.1.Hi),(57,.ptr 0 0),(58,(A_Span r_5.2.1)),(59,i6 r_38.1),(60,.ptr 0 0),(61,.sl (([(-1),0,1] : List Int).map (AV.int .i64)) (some 2)),(62,i6 r_39.1),(63,i6 (IntKind.i64.wrap (r_38.1 + r_39.1))),(64,.sl (([r_4.1.Hi,(IntKind.i64.wrap (r_38.1 + r_39.1))] : List Int).map (AV.int .i64)) (some 3)),(65,i6 r_40.1),(66,i6 (if r_40.1 > 0 then r_40.1 else 0)),(67,.ptr 6 1),(86,.bool (r_20.1 == 2))]) (by simp) (by kernel_rfl) trivial (by kernel_rfl) ?_
        refine drE none none (.tup []) _ _ rfl rfl rfl rfl rfl (by kernel_rfl) trivial ?_
        exact DrO.nil rfl
       ·dsimp only [List.getLastD_cons,List.getLastD_nil]
        refine rn 2 [0,7,10,12,14,15,16] (mkS 103 [(0,.ptr 0 0),(7,.ptr 2 0),(10,.ptr 4 0),(12,.ptr 5 0),(14,.sl (out_13.map A_Hurdle) (some 0)),(15,i6 i_14),(16,.ptr 6 0)]) ⟨[(C_bk_Drum r_40.2),(C_Float f_2),(C_Span r_4.1),(C_Span r_5.1),(C_Span r_5.2.1),(C_Span r_6.1),[i6 r_20.1,i6 (if (IntKind.i64.wrap (r_36.1 + r_37.1)) > 0 then (IntKind.i64.wrap (r_36.1 + r_37.1)) else 0),i6 (if r_40.1 > 0 then r_40.1 else 0)]],[(out_13.length,3),(4,1),(3,1),(2,1)]⟩ ?_
        refine ExO.nil ?_
        (try simp only [reduceCtorEq,AEx.ex.injEq,Nat.reduceEqDiff,if_true,if_false])
        exact ⟨_,_,forgetA (m:=103) 7 [0] [(0,.ptr 0 0),(7,.ptr 2 0),(10,.ptr 4 0),(12,.ptr 5 0),(14,.sl (out_13.map A_Hurdle) (some 0)),(15,i6 i_14),(16,.ptr 6 0)] [(C_bk_Drum r_40.2),(C_Float f_2),(C_Span r_4.1),(C_Span r_5.1),(C_Span r_5.2.1),(C_Span r_6.1),[i6 r_20.1,i6 (if (IntKind.i64.wrap (r_36.1 + r_37.1)) > 0 then (IntKind.i64.wrap (r_36.1 + r_37.1)) else 0),i6 (if r_40.1 > 0 then r_40.1 else 0)]] [(out_13.length,3)] (by simp [setAll]) (by simp) ⟨rfl,rfl,rfl,rfl,(reT (KL_Hurdle _) rfl),rfl,rfl,trivial⟩ (by simp) rfl (by decide),r_40.2.beat_,(if (IntKind.i64.wrap (r_36.1 + r_37.1)) > 0 then (IntKind.i64.wrap (r_36.1 + r_37.1)) else 0),(if r_40.1 > 0 then r_40.1 else 0),h,rfl,rfl⟩
    ·rintro a S ⟨b_21,b_22,b_23,h,rfl,rfl⟩
     subst hK_26
     obtain ⟨l_42,hl_42,h⟩:=bE h
     refine regH 5 [(3,.app (l_42.map A_Hurdle) l_42.length)] [0,7,10,12,14,15] [LApp out_13.length (out_13.map A_Hurdle) (([(⟨r_20.1,b_22,b_23⟩ : T_Hurdle)] : List T_Hurdle).map A_Hurdle) 3 (l_42.map A_Hurdle) l_42.length] (mkS 103 [(0,.ptr 0 0),(7,.ptr 2 0),(10,.ptr 4 0),(12,.ptr 5 0),(14,.sl (l_42.map A_Hurdle) (some 0)),(15,i6 i_14)]) (⟨[[.int .u64 b_21],(C_Float f_2),(C_Span r_4.1),(C_Span r_5.1),(C_Span r_5.2.1),(C_Span r_6.1),[i6 r_20.1,i6 b_22,i6 b_23]],[(l_42.length,3),(1,3)]⟩) (by kernel_rfl) ⟨LApp.of hl_42 (fun _ => rfl),trivial⟩ rfl ?_
     refine rg 3 [0,7,10,12,14,15] (mkS 103 [(0,.ptr 0 0),(7,.ptr 2 0),(10,.ptr 4 0),(12,.ptr 5 0),(14,.sl (l_42.map A_Hurdle) (some 0)),(15,i6 (IntKind.i64.wrap (i_14 - 1)))]) ⟨[[.int .u64 b_21],(C_Float f_2),(C_Span r_4.1),(C_Span r_5.1),(C_Span r_5.2.1),(C_Span r_6.1),[i6 r_20.1,i6 b_22,i6 b_23]],[(l_42.length,3),(1,3)]⟩ ?_
     dsimp only
     exact ⟨_,_,forgetA (m:=103) 6 [0] [(0,.ptr 0 0),(7,.ptr 2 0),(10,.ptr 4 0),(12,.ptr 5 0),(14,.sl (l_42.map A_Hurdle) (some 0)),(15,i6 (IntKind.i64.wrap (i_14 - 1)))] [[.int .u64 b_21],(C_Float f_2),(C_Span r_4.1),(C_Span r_5.1),(C_Span r_5.2.1),(C_Span r_6.1)] [(l_42.length,3)] (by simp [setAll]) (by simp) ⟨rfl,rfl,rfl,rfl,(reT (KL_Hurdle _) rfl),rfl,trivial⟩ (by simp) rfl (by decide),k,Nat.lt_succ_self k,l_42,(IntKind.i64.wrap (i_14 - 1)),b_21,h,rfl,rfl⟩
   ·refine Ex.condF _ rfl hc_19 ?_
    refine Ex.exit ?_
    (try simp only [reduceCtorEq,AEx.ex.injEq,Nat.reduceEqDiff,if_true,if_false])
    exact ⟨_,_,forgetA (m:=103) 1 [0] [(14,.sl (out_13.map A_Hurdle) (some 0))] [[.int .u64 b_15]] [(out_13.length,3)] (by simp [setAll]) (by simp) ⟨(reT (KL_Hurdle _) rfl),trivial⟩ (by simp) rfl (by decide),out_13,b_15,h,rfl,rfl⟩
 ·rintro a S ⟨out_8,b_9,h,rfl,rfl⟩
  subst hK_12
  refine Ex.seq (rg 2 [6] (mkS 103 [(6,.sl (out_8.map A_Hurdle) (some 0))]) ⟨[[.int .u64 b_9]],[(out_8.length,3)]⟩ ?_)
  refine Ex.ret ?_
  obtain rfl:=sJ h
  exact rt (.sl (out_8.map A_Hurdle) (some 0))
end Go.Proofs.Ythfpmjnmaifgaaa
end
