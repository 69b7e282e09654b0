/- Part 7 of what the law needs: own work, put together. -/
import Derived.ProofKit
import Derived.Test.YthfpmjnmaifgaaaRows
import Derived.Test.YthfpmjnmaifgaaaZq5
set_option linter.unusedVariables false
set_option linter.unusedSimpArgs false
set_option maxRecDepth 10000
set_option maxHeartbeats 4000000
section
namespace Go.Proofs.Ythfpmjnmaifgaaa
open Go.RowKit
attribute [local simp] ren ren1 AV.plain AV.plain1 AV.clean cleanL cleanI cleanBo cleanSt cleanII KL_bk_Drum KL_Span KL_Load KL_Float KL_br2_Truth KL_Hurdle KL_V21_i64 KL_truth KL_V2_truth KL_weight A_bk_Drum C_bk_Drum A_Span C_Span A_Load C_Load A_Float C_Float A_br2_Truth C_br2_Truth A_Hurdle C_Hurdle A_V21_i64 C_V21_i64 A_truth C_truth A_V2_truth C_V2_truth A_weight C_weight back back1 List.idxOf? List.findIdx? List.findIdx?.go fadeS fadeV re re1 KB_bk_Drum KB_Span KB_Load KB_Float KB_br2_Truth KB_Hurdle KB_V21_i64 KB_truth KB_V2_truth KB_weight
def p_bl2_span (N : Nat) (low_1 : Int) (high_2 : Int) : Option (T_Span):=some (⟨low_1,high_2⟩ : T_Span)
def v_bl2_span (r : T_Span) : AV:=(A_Span r)
attribute [local simp] v_bl2_span
theorem a_bl2_span (low_1 : Int) (high_2 : Int) : [i6 low_1,i6 high_2].mapM (ren []) = some [i6 low_1,i6 high_2]:=by simp
theorem b_bl2_span (r : T_Span) (n n2 m : Nat) : back n n2 m (v_bl2_span r) = some (v_bl2_span r):=by simp
theorem d_bl2_span (N : Nat) (low_1 : Int) (high_2 : Int) (r : T_Span) (h : p_bl2_span N low_1 high_2 = some r) : Does Try.prog 28 [i6 low_1,i6 high_2] [] fun v c => v = v_bl2_span r ∧ c = []:=by
 unfold p_bl2_span at h
 refine Does.ofL comp28 _ _ rfl rfl ?_
 refine Ex.seq (rg 1 [0,1,4] (mkS 8 [(0,i6 low_1),(1,i6 high_2),(4,.ptr 0 0)]) ⟨[[i6 0,i6 0]],[]⟩ ?_)
 refine Ex.seq (rg 4 [4] (mkS 8 [(4,.ptr 0 0)]) ⟨[[i6 low_1,i6 high_2]],[]⟩ ?_)
 refine Ex.ret ?_
 obtain rfl:=sJ h
 exact rt (.agg [i6 low_1,i6 high_2])
def p_bl2_one (N : Nat) (n_1 : Int) : Option (T_Span):=((p_bl2_span N n_1 n_1).bind fun r_2 => some r_2)
def v_bl2_one (r : T_Span) : AV:=(A_Span r)
attribute [local simp] v_bl2_one
theorem a_bl2_one (n_1 : Int) : [i6 n_1].mapM (ren []) = some [i6 n_1]:=by simp
theorem b_bl2_one (r : T_Span) (n n2 m : Nat) : back n n2 m (v_bl2_one r) = some (v_bl2_one r):=by simp
theorem d_bl2_one (N : Nat) (n_1 : Int) (r : T_Span) (h : p_bl2_one N n_1 = some r) : Does Try.prog 48 [i6 n_1] [] fun v c => v = v_bl2_one r ∧ c = []:=by
 unfold p_bl2_one at h
 refine Does.ofL comp48 _ _ rfl rfl ?_
 refine Ex.seq (rg 1 [0,2] (mkS 6 [(0,i6 n_1),(2,.ptr 0 0)]) ⟨[[i6 0,i6 0]],[]⟩ ?_)
 refine Ex.seq ?_
 obtain ⟨r_2,hr_2,h⟩:=bE h
 refine Ex.reg (rn 2 [2,3,4] (mkS 6 [(2,.ptr 0 0),(3,i6 n_1),(4,i6 n_1)]) ⟨[[i6 0,i6 0]],[]⟩ ?_)
 refine ExO.callL [] [i6 n_1,i6 n_1] rfl rfl (a_bl2_span n_1 n_1) rfl rfl (d_bl2_span N n_1 n_1 r_2 hr_2) (b_bl2_span _ _ _ _) rfl ?_
 refine rn 1 [2] (mkS 6 [(2,.ptr 0 0)]) ⟨[(C_Span r_2)],[]⟩ ?_
 refine ExO.nil ?_
 refine Ex.ret ?_
 obtain rfl:=sJ h
 exact rt ((A_Span r_2))
def p_bl2_swan (N : Nat)  : Option (T_Float):=((p_bl2_span N 500 600).bind fun r_1 => ((p_bl2_span N 450 500).bind fun r_2 => ((p_bl2_one N 1000).bind fun r_3 => ((p_bl2_one N 380).bind fun r_4 => ((p_bl2_span N 100 200).bind fun r_5 => ((p_bl2_span N 300 350).bind fun r_6 => ((p_bl2_one N 50).bind fun r_7 => ((p_bl2_span N 400 520).bind fun r_8 => some (⟨1000,300,200,800,900,4000,500,400,[(⟨300,r_1,r_2,1,0⟩ : T_Load),(⟨700,r_3,r_4,2,5000⟩ : T_Load),(⟨500,r_5,r_6,3,3000⟩ : T_Load),(⟨600,r_7,r_8,4,0⟩ : T_Load)]⟩ : T_Float)))))))))
def v_bl2_swan (r : T_Float) : AV:=(A_Float r)
attribute [local simp] v_bl2_swan
theorem a_bl2_swan  : [].mapM (ren []) = some []:=by simp
theorem b_bl2_swan (r : T_Float) (n n2 m : Nat) : back n n2 m (v_bl2_swan r) = some (v_bl2_swan r):=by simp
theorem d_bl2_swan (N : Nat)  (r : T_Float) (h : p_bl2_swan N  = some r) : Does Try.prog 24 [] [] fun v c => v = v_bl2_swan r ∧ c = []:=by
 unfold p_bl2_swan at h
 refine Does.ofL comp24 _ _ rfl rfl ?_
 refine Ex.seq (rg 1 [0] (mkS 15 [(0,.ptr 0 0)]) ⟨[[i6 0,i6 0,i6 0,i6 0,i6 0,i6 0,i6 0,i6 0,.nils]],[]⟩ ?_)
 refine Ex.seq ?_
 obtain ⟨r_1,hr_1,h⟩:=bE h
 refine Ex.reg ?_
 refine ExO.callL [] [i6 500,i6 600] rfl rfl (a_bl2_span 500 600) rfl rfl (d_bl2_span N 500 600 r_1 hr_1) (b_bl2_span _ _ _ _) rfl ?_
 obtain ⟨r_2,hr_2,h⟩:=bE h
 refine ExO.callL [] [i6 450,i6 500] rfl rfl (a_bl2_span 450 500) rfl rfl (d_bl2_span N 450 500 r_2 hr_2) (b_bl2_span _ _ _ _) rfl ?_
 obtain ⟨r_3,hr_3,h⟩:=bE h
 refine rn 1 [0,3] (mkS 15 [(0,.ptr 0 0),(3,.agg [i6 300,i6 r_1.Lo,i6 r_1.Hi,i6 r_2.Lo,i6 r_2.Hi,i6 1,i6 0])]) ⟨[[i6 0,i6 0,i6 0,i6 0,i6 0,i6 0,i6 0,i6 0,.nils]],[]⟩ ?_
 refine ExO.callL [] [i6 1000] rfl rfl (a_bl2_one 1000) rfl rfl (d_bl2_one N 1000 r_3 hr_3) (b_bl2_one _ _ _ _) rfl ?_
 obtain ⟨r_4,hr_4,h⟩:=bE h
 refine ExO.callL [] [i6 380] rfl rfl (a_bl2_one 380) rfl rfl (d_bl2_one N 380 r_4 hr_4) (b_bl2_one _ _ _ _) rfl ?_
 obtain ⟨r_5,hr_5,h⟩:=bE h
 refine rn 1 [0,3,6] (mkS 15 [(0,.ptr 0 0),(3,.agg [i6 300,i6 r_1.Lo,i6 r_1.Hi,i6 r_2.Lo,i6 r_2.Hi,i6 1,i6 0]),(6,.agg [i6 700,i6 r_3.Lo,i6 r_3.Hi,i6 r_4.Lo,i6 r_4.Hi,i6 2,i6 5000])]) ⟨[[i6 0,i6 0,i6 0,i6 0,i6 0,i6 0,i6 0,i6 0,.nils]],[]⟩ ?_
 refine ExO.callL [] [i6 100,i6 200] rfl rfl (a_bl2_span 100 200) rfl rfl (d_bl2_span N 100 200 r_5 hr_5) (b_bl2_span _ _ _ _) rfl ?_
 obtain ⟨r_6,hr_6,h⟩:=bE h
 refine ExO.callL [] [i6 300,i6 350] rfl rfl (a_bl2_span 300 350) rfl rfl (d_bl2_span N 300 350 r_6 hr_6) (b_bl2_span _ _ _ _) rfl ?_
 obtain ⟨r_7,hr_7,h⟩:=bE h
 refine rn 1 [0,3,6,9] (mkS 15 [(0,.ptr 0 0),(3,.agg [i6 300,i6 r_1.Lo,i6 r_1.Hi,i6 r_2.Lo,i6 r_2.Hi,i6 1,i6 0]),(6,.agg [i6 700,i6 r_3.Lo,i6 r_3.Hi,i6 r_4.Lo,i6 r_4.Hi,i6 2,i6 5000]),(9,.agg [i6 500,i6 r_5.Lo,i6 r_5.Hi,i6 r_6.Lo,i6 r_6.Hi,i6 3,i6 3000])]) ⟨[[i6 0,i6 0,i6 0,i6 0,i6 0,i6 0,i6 0,i6 0,.nils]],[]⟩ ?_
 refine ExO.callL [] [i6 50] rfl rfl (a_bl2_one 50) rfl rfl (d_bl2_one N 50 r_7 hr_7) (b_bl2_one _ _ _ _) rfl ?_
 obtain ⟨r_8,hr_8,h⟩:=bE h
 refine ExO.callL [] [i6 400,i6 520] rfl rfl (a_bl2_span 400 520) rfl rfl (d_bl2_span N 400 520 r_8 hr_8) (b_bl2_span _ _ _ _) rfl ?_
 refine rn 4 [0] (mkS 15 [(0,.ptr 0 0)]) ⟨[[i6 1000,i6 300,i6 200,i6 800,i6 900,i6 4000,i6 500,i6 400,.sl (([(⟨300,r_1,r_2,1,0⟩ : T_Load),(⟨700,r_3,r_4,2,5000⟩ : T_Load),(⟨500,r_5,r_6,3,3000⟩ : T_Load),(⟨600,r_7,r_8,4,0⟩ : T_Load)] : List T_Load).map A_Load) (some 0)]],[(4,7)]⟩ ?_
 refine ExO.nil ?_
 refine Ex.ret ?_
 obtain rfl:=sJ h
 exact rt (.agg [i6 1000,i6 300,i6 200,i6 800,i6 900,i6 4000,i6 500,i6 400,.sl (([(⟨300,r_1,r_2,1,0⟩ : T_Load),(⟨700,r_3,r_4,2,5000⟩ : T_Load),(⟨500,r_5,r_6,3,3000⟩ : T_Load),(⟨600,r_7,r_8,4,0⟩ : T_Load)] : List T_Load).map A_Load) (some 0)])
def p_bl2_hurdle (N : Nat) (kind_1 : Int) (a_2 : Int) (b_3 : Int) : Option (T_Hurdle):=some (⟨kind_1,a_2,b_3⟩ : T_Hurdle)
def v_bl2_hurdle (r : T_Hurdle) : AV:=(A_Hurdle r)
attribute [local simp] v_bl2_hurdle
theorem a_bl2_hurdle (kind_1 : Int) (a_2 : Int) (b_3 : Int) : [i6 kind_1,i6 a_2,i6 b_3].mapM (ren []) = some [i6 kind_1,i6 a_2,i6 b_3]:=by simp
theorem b_bl2_hurdle (r : T_Hurdle) (n n2 m : Nat) : back n n2 m (v_bl2_hurdle r) = some (v_bl2_hurdle r):=by simp
theorem d_bl2_hurdle (N : Nat) (kind_1 : Int) (a_2 : Int) (b_3 : Int) (r : T_Hurdle) (h : p_bl2_hurdle N kind_1 a_2 b_3 = some r) : Does Try.prog 25 [i6 kind_1,i6 a_2,i6 b_3] [] fun v c => v = v_bl2_hurdle r ∧ c = []:=by
 unfold p_bl2_hurdle at h
 refine Does.ofL comp25 _ _ rfl rfl ?_
 refine Ex.seq (rg 1 [0,1,2,6] (mkS 11 [(0,i6 kind_1),(1,i6 a_2),(2,i6 b_3),(6,.ptr 0 0)]) ⟨[[i6 0,i6 0,i6 0]],[]⟩ ?_)
 refine Ex.seq (rg 5 [6] (mkS 11 [(6,.ptr 0 0)]) ⟨[[i6 kind_1,i6 a_2,i6 b_3]],[]⟩ ?_)
 refine Ex.ret ?_
 obtain rfl:=sJ h
 exact rt (.agg [i6 kind_1,i6 a_2,i6 b_3])
def p_bl2_middle (N : Nat) (n_1 : Int) : Option (T_Float):=((p_bl2_swan N).bind fun r_2 => some (⟨r_2.Length,r_2.Width,r_2.Front,r_2.Rear,r_2.Turn,r_2.Kilos,n_1,r_2.High,r_2.Loads⟩ : T_Float))
def v_bl2_middle (r : T_Float) : AV:=(A_Float r)
attribute [local simp] v_bl2_middle
theorem a_bl2_middle (n_1 : Int) : [i6 n_1].mapM (ren []) = some [i6 n_1]:=by simp
theorem b_bl2_middle (r : T_Float) (n n2 m : Nat) : back n n2 m (v_bl2_middle r) = some (v_bl2_middle r):=by simp
theorem d_bl2_middle (N : Nat) (n_1 : Int) (r : T_Float) (h : p_bl2_middle N n_1 = some r) : Does Try.prog 27 [i6 n_1] [] fun v c => v = v_bl2_middle r ∧ c = []:=by
 unfold p_bl2_middle at h
 refine Does.ofL comp27 _ _ rfl rfl ?_
 refine Ex.seq (rg 1 [0,2] (mkS 8 [(0,i6 n_1),(2,.ptr 0 0)]) ⟨[[i6 0,i6 0,i6 0,i6 0,i6 0,i6 0,i6 0,i6 0,.nils]],[]⟩ ?_)
 refine Ex.seq ?_
 obtain ⟨r_2,hr_2,h⟩:=bE h
 refine Ex.reg ?_
 refine ExO.callL [] [] rfl rfl (a_bl2_swan) rfl rfl (d_bl2_swan N r_2 hr_2) (b_bl2_swan _ _ _ _) rfl ?_
 refine rn 2 [0,2,3] (mkS 8 [(0,i6 n_1),(2,.ptr 0 0),(3,.ptr 1 0)]) ⟨[[i6 0,i6 0,i6 0,i6 0,i6 0,i6 0,i6 0,i6 0,.nils],(C_Float r_2)],[]⟩ ?_
 refine ExO.nil ?_
 refine Ex.seq (rg 3 [2,3] (mkS 8 [(2,.ptr 0 0),(3,.ptr 1 0)]) ⟨[[i6 0,i6 0,i6 0,i6 0,i6 0,i6 0,i6 0,i6 0,.nils],[i6 r_2.Length,i6 r_2.Width,i6 r_2.Front,i6 r_2.Rear,i6 r_2.Turn,i6 r_2.Kilos,i6 n_1,i6 r_2.High,.sl (r_2.Loads.map A_Load) none]],[]⟩ ?_)
 refine Ex.seq (rg 2 [2] (mkS 8 [(2,.ptr 0 0)]) ⟨[[i6 r_2.Length,i6 r_2.Width,i6 r_2.Front,i6 r_2.Rear,i6 r_2.Turn,i6 r_2.Kilos,i6 n_1,i6 r_2.High,.sl (r_2.Loads.map A_Load) none],[i6 r_2.Length,i6 r_2.Width,i6 r_2.Front,i6 r_2.Rear,i6 r_2.Turn,i6 r_2.Kilos,i6 n_1,i6 r_2.High,.sl (r_2.Loads.map A_Load) none]],[]⟩ ?_)
 refine Ex.ret ?_
 obtain rfl:=sJ h
 exact rt (.agg [i6 r_2.Length,i6 r_2.Width,i6 r_2.Front,i6 r_2.Rear,i6 r_2.Turn,i6 r_2.Kilos,i6 n_1,i6 r_2.High,.sl (r_2.Loads.map A_Load) none])
def p_bk_EqInts (N : Nat) (a_1 : (List Int)) (b_2 : (List Int)) : Option (Bool):=(bif (((a_1.length : Nat) : Int) != ((b_2.length : Nat) : Int)) then some false else (letJ (fun (_ : Unit) => some true) (fun k_4 => (loop1 (fun rec_8 (i_7 : Int) => (bif (decide (i_7 < ((a_1.length : Nat) : Int))) then ((getI a_1 i_7).bind fun x_12 => ((getI b_2 i_7).bind fun x_13 => (bif (x_12 != x_13) then some false else (rec_8 (IntKind.i64.wrap (i_7 + 1)))))) else (k_4 ()))) N 0))))
def v_bk_EqInts (r : Bool) : AV:=.bool r
attribute [local simp] v_bk_EqInts
theorem b_bk_EqInts (r : Bool) (n n2 m : Nat) : back n n2 m (v_bk_EqInts r) = some (v_bk_EqInts r):=by simp
theorem d_bk_EqInts (N : Nat) (a_1 : (List Int)) (b_2 : (List Int)) (r : Bool) (h : p_bk_EqInts N a_1 b_2 = some r) : Does Try.prog 29 [.sl (a_1.map (AV.int .i64)) none,.sl (b_2.map (AV.int .i64)) none] [] fun v c => v = v_bk_EqInts r ∧ c = []:=by
 unfold p_bk_EqInts at h
 refine Does.ofL comp29 _ _ rfl rfl ?_
 refine Ex.seq (rg 1 [0,1] (mkS 26 [(0,.sl (a_1.map (AV.int .i64)) none),(1,.sl (b_2.map (AV.int .i64)) none)]) ⟨[],[]⟩ ?_)
 refine Ex.seq (Ex.seq ?_)
 refine regH 5 [(1,.eq (i6 ((a_1.length : Nat) : Int))),(3,.eq (i6 ((b_2.length : Nat) : Int)))] [0,1,10] [AV.int .i64 (((a_1.map (AV.int .i64)).length : Nat) : Int) = AV.int .i64 ((a_1.length : Nat) : Int),AV.int .i64 (((b_2.map (AV.int .i64)).length : Nat) : Int) = AV.int .i64 ((b_2.length : Nat) : Int)] (mkS 26 [(0,.sl (a_1.map (AV.int .i64)) none),(1,.sl (b_2.map (AV.int .i64)) none),(10,.bool (((a_1.length : Nat) : Int) != ((b_2.length : Nat) : Int)))]) (⟨[],[]⟩) (by kernel_rfl) ⟨lenM _ _,lenM _ _,trivial⟩ rfl ?_
 rcases condI h with ⟨hc_3,h⟩ | ⟨hc_3,h⟩
 ·refine Ex.condT _ rfl hc_3 ?_
  refine Ex.seq (rg 1 [4] (mkS 26 [(4,.bool false)]) ⟨[],[]⟩ ?_)
  refine Ex.ret ?_
  obtain rfl:=sJ h
  exact rt (.bool false)
 ·refine Ex.condF _ rfl hc_3 ?_
  refine Ex.skip ?_
  refine Ex.seq (Ex.seq ?_)
  refine rg 1 [0,1,5] (mkS 26 [(0,.sl (a_1.map (AV.int .i64)) none),(1,.sl (b_2.map (AV.int .i64)) none),(5,i6 0)]) ⟨[],[]⟩ ?_
  obtain ⟨K_5,hK_6,h⟩:=letE h
  refine Ex.blockJ (fun a S => K_5 () = some r ∧ a = mkS 26 [] ∧ S = ⟨[],[]⟩) ?_ ?_
  ·obtain ⟨B_9,hB_10,h⟩:=loop1I h
   refine Ex.loopF (fun k a S => ∃ (i_7 : Int),loop1 B_9 k i_7 = some r ∧ a = mkS 26 [(0,.sl (a_1.map (AV.int .i64)) none),(1,.sl (b_2.map (AV.int .i64)) none),(5,i6 i_7)] ∧ S = ⟨[],[]⟩) N ⟨_,_,Forgets.refl _ _ _,0,h,rfl,rfl⟩ ?_
   rintro k a S ⟨i_7,h,rfl,rfl⟩
   cases k with
   | zero => exact (loop1Z h).elim
   | succ k =>
    replace h:=loop1S h hB_10
    refine Ex.seq (Ex.seq ?_)
    refine regH 4 [(2,.eq (i6 ((a_1.length : Nat) : Int)))] [0,1,5,14] [AV.int .i64 (((a_1.map (AV.int .i64)).length : Nat) : Int) = AV.int .i64 ((a_1.length : Nat) : Int)] (mkS 26 [(0,.sl (a_1.map (AV.int .i64)) none),(1,.sl (b_2.map (AV.int .i64)) none),(5,i6 i_7),(14,.bool (decide (i_7 < ((a_1.length : Nat) : Int))))]) (⟨[],[]⟩) (by kernel_rfl) ⟨lenM _ _,trivial⟩ rfl ?_
    rcases condI h with ⟨hc_11,h⟩ | ⟨hc_11,h⟩
    ·refine Ex.condT _ rfl hc_11 ?_
     refine Ex.skip ?_
     refine Ex.seq ?_
     refine Ex.blockK ?_
     refine Ex.seq ?_
     obtain ⟨x_12,hx_12,h⟩:=bE h
     obtain ⟨x_13,hx_13,h⟩:=bE h
     refine Ex.drawE (a1:=mkS 26 [(0,.sl (a_1.map (AV.int .i64)) none),(1,.sl (b_2.map (AV.int .i64)) none),(5,i6 i_7),(14,.bool (decide (i_7 < ((a_1.length : Nat) : Int)))),(17,.sl (a_1.map (AV.int .i64)) none),(18,i6 i_7),(19,.rop [i6 x_12]),(20,i6 x_12),(21,.sl (b_2.map (AV.int .i64)) none),(22,i6 i_7),(23,.rop [i6 x_13]),(24,i6 x_13)]) (noClr_ok _) [] [] [] ?_ ?_
     ·refine drS [] 8 [(2, .rop [i6 x_12]), (6, .rop [i6 x_13])] [LGet (a_1.map (AV.int .i64)) i_7 1 [i6 x_12], LGet (b_2.map (AV.int .i64)) i_7 1 [i6 x_13]] (mkS 26 [(0, .sl (a_1.map (AV.int .i64)) none), (1, .sl (b_2.map (AV.int .i64)) none), (5, i6 i_7), (14, .bool (decide (i_7 < ((a_1.length : Nat) : Int)))), (17, .sl (a_1.map (AV.int .i64)) none), (18, i6 i_7), (19, .rop [i6 x_12]), (20, i6 x_12), (21, .sl (b_2.map (AV.int .i64)) none), (22, i6 i_7), (23, .rop [i6 x_13]), (24, i6 x_13)]) (by simp) (by kernel_rfl) ⟨LGet.of hx_12 rfl, LGet.of hx_13 rfl, trivial⟩ (by kernel_rfl) ?_
      exact DrO.nil rfl
     ·dsimp only [List.getLastD_cons,List.getLastD_nil]
      refine rn 1 [0,1,5,25] (mkS 26 [(0,.sl (a_1.map (AV.int .i64)) none),(1,.sl (b_2.map (AV.int .i64)) none),(5,i6 i_7),(25,.bool (x_12 != x_13))]) ⟨[],[]⟩ ?_
      refine ExO.nil ?_
      rcases condI h with ⟨hc_14,h⟩ | ⟨hc_14,h⟩
      ·refine Ex.condT _ rfl hc_14 ?_
       refine Ex.seq (rg 1 [4] (mkS 26 [(4,.bool false)]) ⟨[],[]⟩ ?_)
       refine Ex.ret ?_
       obtain rfl:=sJ h
       exact rt (.bool false)
      ·refine Ex.condF _ rfl hc_14 ?_
       refine Ex.skip ?_
       refine rg 3 [0,1,5] (mkS 26 [(0,.sl (a_1.map (AV.int .i64)) none),(1,.sl (b_2.map (AV.int .i64)) none),(5,i6 (IntKind.i64.wrap (i_7 + 1)))]) ⟨[],[]⟩ ?_
       dsimp only
       exact ⟨_,_,Forgets.refl _ _ _,k,Nat.lt_succ_self k,(IntKind.i64.wrap (i_7 + 1)),h,rfl,rfl⟩
    ·refine Ex.condF _ rfl hc_11 ?_
     refine Ex.exit ?_
     (try simp only [reduceCtorEq,AEx.ex.injEq,Nat.reduceEqDiff,if_true,if_false])
     exact ⟨_,_,forgetK [],h,rfl,rfl⟩
  ·rintro a S ⟨h,rfl,rfl⟩
   subst hK_6
   refine Ex.seq (rg 1 [4] (mkS 26 [(4,.bool true)]) ⟨[],[]⟩ ?_)
   refine Ex.ret ?_
   obtain rfl:=sJ h
   exact rt (.bool true)
theorem k_bl2_span (N : Nat) (low_1 : Int) (high_2 : Int) (low_1z : Int) (high_2z : Int) (r s : T_Span) (hr : p_bl2_span N low_1 high_2 = some r) (hs : p_bl2_span N low_1z high_2z = some s) : ConsR ⟨28,[i6 low_1,i6 high_2],[],v_bl2_span r,[]⟩ ⟨28,[i6 low_1z,i6 high_2z],[],v_bl2_span s,[]⟩:=by
 intro _ h1 h2
 have h1 : ([i6 low_1,i6 high_2] : List AV) = [i6 low_1z,i6 high_2z]:=h1
 have h2 : ([] : List (List AV)) = []:=h2
 obtain rfl : low_1 = low_1z:=(intInj _) _ _ (List.cons.inj h1).1
 obtain rfl : high_2 = high_2z:=(intInj _) _ _ (List.cons.inj (List.cons.inj h1).2).1
 rw [hr] at hs; cases hs; exact ⟨rfl,rfl⟩
def p_bl2_awake (N : Nat)  : Option (Bool):=((p_bl2_swan N).bind fun r_1 => ((p_Axles N r_1).bind fun r_2 => ((p_bl2_swan N).bind fun r_3 => ((p_bl2_hurdle N 1 700 1400).bind fun r_4 => ((p_bl2_hurdle N 2 519 0).bind fun r_5 => ((p_bl2_hurdle N 3 5649 3067).bind fun r_6 => ((p_Passes N r_3 [r_4,r_5,r_6]).bind fun r_7 => ((p_bl2_middle N 900).bind fun r_8 => ((p_Ballast N r_8 [] 200).bind fun r_9 => (bif (r_2.2.2 == 0) then (bif (r_7.2 == 0) then (bif (r_9.2 == 0) then ((p_bl2_span N 2650 2784).bind fun r_13 => (bif ((r_2.1.Lo == r_13.Lo) && ((r_2.1.Hi == r_13.Hi) && true)) then ((p_bl2_span N 3000 3067).bind fun r_15 => (bif ((r_2.2.1.Lo == r_15.Lo) && ((r_2.2.1.Hi == r_15.Hi) && true)) then ((p_bk_EqInts N r_7.1 [1,3,2]).bind fun r_17 => (bif r_17 then ((p_bl2_span N 17 100000).bind fun r_19 => some ((r_9.1.Lo == r_19.Lo) && ((r_9.1.Hi == r_19.Hi) && true))) else some false)) else some false)) else some false)) else some false) else some false) else some false))))))))))
def v_bl2_awake (r : Bool) : AV:=.bool r
attribute [local simp] v_bl2_awake
theorem a_bl2_awake  : [].mapM (ren []) = some []:=by simp
theorem b_bl2_awake (r : Bool) (n n2 m : Nat) : back n n2 m (v_bl2_awake r) = some (v_bl2_awake r):=by simp
theorem d_bl2_awake (N : Nat)  (r : Bool) (h : p_bl2_awake N  = some r) : Does Try.prog 10 [] [] fun v c => v = v_bl2_awake r ∧ c = []:=by
 unfold p_bl2_awake at h
 refine Does.ofL comp10 _ _ rfl rfl ?_
 refine Ex.seq (rg 1 [] (mkS 58 []) ⟨[],[]⟩ ?_)
 refine Ex.seq ?_
 obtain ⟨r_1,hr_1,h⟩:=bE h
 refine Ex.reg ?_
 refine ExO.callL [] [] rfl rfl (a_bl2_swan) rfl rfl (d_bl2_swan N r_1 hr_1) (b_bl2_swan _ _ _ _) rfl ?_
 obtain ⟨r_2,hr_2,h⟩:=bE h
 refine ExO.callL [] [(A_Float r_1)] rfl rfl (a_Axles r_1) rfl rfl (d_Axles N r_1 r_2 hr_2) (b_Axles _ _ _ _) rfl ?_
 refine rn 9 [1,2,3] (mkS 58 [(1,.ptr 0 0),(2,.ptr 1 0),(3,i6 r_2.2.2)]) ⟨[(C_Span r_2.1),(C_Span r_2.2.1)],[]⟩ ?_
 refine ExO.nil ?_
 refine Ex.seq ?_
 obtain ⟨r_3,hr_3,h⟩:=bE h
 refine Ex.reg ?_
 refine ExO.callL [] [] rfl rfl (a_bl2_swan) rfl rfl (d_bl2_swan N r_3 hr_3) (b_bl2_swan _ _ _ _) rfl ?_
 obtain ⟨r_4,hr_4,h⟩:=bE h
 refine ExO.callL [] [i6 1,i6 700,i6 1400] rfl rfl (a_bl2_hurdle 1 700 1400) rfl rfl (d_bl2_hurdle N 1 700 1400 r_4 hr_4) (b_bl2_hurdle _ _ _ _) rfl ?_
 obtain ⟨r_5,hr_5,h⟩:=bE h
 refine ExO.callL [] [i6 2,i6 519,i6 0] rfl rfl (a_bl2_hurdle 2 519 0) rfl rfl (d_bl2_hurdle N 2 519 0 r_5 hr_5) (b_bl2_hurdle _ _ _ _) rfl ?_
 obtain ⟨r_6,hr_6,h⟩:=bE h
 refine ExO.callL [] [i6 3,i6 5649,i6 3067] rfl rfl (a_bl2_hurdle 3 5649 3067) rfl rfl (d_bl2_hurdle N 3 5649 3067 r_6 hr_6) (b_bl2_hurdle _ _ _ _) rfl ?_
 obtain ⟨r_7,hr_7,h⟩:=bE h
 refine rn 1 [1,2,3,15,19] (mkS 58 [(1,.ptr 0 0),(2,.ptr 1 0),(3,i6 r_2.2.2),(15,(A_Float r_3)),(19,.sl (([r_4,r_5,r_6] : List T_Hurdle).map A_Hurdle) (some 0))]) ⟨[(C_Span r_2.1),(C_Span r_2.2.1)],[(3,3)]⟩ ?_
 refine ExO.callL [] [(A_Float r_3),.sl (([r_4,r_5,r_6] : List T_Hurdle).map A_Hurdle) (some 0)] rfl rfl (a_Passes r_3 [r_4,r_5,r_6]) rfl rfl (d_Passes N r_3 [r_4,r_5,r_6] r_7 hr_7) (b_Passes _ _ _ _) rfl ?_
 refine rn 5 [1,2,3,4,5] (mkS 58 [(1,.ptr 0 0),(2,.ptr 1 0),(3,i6 r_2.2.2),(4,.sl (r_7.1.map (AV.int .i64)) none),(5,i6 r_7.2)]) ⟨[(C_Span r_2.1),(C_Span r_2.2.1)],[(3,3)]⟩ ?_
 refine ExO.nil ?_
 refine Ex.seq ?_
 obtain ⟨r_8,hr_8,h⟩:=bE h
 refine Ex.reg ?_
 refine ExO.callL [] [i6 900] rfl rfl (a_bl2_middle 900) rfl rfl (d_bl2_middle N 900 r_8 hr_8) (b_bl2_middle _ _ _ _) rfl ?_
 obtain ⟨r_9,hr_9,h⟩:=bE h
 refine ExO.callL [] [(A_Float r_8),.nils,i6 200] rfl rfl (a_Ballast r_8 [] 200) rfl rfl (d_Ballast N r_8 [] 200 r_9 hr_9) (b_Ballast _ _ _ _) rfl ?_
 refine rn 6 [1,2,3,4,5,6,7] (mkS 58 [(1,.ptr 0 0),(2,.ptr 1 0),(3,i6 r_2.2.2),(4,.sl (r_7.1.map (AV.int .i64)) none),(5,i6 r_7.2),(6,.ptr 2 0),(7,i6 r_9.2)]) ⟨[(C_Span r_2.1),(C_Span r_2.2.1),(C_Span r_9.1)],[(3,3)]⟩ ?_
 refine ExO.nil ?_
 refine Ex.seq ?_
 rcases condI h with ⟨hc_10,h⟩ | ⟨hc_10,h⟩
 ·rcases condI h with ⟨hc_11,h⟩ | ⟨hc_11,h⟩
  ·rcases condI h with ⟨hc_12,h⟩ | ⟨hc_12,h⟩
   ·obtain ⟨r_13,hr_13,h⟩:=bE h
    rcases condI h with ⟨hc_14,h⟩ | ⟨hc_14,h⟩
    ·obtain ⟨r_15,hr_15,h⟩:=bE h
     rcases condI h with ⟨hc_16,h⟩ | ⟨hc_16,h⟩
     ·obtain ⟨r_17,hr_17,h⟩:=bE h
      rcases condI h with ⟨hc_18,h⟩ | ⟨hc_18,h⟩
      ·obtain ⟨r_19,hr_19,h⟩:=bE h
       have hT_20 : DoesA Try.prog [⟨28,[i6 2650,i6 2784],[],(v_bl2_span r_13),[]⟩,⟨28,[i6 3000,i6 3067],[],(v_bl2_span r_15),[]⟩,⟨29,[.sl (r_7.1.map (AV.int .i64)) none,.sl (([1,3,2] : List Int).map (AV.int .i64)) none],[],(v_bk_EqInts r_17),[]⟩,⟨28,[i6 17,i6 100000],[],(v_bl2_span r_19),[]⟩] ∧ ConsA [⟨28,[i6 2650,i6 2784],[],(v_bl2_span r_13),[]⟩,⟨28,[i6 3000,i6 3067],[],(v_bl2_span r_15),[]⟩,⟨29,[.sl (r_7.1.map (AV.int .i64)) none,.sl (([1,3,2] : List Int).map (AV.int .i64)) none],[],(v_bk_EqInts r_17),[]⟩,⟨28,[i6 17,i6 100000],[],(v_bl2_span r_19),[]⟩]:=⟨⟨(d_bl2_span N 2650 2784 r_13 hr_13),rfl,(d_bl2_span N 3000 3067 r_15 hr_15),rfl,(d_bk_EqInts N r_7.1 [1,3,2] r_17 hr_17),rfl,(d_bl2_span N 17 100000 r_19 hr_19),rfl,trivial⟩,⟨⟨k_bl2_span N 2650 2784 3000 3067 r_13 r_15 hr_13 hr_15,ConsR.ne rfl,k_bl2_span N 2650 2784 17 100000 r_13 r_19 hr_13 hr_19,trivial⟩,⟨ConsR.ne rfl,k_bl2_span N 3000 3067 17 100000 r_15 r_19 hr_15 hr_19,trivial⟩,⟨ConsR.ne rfl,trivial⟩,trivial,trivial⟩⟩
       refine Ex.drawE (a1:=mkS 58 [(1,.ptr 0 0),(2,.ptr 1 0),(3,i6 r_2.2.2),(4,.sl (r_7.1.map (AV.int .i64)) none),(5,i6 r_7.2),(6,.ptr 2 0),(7,i6 r_9.2),(28,i6 r_2.2.2),(29,.bool (r_2.2.2 == 0)),(30,.bool true),(31,i6 r_7.2),(32,.bool (r_7.2 == 0)),(33,.bool (r_7.2 == 0)),(34,.bool true),(35,i6 r_9.2),(36,.bool (r_9.2 == 0)),(37,.bool (r_9.2 == 0)),(38,.bool true),(39,(A_Span r_2.1)),(40,(A_Span r_13)),(41,.bool ((r_2.1.Lo == r_13.Lo) && ((r_2.1.Hi == r_13.Hi) && true))),(42,.bool ((r_2.1.Lo == r_13.Lo) && ((r_2.1.Hi == r_13.Hi) && true))),(43,.bool true),(44,(A_Span r_2.2.1)),(45,(A_Span r_15)),(46,.bool ((r_2.2.1.Lo == r_15.Lo) && ((r_2.2.1.Hi == r_15.Hi) && true))),(47,.bool ((r_2.2.1.Lo == r_15.Lo) && ((r_2.2.1.Hi == r_15.Hi) && true))),(48,.bool true),(49,.sl (r_7.1.map (AV.int .i64)) none),(50,.sl (([1,3,2] : List Int).map (AV.int .i64)) (some 1)),(51,.bool r_17),(52,.bool r_17),(53,.bool true),(54,(A_Span r_9.1)),(55,(A_Span r_19))]) (tabO_ok hT_20.1) [] [(3,1)] [] ?_ ?_
       ·refine drS [0, 1, 2] 12 [(2, .eq (.bool true)), (6, .eq (.bool true)), (10, .eq (.bool true))] [AV.bool (r_2.2.2 == 0) = AV.bool true, AV.bool (r_7.2 == 0) = AV.bool true, AV.bool (r_9.2 == 0) = AV.bool true] (mkS 58 [(1, .ptr 0 0), (2, .ptr 1 0), (3, i6 r_2.2.2), (4, .sl (r_7.1.map (AV.int .i64)) none), (5, i6 r_7.2), (6, .ptr 2 0), (7, i6 r_9.2), (28, i6 r_2.2.2), (29, .bool (r_2.2.2 == 0)), (30, .bool true), (31, i6 r_7.2), (32, .bool (r_7.2 == 0)), (33, .bool (r_7.2 == 0)), (34, .bool true), (35, i6 r_9.2), (36, .bool (r_9.2 == 0)), (37, .bool (r_9.2 == 0)), (38, .bool true), (39, (A_Span r_2.1))]) (by simp) (by kernel_rfl) ⟨congrArg AV.bool hc_10, congrArg AV.bool hc_11, congrArg AV.bool hc_12, trivial⟩ (by kernel_rfl) ?_
        refine drC hT_20.2 0 _ [i6 2650,i6 2784] (v_bl2_span r_13) rfl rfl rfl rfl rfl (fun _ => rfl) rfl (by simp; try rfl) (fun _ => b_bl2_span _ _ _ _) ?_
        refine drS [0,1,2] 4 [(2,.eq (.bool true))] [AV.bool ((r_2.1.Lo == r_13.Lo) && ((r_2.1.Hi == r_13.Hi) && true)) = AV.bool true] (mkS 58 [(1,.ptr 0 0),(2,.ptr 1 0),(3,i6 r_2.2.2),(4,.sl (r_7.1.map (AV.int .i64)) none),(5,i6 r_7.2),(6,.ptr 2 0),(7,i6 r_9.2),(28,i6 r_2.2.2),(29,.bool (r_2.2.2 == 0)),(30,.bool true),(31,i6 r_7.2),(32,.bool (r_7.2 == 0)),(33,.bool (r_7.2 == 0)),(34,.bool true),(35,i6 r_9.2),(36,.bool (r_9.2 == 0)),(37,.bool (r_9.2 == 0)),(38,.bool true),(39,(A_Span r_2.1)),(40,(A_Span r_13)),(41,.bool ((r_2.1.Lo == r_13.Lo) && ((r_2.1.Hi == r_13.Hi) && true))),(42,.bool ((r_2.1.Lo == r_13.Lo) && ((r_2.1.Hi == r_13.Hi) && true))),(43,.bool true),(44,(A_Span r_2.2.1))]) (by simp) (by kernel_rfl) ⟨congrArg AV.bool hc_14,trivial⟩ (by kernel_rfl) ?_
        refine drC hT_20.2 1 _ [i6 3000,i6 3067] (v_bl2_span r_15) rfl rfl rfl rfl rfl (fun _ => rfl) rfl (by simp; try rfl) (fun _ => b_bl2_span _ _ _ _) ?_
        refine drS [0,1,2] 4 [(2,.eq (.bool true))] [AV.bool ((r_2.2.1.Lo == r_15.Lo) && ((r_2.2.1.Hi == r_15.Hi) && true)) = AV.bool true] (mkS 58 [(1,.ptr 0 0),(2,.ptr 1 0),(3,i6 r_2.2.2),(4,.sl (r_7.1.map (AV.int .i64)) none),(5,i6 r_7.2),(6,.ptr 2 0),(7,i6 r_9.2),(28,i6 r_2.2.2),(29,.bool (r_2.2.2 == 0)),(30,.bool true),(31,i6 r_7.2),(32,.bool (r_7.2 == 0)),(33,.bool (r_7.2 == 0)),(34,.bool true),(35,i6 r_9.2),(36,.bool (r_9.2 == 0)),(37,.bool (r_9.2 == 0)),(38,.bool true),(39,(A_Span r_2.1)),(40,(A_Span r_13)),(41,.bool ((r_2.1.Lo == r_13.Lo) && ((r_2.1.Hi == r_13.Hi) && true))),(42,.bool ((r_2.1.Lo == r_13.Lo) && ((r_2.1.Hi == r_13.Hi) && true))),(43,.bool true),(44,(A_Span r_2.2.1)),(45,(A_Span r_15)),(46,.bool ((r_2.2.1.Lo == r_15.Lo) && ((r_2.2.1.Hi == r_15.Hi) && true))),(47,.bool ((r_2.2.1.Lo == r_15.Lo) && ((r_2.2.1.Hi == r_15.Hi) && true))),(48,.bool true),(49,.sl (r_7.1.map (AV.int .i64)) none)]) (by simp) (by kernel_rfl) ⟨congrArg AV.bool hc_16,trivial⟩ (by kernel_rfl) ?_
        refine drR 1 1 (([1,3,2] : List Int).map (AV.int .i64)) rfl rfl (fun _ => by kernel_rfl) (by simp) rfl rfl ?_
        refine drC hT_20.2 2 _ [.sl (r_7.1.map (AV.int .i64)) none,.sl (([1,3,2] : List Int).map (AV.int .i64)) (some 1)] (v_bk_EqInts r_17) rfl rfl rfl rfl rfl (fun _ => rfl) rfl (by simp; try rfl) (fun _ => b_bk_EqInts _ _ _ _) ?_
        refine drS [0,1,2] 3 [(1,.eq (.bool true))] [AV.bool r_17 = AV.bool true] (mkS 58 [(1,.ptr 0 0),(2,.ptr 1 0),(3,i6 r_2.2.2),(4,.sl (r_7.1.map (AV.int .i64)) none),(5,i6 r_7.2),(6,.ptr 2 0),(7,i6 r_9.2),(28,i6 r_2.2.2),(29,.bool (r_2.2.2 == 0)),(30,.bool true),(31,i6 r_7.2),(32,.bool (r_7.2 == 0)),(33,.bool (r_7.2 == 0)),(34,.bool true),(35,i6 r_9.2),(36,.bool (r_9.2 == 0)),(37,.bool (r_9.2 == 0)),(38,.bool true),(39,(A_Span r_2.1)),(40,(A_Span r_13)),(41,.bool ((r_2.1.Lo == r_13.Lo) && ((r_2.1.Hi == r_13.Hi) && true))),(42,.bool ((r_2.1.Lo == r_13.Lo) && ((r_2.1.Hi == r_13.Hi) && true))),(43,.bool true),(44,(A_Span r_2.2.1)),(45,(A_Span r_15)),(46,.bool ((r_2.2.1.Lo == r_15.Lo) && ((r_2.2.1.Hi == r_15.Hi) && true))),(47,.bool ((r_2.2.1.Lo == r_15.Lo) && ((r_2.2.1.Hi == r_15.Hi) && true))),(48,.bool true),(49,.sl (r_7.1.map (AV.int .i64)) none),(50,.sl (([1,3,2] : List Int).map (AV.int .i64)) (some 1)),(51,.bool r_17),(52,.bool r_17),(53,.bool true),(54,(A_Span r_9.1))]) (by simp) (by kernel_rfl) ⟨congrArg AV.bool hc_18,trivial⟩ (by kernel_rfl) ?_
        refine drC hT_20.2 3 _ [i6 17,i6 100000] (v_bl2_span r_19) rfl rfl rfl rfl rfl (fun _ => rfl) rfl (by simp; try rfl) (fun _ => b_bl2_span _ _ _ _) ?_
        exact DrO.nil rfl
       ·dsimp only [List.getLastD_cons,List.getLastD_nil]
        refine rn 3 [0] (mkS 58 [(0,.bool ((r_9.1.Lo == r_19.Lo) && ((r_9.1.Hi == r_19.Hi) && true)))]) ⟨[(C_Span r_2.1),(C_Span r_2.2.1),(C_Span r_9.1)],[(3,3),(3,1)]⟩ ?_
        refine ExO.nil ?_
        refine Ex.ret ?_
        obtain rfl:=sJ h
        exact rt (.bool ((r_9.1.Lo == r_19.Lo) && ((r_9.1.Hi == r_19.Hi) && true)))
      ·have hT_21 : DoesA Try.prog [⟨28,[i6 2650,i6 2784],[],(v_bl2_span r_13),[]⟩,⟨28,[i6 3000,i6 3067],[],(v_bl2_span r_15),[]⟩,⟨29,[.sl (r_7.1.map (AV.int .i64)) none,.sl (([1,3,2] : List Int).map (AV.int .i64)) none],[],(v_bk_EqInts r_17),[]⟩] ∧ ConsA [⟨28,[i6 2650,i6 2784],[],(v_bl2_span r_13),[]⟩,⟨28,[i6 3000,i6 3067],[],(v_bl2_span r_15),[]⟩,⟨29,[.sl (r_7.1.map (AV.int .i64)) none,.sl (([1,3,2] : List Int).map (AV.int .i64)) none],[],(v_bk_EqInts r_17),[]⟩]:=⟨⟨(d_bl2_span N 2650 2784 r_13 hr_13),rfl,(d_bl2_span N 3000 3067 r_15 hr_15),rfl,(d_bk_EqInts N r_7.1 [1,3,2] r_17 hr_17),rfl,trivial⟩,⟨⟨k_bl2_span N 2650 2784 3000 3067 r_13 r_15 hr_13 hr_15,ConsR.ne rfl,trivial⟩,⟨ConsR.ne rfl,trivial⟩,trivial,trivial⟩⟩
       refine Ex.drawE (a1:=mkS 58 [(1,.ptr 0 0),(2,.ptr 1 0),(3,i6 r_2.2.2),(4,.sl (r_7.1.map (AV.int .i64)) none),(5,i6 r_7.2),(6,.ptr 2 0),(7,i6 r_9.2),(28,i6 r_2.2.2),(29,.bool (r_2.2.2 == 0)),(30,.bool true),(31,i6 r_7.2),(32,.bool (r_7.2 == 0)),(33,.bool (r_7.2 == 0)),(34,.bool true),(35,i6 r_9.2),(36,.bool (r_9.2 == 0)),(37,.bool (r_9.2 == 0)),(38,.bool true),(39,(A_Span r_2.1)),(40,(A_Span r_13)),(41,.bool ((r_2.1.Lo == r_13.Lo) && ((r_2.1.Hi == r_13.Hi) && true))),(42,.bool ((r_2.1.Lo == r_13.Lo) && ((r_2.1.Hi == r_13.Hi) && true))),(43,.bool true),(44,(A_Span r_2.2.1)),(45,(A_Span r_15)),(46,.bool ((r_2.2.1.Lo == r_15.Lo) && ((r_2.2.1.Hi == r_15.Hi) && true))),(47,.bool ((r_2.2.1.Lo == r_15.Lo) && ((r_2.2.1.Hi == r_15.Hi) && true))),(48,.bool true),(49,.sl (r_7.1.map (AV.int .i64)) none),(50,.sl (([1,3,2] : List Int).map (AV.int .i64)) (some 1)),(51,.bool r_17),(52,.bool r_17),(53,.bool false),(54,.tup []),(55,.tup [])]) (tabO_ok hT_21.1) [] [(3,1)] [] ?_ ?_
       ·refine drS [0, 1, 2] 12 [(2, .eq (.bool true)), (6, .eq (.bool true)), (10, .eq (.bool true))] [AV.bool (r_2.2.2 == 0) = AV.bool true, AV.bool (r_7.2 == 0) = AV.bool true, AV.bool (r_9.2 == 0) = AV.bool true] (mkS 58 [(1, .ptr 0 0), (2, .ptr 1 0), (3, i6 r_2.2.2), (4, .sl (r_7.1.map (AV.int .i64)) none), (5, i6 r_7.2), (6, .ptr 2 0), (7, i6 r_9.2), (28, i6 r_2.2.2), (29, .bool (r_2.2.2 == 0)), (30, .bool true), (31, i6 r_7.2), (32, .bool (r_7.2 == 0)), (33, .bool (r_7.2 == 0)), (34, .bool true), (35, i6 r_9.2), (36, .bool (r_9.2 == 0)), (37, .bool (r_9.2 == 0)), (38, .bool true), (39, (A_Span r_2.1))]) (by simp) (by kernel_rfl) ⟨congrArg AV.bool hc_10, congrArg AV.bool hc_11, congrArg AV.bool hc_12, trivial⟩ (by kernel_rfl) ?_
        refine drC hT_21.2 0 _ [i6 2650,i6 2784] (v_bl2_span r_13) rfl rfl rfl rfl rfl (fun _ => rfl) rfl (by simp; try rfl) (fun _ => b_bl2_span _ _ _ _) ?_
        refine drS [0,1,2] 4 [(2,.eq (.bool true))] [AV.bool ((r_2.1.Lo == r_13.Lo) && ((r_2.1.Hi == r_13.Hi) && true)) = AV.bool true] (mkS 58 [(1,.ptr 0 0),(2,.ptr 1 0),(3,i6 r_2.2.2),(4,.sl (r_7.1.map (AV.int .i64)) none),(5,i6 r_7.2),(6,.ptr 2 0),(7,i6 r_9.2),(28,i6 r_2.2.2),(29,.bool (r_2.2.2 == 0)),(30,.bool true),(31,i6 r_7.2),(32,.bool (r_7.2 == 0)),(33,.bool (r_7.2 == 0)),(34,.bool true),(35,i6 r_9.2),(36,.bool (r_9.2 == 0)),(37,.bool (r_9.2 == 0)),(38,.bool true),(39,(A_Span r_2.1)),(40,(A_Span r_13)),(41,.bool ((r_2.1.Lo == r_13.Lo) && ((r_2.1.Hi == r_13.Hi) && true))),(42,.bool ((r_2.1.Lo == r_13.Lo) && ((r_2.1.Hi == r_13.Hi) && true))),(43,.bool true),(44,(A_Span r_2.2.1))]) (by simp) (by kernel_rfl) ⟨congrArg AV.bool hc_14,trivial⟩ (by kernel_rfl) ?_
        refine drC hT_21.2 1 _ [i6 3000,i6 3067] (v_bl2_span r_15) rfl rfl rfl rfl rfl (fun _ => rfl) rfl (by simp; try rfl) (fun _ => b_bl2_span _ _ _ _) ?_
        refine drS [0,1,2] 4 [(2,.eq (.bool true))] [AV.bool ((r_2.2.1.Lo == r_15.Lo) && ((r_2.2.1.Hi == r_15.Hi) && true)) = AV.bool true] (mkS 58 [(1,.ptr 0 0),(2,.ptr 1 0),(3,i6 r_2.2.2),(4,.sl (r_7.1.map (AV.int .i64)) none),(5,i6 r_7.2),(6,.ptr 2 0),(7,i6 r_9.2),(28,i6 r_2.2.2),(29,.bool (r_2.2.2 == 0)),(30,.bool true),(31,i6 r_7.2),(32,.bool (r_7.2 == 0)),(33,.bool (r_7.2 == 0)),(34,.bool true),(35,i6 r_9.2),(36,.bool (r_9.2 == 0)),(37,.bool (r_9.2 == 0)),(38,.bool true),(39,(A_Span r_2.1)),(40,(A_Span r_13)),(41,.bool ((r_2.1.Lo == r_13.Lo) && ((r_2.1.Hi == r_13.Hi) && true))),(42,.bool ((r_2.1.Lo == r_13.Lo) && ((r_2.1.Hi == r_13.Hi) && true))),(43,.bool true),(44,(A_Span r_2.2.1)),(45,(A_Span r_15)),(46,.bool ((r_2.2.1.Lo == r_15.Lo) && ((r_2.2.1.Hi == r_15.Hi) && true))),(47,.bool ((r_2.2.1.Lo == r_15.Lo) && ((r_2.2.1.Hi == r_15.Hi) && true))),(48,.bool true),(49,.sl (r_7.1.map (AV.int .i64)) none)]) (by simp) (by kernel_rfl) ⟨congrArg AV.bool hc_16,trivial⟩ (by kernel_rfl) ?_
        refine drR 1 1 (([1,3,2] : List Int).map (AV.int .i64)) rfl rfl (fun _ => by kernel_rfl) (by simp) rfl rfl ?_
        refine drC hT_21.2 2 _ [.sl (r_7.1.map (AV.int .i64)) none,.sl (([1,3,2] : List Int).map (AV.int .i64)) (some 1)] (v_bk_EqInts r_17) rfl rfl rfl rfl rfl (fun _ => rfl) rfl (by simp; try rfl) (fun _ => b_bk_EqInts _ _ _ _) ?_
        refine drS [0,1,2] 2 [(1,.eq (.bool false))] [AV.bool r_17 = AV.bool false] (mkS 58 [(1,.ptr 0 0),(2,.ptr 1 0),(3,i6 r_2.2.2),(4,.sl (r_7.1.map (AV.int .i64)) none),(5,i6 r_7.2),(6,.ptr 2 0),(7,i6 r_9.2),(28,i6 r_2.2.2),(29,.bool (r_2.2.2 == 0)),(30,.bool true),(31,i6 r_7.2),(32,.bool (r_7.2 == 0)),(33,.bool (r_7.2 == 0)),(34,.bool true),(35,i6 r_9.2),(36,.bool (r_9.2 == 0)),(37,.bool (r_9.2 == 0)),(38,.bool true),(39,(A_Span r_2.1)),(40,(A_Span r_13)),(41,.bool ((r_2.1.Lo == r_13.Lo) && ((r_2.1.Hi == r_13.Hi) && true))),(42,.bool ((r_2.1.Lo == r_13.Lo) && ((r_2.1.Hi == r_13.Hi) && true))),(43,.bool true),(44,(A_Span r_2.2.1)),(45,(A_Span r_15)),(46,.bool ((r_2.2.1.Lo == r_15.Lo) && ((r_2.2.1.Hi == r_15.Hi) && true))),(47,.bool ((r_2.2.1.Lo == r_15.Lo) && ((r_2.2.1.Hi == r_15.Hi) && true))),(48,.bool true),(49,.sl (r_7.1.map (AV.int .i64)) none),(50,.sl (([1,3,2] : List Int).map (AV.int .i64)) (some 1)),(51,.bool r_17),(52,.bool r_17),(53,.bool false)]) (by simp) (by kernel_rfl) ⟨congrArg AV.bool hc_18,trivial⟩ (by kernel_rfl) ?_
        refine drK (by kernel_rfl) (by kernel_rfl) ?_
        refine drK (by kernel_rfl) (by kernel_rfl) ?_
        exact DrO.nil rfl
       ·dsimp only [List.getLastD_cons,List.getLastD_nil]
        refine rn 3 [0] (mkS 58 [(0,.bool false)]) ⟨[(C_Span r_2.1),(C_Span r_2.2.1),(C_Span r_9.1)],[(3,3),(3,1)]⟩ ?_
        refine ExO.nil ?_
        refine Ex.ret ?_
        obtain rfl:=sJ h
        exact rt (.bool false)
     ·have hT_22 : DoesA Try.prog [⟨28,[i6 2650,i6 2784],[],(v_bl2_span r_13),[]⟩,⟨28,[i6 3000,i6 3067],[],(v_bl2_span r_15),[]⟩] ∧ ConsA [⟨28,[i6 2650,i6 2784],[],(v_bl2_span r_13),[]⟩,⟨28,[i6 3000,i6 3067],[],(v_bl2_span r_15),[]⟩]:=⟨⟨(d_bl2_span N 2650 2784 r_13 hr_13),rfl,(d_bl2_span N 3000 3067 r_15 hr_15),rfl,trivial⟩,⟨⟨k_bl2_span N 2650 2784 3000 3067 r_13 r_15 hr_13 hr_15,trivial⟩,trivial,trivial⟩⟩
      refine Ex.drawE (a1:=mkS 58 [(1,.ptr 0 0),(2,.ptr 1 0),(3,i6 r_2.2.2),(4,.sl (r_7.1.map (AV.int .i64)) none),(5,i6 r_7.2),(6,.ptr 2 0),(7,i6 r_9.2),(28,i6 r_2.2.2),(29,.bool (r_2.2.2 == 0)),(30,.bool true),(31,i6 r_7.2),(32,.bool (r_7.2 == 0)),(33,.bool (r_7.2 == 0)),(34,.bool true),(35,i6 r_9.2),(36,.bool (r_9.2 == 0)),(37,.bool (r_9.2 == 0)),(38,.bool true),(39,(A_Span r_2.1)),(40,(A_Span r_13)),(41,.bool ((r_2.1.Lo == r_13.Lo) && ((r_2.1.Hi == r_13.Hi) && true))),(42,.bool ((r_2.1.Lo == r_13.Lo) && ((r_2.1.Hi == r_13.Hi) && true))),(43,.bool true),(44,(A_Span r_2.2.1)),(45,(A_Span r_15)),(46,.bool ((r_2.2.1.Lo == r_15.Lo) && ((r_2.2.1.Hi == r_15.Hi) && true))),(47,.bool ((r_2.2.1.Lo == r_15.Lo) && ((r_2.2.1.Hi == r_15.Hi) && true))),(48,.bool false),(49,.tup []),(50,.tup []),(51,.tup []),(52,.bool false),(53,.bool false),(54,.tup []),(55,.tup [])]) (tabO_ok hT_22.1) [] [(3,1)] [] ?_ ?_
      ·refine drS [0, 1, 2] 12 [(2, .eq (.bool true)), (6, .eq (.bool true)), (10, .eq (.bool true))] [AV.bool (r_2.2.2 == 0) = AV.bool true, AV.bool (r_7.2 == 0) = AV.bool true, AV.bool (r_9.2 == 0) = AV.bool true] (mkS 58 [(1, .ptr 0 0), (2, .ptr 1 0), (3, i6 r_2.2.2), (4, .sl (r_7.1.map (AV.int .i64)) none), (5, i6 r_7.2), (6, .ptr 2 0), (7, i6 r_9.2), (28, i6 r_2.2.2), (29, .bool (r_2.2.2 == 0)), (30, .bool true), (31, i6 r_7.2), (32, .bool (r_7.2 == 0)), (33, .bool (r_7.2 == 0)), (34, .bool true), (35, i6 r_9.2), (36, .bool (r_9.2 == 0)), (37, .bool (r_9.2 == 0)), (38, .bool true), (39, (A_Span r_2.1))]) (by simp) (by kernel_rfl) ⟨congrArg AV.bool hc_10, congrArg AV.bool hc_11, congrArg AV.bool hc_12, trivial⟩ (by kernel_rfl) ?_
       refine drC hT_22.2 0 _ [i6 2650,i6 2784] (v_bl2_span r_13) rfl rfl rfl rfl rfl (fun _ => rfl) rfl (by simp; try rfl) (fun _ => b_bl2_span _ _ _ _) ?_
       refine drS [0,1,2] 4 [(2,.eq (.bool true))] [AV.bool ((r_2.1.Lo == r_13.Lo) && ((r_2.1.Hi == r_13.Hi) && true)) = AV.bool true] (mkS 58 [(1,.ptr 0 0),(2,.ptr 1 0),(3,i6 r_2.2.2),(4,.sl (r_7.1.map (AV.int .i64)) none),(5,i6 r_7.2),(6,.ptr 2 0),(7,i6 r_9.2),(28,i6 r_2.2.2),(29,.bool (r_2.2.2 == 0)),(30,.bool true),(31,i6 r_7.2),(32,.bool (r_7.2 == 0)),(33,.bool (r_7.2 == 0)),(34,.bool true),(35,i6 r_9.2),(36,.bool (r_9.2 == 0)),(37,.bool (r_9.2 == 0)),(38,.bool true),(39,(A_Span r_2.1)),(40,(A_Span r_13)),(41,.bool ((r_2.1.Lo == r_13.Lo) && ((r_2.1.Hi == r_13.Hi) && true))),(42,.bool ((r_2.1.Lo == r_13.Lo) && ((r_2.1.Hi == r_13.Hi) && true))),(43,.bool true),(44,(A_Span r_2.2.1))]) (by simp) (by kernel_rfl) ⟨congrArg AV.bool hc_14,trivial⟩ (by kernel_rfl) ?_
       refine drC hT_22.2 1 _ [i6 3000,i6 3067] (v_bl2_span r_15) rfl rfl rfl rfl rfl (fun _ => rfl) rfl (by simp; try rfl) (fun _ => b_bl2_span _ _ _ _) ?_
       refine drS [0,1,2] 3 [(2,.eq (.bool false))] [AV.bool ((r_2.2.1.Lo == r_15.Lo) && ((r_2.2.1.Hi == r_15.Hi) && true)) = AV.bool false] (mkS 58 [(1,.ptr 0 0),(2,.ptr 1 0),(3,i6 r_2.2.2),(4,.sl (r_7.1.map (AV.int .i64)) none),(5,i6 r_7.2),(6,.ptr 2 0),(7,i6 r_9.2),(28,i6 r_2.2.2),(29,.bool (r_2.2.2 == 0)),(30,.bool true),(31,i6 r_7.2),(32,.bool (r_7.2 == 0)),(33,.bool (r_7.2 == 0)),(34,.bool true),(35,i6 r_9.2),(36,.bool (r_9.2 == 0)),(37,.bool (r_9.2 == 0)),(38,.bool true),(39,(A_Span r_2.1)),(40,(A_Span r_13)),(41,.bool ((r_2.1.Lo == r_13.Lo) && ((r_2.1.Hi == r_13.Hi) && true))),(42,.bool ((r_2.1.Lo == r_13.Lo) && ((r_2.1.Hi == r_13.Hi) && true))),(43,.bool true),(44,(A_Span r_2.2.1)),(45,(A_Span r_15)),(46,.bool ((r_2.2.1.Lo == r_15.Lo) && ((r_2.2.1.Hi == r_15.Hi) && true))),(47,.bool ((r_2.2.1.Lo == r_15.Lo) && ((r_2.2.1.Hi == r_15.Hi) && true))),(48,.bool false)]) (by simp) (by kernel_rfl) ⟨congrArg AV.bool hc_16,trivial⟩ (by kernel_rfl) ?_
       refine drK (by kernel_rfl) (by kernel_rfl) ?_
       refine drK (by kernel_rfl) (by kernel_rfl) ?_
       refine drK (by kernel_rfl) (by kernel_rfl) ?_
       refine drS [0,1,2] 2 [] [] (mkS 58 [(1,.ptr 0 0),(2,.ptr 1 0),(3,i6 r_2.2.2),(4,.sl (r_7.1.map (AV.int .i64)) none),(5,i6 r_7.2),(6,.ptr 2 0),(7,i6 r_9.2),(28,i6 r_2.2.2),(29,.bool (r_2.2.2 == 0)),(30,.bool true),(31,i6 r_7.2),(32,.bool (r_7.2 == 0)),(33,.bool (r_7.2 == 0)),(34,.bool true),(35,i6 r_9.2),(36,.bool (r_9.2 == 0)),(37,.bool (r_9.2 == 0)),(38,.bool true),(39,(A_Span r_2.1)),(40,(A_Span r_13)),(41,.bool ((r_2.1.Lo == r_13.Lo) && ((r_2.1.Hi == r_13.Hi) && true))),(42,.bool ((r_2.1.Lo == r_13.Lo) && ((r_2.1.Hi == r_13.Hi) && true))),(43,.bool true),(44,(A_Span r_2.2.1)),(45,(A_Span r_15)),(46,.bool ((r_2.2.1.Lo == r_15.Lo) && ((r_2.2.1.Hi == r_15.Hi) && true))),(47,.bool ((r_2.2.1.Lo == r_15.Lo) && ((r_2.2.1.Hi == r_15.Hi) && true))),(48,.bool false),(49,.tup []),(50,.tup []),(51,.tup []),(52,.bool false),(53,.bool false)]) (by simp) (by kernel_rfl) trivial (by kernel_rfl) ?_
       refine drK (by kernel_rfl) (by kernel_rfl) ?_
       refine drK (by kernel_rfl) (by kernel_rfl) ?_
       exact DrO.nil rfl
      ·dsimp only [List.getLastD_cons,List.getLastD_nil]
       refine rn 3 [0] (mkS 58 [(0,.bool false)]) ⟨[(C_Span r_2.1),(C_Span r_2.2.1),(C_Span r_9.1)],[(3,3),(3,1)]⟩ ?_
       refine ExO.nil ?_
       refine Ex.ret ?_
       obtain rfl:=sJ h
       exact rt (.bool false)
    ·have hT_23 : DoesA Try.prog [⟨28,[i6 2650,i6 2784],[],(v_bl2_span r_13),[]⟩] ∧ ConsA [⟨28,[i6 2650,i6 2784],[],(v_bl2_span r_13),[]⟩]:=⟨⟨(d_bl2_span N 2650 2784 r_13 hr_13),rfl,trivial⟩,⟨trivial,trivial⟩⟩
     refine Ex.drawE (a1:=mkS 58 [(1,.ptr 0 0),(2,.ptr 1 0),(3,i6 r_2.2.2),(4,.sl (r_7.1.map (AV.int .i64)) none),(5,i6 r_7.2),(6,.ptr 2 0),(7,i6 r_9.2),(28,i6 r_2.2.2),(29,.bool (r_2.2.2 == 0)),(30,.bool true),(31,i6 r_7.2),(32,.bool (r_7.2 == 0)),(33,.bool (r_7.2 == 0)),(34,.bool true),(35,i6 r_9.2),(36,.bool (r_9.2 == 0)),(37,.bool (r_9.2 == 0)),(38,.bool true),(39,(A_Span r_2.1)),(40,(A_Span r_13)),(41,.bool ((r_2.1.Lo == r_13.Lo) && ((r_2.1.Hi == r_13.Hi) && true))),(42,.bool ((r_2.1.Lo == r_13.Lo) && ((r_2.1.Hi == r_13.Hi) && true))),(43,.bool false),(44,.tup []),(45,.tup []),(46,.tup []),(47,.bool false),(48,.bool false),(49,.tup []),(50,.tup []),(51,.tup []),(52,.bool false),(53,.bool false),(54,.tup []),(55,.tup [])]) (tabO_ok hT_23.1) [] [(3,1)] [] ?_ ?_
     ·refine drS [0, 1, 2] 12 [(2, .eq (.bool true)), (6, .eq (.bool true)), (10, .eq (.bool true))] [AV.bool (r_2.2.2 == 0) = AV.bool true, AV.bool (r_7.2 == 0) = AV.bool true, AV.bool (r_9.2 == 0) = AV.bool true] (mkS 58 [(1, .ptr 0 0), (2, .ptr 1 0), (3, i6 r_2.2.2), (4, .sl (r_7.1.map (AV.int .i64)) none), (5, i6 r_7.2), (6, .ptr 2 0), (7, i6 r_9.2), (28, i6 r_2.2.2), (29, .bool (r_2.2.2 == 0)), (30, .bool true), (31, i6 r_7.2), (32, .bool (r_7.2 == 0)), (33, .bool (r_7.2 == 0)), (34, .bool true), (35, i6 r_9.2), (36, .bool (r_9.2 == 0)), (37, .bool (r_9.2 == 0)), (38, .bool true), (39, (A_Span r_2.1))]) (by simp) (by kernel_rfl) ⟨congrArg AV.bool hc_10, congrArg AV.bool hc_11, congrArg AV.bool hc_12, trivial⟩ (by kernel_rfl) ?_
      refine drC hT_23.2 0 _ [i6 2650,i6 2784] (v_bl2_span r_13) rfl rfl rfl rfl rfl (fun _ => rfl) rfl (by simp; try rfl) (fun _ => b_bl2_span _ _ _ _) ?_
      refine drS [0,1,2] 3 [(2,.eq (.bool false))] [AV.bool ((r_2.1.Lo == r_13.Lo) && ((r_2.1.Hi == r_13.Hi) && true)) = AV.bool false] (mkS 58 [(1,.ptr 0 0),(2,.ptr 1 0),(3,i6 r_2.2.2),(4,.sl (r_7.1.map (AV.int .i64)) none),(5,i6 r_7.2),(6,.ptr 2 0),(7,i6 r_9.2),(28,i6 r_2.2.2),(29,.bool (r_2.2.2 == 0)),(30,.bool true),(31,i6 r_7.2),(32,.bool (r_7.2 == 0)),(33,.bool (r_7.2 == 0)),(34,.bool true),(35,i6 r_9.2),(36,.bool (r_9.2 == 0)),(37,.bool (r_9.2 == 0)),(38,.bool true),(39,(A_Span r_2.1)),(40,(A_Span r_13)),(41,.bool ((r_2.1.Lo == r_13.Lo) && ((r_2.1.Hi == r_13.Hi) && true))),(42,.bool ((r_2.1.Lo == r_13.Lo) && ((r_2.1.Hi == r_13.Hi) && true))),(43,.bool false)]) (by simp) (by kernel_rfl) ⟨congrArg AV.bool hc_14,trivial⟩ (by kernel_rfl) ?_
      refine drK (by kernel_rfl) (by kernel_rfl) ?_
      refine drK (by kernel_rfl) (by kernel_rfl) ?_
      refine drK (by kernel_rfl) (by kernel_rfl) ?_
      refine drS [0,1,2] 2 [] [] (mkS 58 [(1,.ptr 0 0),(2,.ptr 1 0),(3,i6 r_2.2.2),(4,.sl (r_7.1.map (AV.int .i64)) none),(5,i6 r_7.2),(6,.ptr 2 0),(7,i6 r_9.2),(28,i6 r_2.2.2),(29,.bool (r_2.2.2 == 0)),(30,.bool true),(31,i6 r_7.2),(32,.bool (r_7.2 == 0)),(33,.bool (r_7.2 == 0)),(34,.bool true),(35,i6 r_9.2),(36,.bool (r_9.2 == 0)),(37,.bool (r_9.2 == 0)),(38,.bool true),(39,(A_Span r_2.1)),(40,(A_Span r_13)),(41,.bool ((r_2.1.Lo == r_13.Lo) && ((r_2.1.Hi == r_13.Hi) && true))),(42,.bool ((r_2.1.Lo == r_13.Lo) && ((r_2.1.Hi == r_13.Hi) && true))),(43,.bool false),(44,.tup []),(45,.tup []),(46,.tup []),(47,.bool false),(48,.bool false)]) (by simp) (by kernel_rfl) trivial (by kernel_rfl) ?_
      refine drK (by kernel_rfl) (by kernel_rfl) ?_
      refine drK (by kernel_rfl) (by kernel_rfl) ?_
      refine drK (by kernel_rfl) (by kernel_rfl) ?_
      refine drS [0,1,2] 2 [] [] (mkS 58 [(1,.ptr 0 0),(2,.ptr 1 0),(3,i6 r_2.2.2),(4,.sl (r_7.1.map (AV.int .i64)) none),(5,i6 r_7.2),(6,.ptr 2 0),(7,i6 r_9.2),(28,i6 r_2.2.2),(29,.bool (r_2.2.2 == 0)),(30,.bool true),(31,i6 r_7.2),(32,.bool (r_7.2 == 0)),(33,.bool (r_7.2 == 0)),(34,.bool true),(35,i6 r_9.2),(36,.bool (r_9.2 == 0)),(37,.bool (r_9.2 == 0)),(38,.bool true),(39,(A_Span r_2.1)),(40,(A_Span r_13)),(41,.bool ((r_2.1.Lo == r_13.Lo) && ((r_2.1.Hi == r_13.Hi) && true))),(42,.bool ((r_2.1.Lo == r_13.Lo) && ((r_2.1.Hi == r_13.Hi) && true))),(43,.bool false),(44,.tup []),(45,.tup []),(46,.tup []),(47,.bool false),(48,.bool false),(49,.tup []),(50,.tup []),(51,.tup []),(52,.bool false),(53,.bool false)]) (by simp) (by kernel_rfl) trivial (by kernel_rfl) ?_
      refine drK (by kernel_rfl) (by kernel_rfl) ?_
      refine drK (by kernel_rfl) (by kernel_rfl) ?_
      exact DrO.nil rfl
     ·dsimp only [List.getLastD_cons,List.getLastD_nil]
      refine rn 3 [0] (mkS 58 [(0,.bool false)]) ⟨[(C_Span r_2.1),(C_Span r_2.2.1),(C_Span r_9.1)],[(3,3),(3,1)]⟩ ?_
      refine ExO.nil ?_
      refine Ex.ret ?_
      obtain rfl:=sJ h
      exact rt (.bool false)
   ·refine Ex.drawE (a1:=mkS 58 [(1,.ptr 0 0),(2,.ptr 1 0),(3,i6 r_2.2.2),(4,.sl (r_7.1.map (AV.int .i64)) none),(5,i6 r_7.2),(6,.ptr 2 0),(7,i6 r_9.2),(28,i6 r_2.2.2),(29,.bool (r_2.2.2 == 0)),(30,.bool true),(31,i6 r_7.2),(32,.bool (r_7.2 == 0)),(33,.bool (r_7.2 == 0)),(34,.bool true),(35,i6 r_9.2),(36,.bool (r_9.2 == 0)),(37,.bool (r_9.2 == 0)),(38,.bool false),(39,.tup []),(40,.tup []),(41,.tup []),(42,.bool false),(43,.bool false),(44,.tup []),(45,.tup []),(46,.tup []),(47,.bool false),(48,.bool false),(49,.tup []),(50,.tup []),(51,.tup []),(52,.bool false),(53,.bool false),(54,.tup []),(55,.tup [])]) (noClr_ok _) [] [(3,1)] [] ?_ ?_
    ·refine drS [0, 1, 2] 11 [(2, .eq (.bool true)), (6, .eq (.bool true)), (10, .eq (.bool false))] [AV.bool (r_2.2.2 == 0) = AV.bool true, AV.bool (r_7.2 == 0) = AV.bool true, AV.bool (r_9.2 == 0) = AV.bool false] (mkS 58 [(1, .ptr 0 0), (2, .ptr 1 0), (3, i6 r_2.2.2), (4, .sl (r_7.1.map (AV.int .i64)) none), (5, i6 r_7.2), (6, .ptr 2 0), (7, i6 r_9.2), (28, i6 r_2.2.2), (29, .bool (r_2.2.2 == 0)), (30, .bool true), (31, i6 r_7.2), (32, .bool (r_7.2 == 0)), (33, .bool (r_7.2 == 0)), (34, .bool true), (35, i6 r_9.2), (36, .bool (r_9.2 == 0)), (37, .bool (r_9.2 == 0)), (38, .bool false)]) (by simp) (by kernel_rfl) ⟨congrArg AV.bool hc_10, congrArg AV.bool hc_11, congrArg AV.bool hc_12, trivial⟩ (by kernel_rfl) ?_
     refine drK (by kernel_rfl) (by kernel_rfl) ?_
     refine drK (by kernel_rfl) (by kernel_rfl) ?_
     refine drK (by kernel_rfl) (by kernel_rfl) ?_
     refine drS [0,1,2] 2 [] [] (mkS 58 [(1,.ptr 0 0),(2,.ptr 1 0),(3,i6 r_2.2.2),(4,.sl (r_7.1.map (AV.int .i64)) none),(5,i6 r_7.2),(6,.ptr 2 0),(7,i6 r_9.2),(28,i6 r_2.2.2),(29,.bool (r_2.2.2 == 0)),(30,.bool true),(31,i6 r_7.2),(32,.bool (r_7.2 == 0)),(33,.bool (r_7.2 == 0)),(34,.bool true),(35,i6 r_9.2),(36,.bool (r_9.2 == 0)),(37,.bool (r_9.2 == 0)),(38,.bool false),(39,.tup []),(40,.tup []),(41,.tup []),(42,.bool false),(43,.bool false)]) (by simp) (by kernel_rfl) trivial (by kernel_rfl) ?_
     refine drK (by kernel_rfl) (by kernel_rfl) ?_
     refine drK (by kernel_rfl) (by kernel_rfl) ?_
     refine drK (by kernel_rfl) (by kernel_rfl) ?_
     refine drS [0,1,2] 2 [] [] (mkS 58 [(1,.ptr 0 0),(2,.ptr 1 0),(3,i6 r_2.2.2),(4,.sl (r_7.1.map (AV.int .i64)) none),(5,i6 r_7.2),(6,.ptr 2 0),(7,i6 r_9.2),(28,i6 r_2.2.2),(29,.bool (r_2.2.2 == 0)),(30,.bool true),(31,i6 r_7.2),(32,.bool (r_7.2 == 0)),(33,.bool (r_7.2 == 0)),(34,.bool true),(35,i6 r_9.2),(36,.bool (r_9.2 == 0)),(37,.bool (r_9.2 == 0)),(38,.bool false),(39,.tup []),(40,.tup []),(41,.tup []),(42,.bool false),(43,.bool false),(44,.tup []),(45,.tup []),(46,.tup []),(47,.bool false),(48,.bool false)]) (by simp) (by kernel_rfl) trivial (by kernel_rfl) ?_
     refine drK (by kernel_rfl) (by kernel_rfl) ?_
     refine drK (by kernel_rfl) (by kernel_rfl) ?_
     refine drK (by kernel_rfl) (by kernel_rfl) ?_
     refine drS [0,1,2] 2 [] [] (mkS 58 [(1,.ptr 0 0),(2,.ptr 1 0),(3,i6 r_2.2.2),(4,.sl (r_7.1.map (AV.int .i64)) none),(5,i6 r_7.2),(6,.ptr 2 0),(7,i6 r_9.2),(28,i6 r_2.2.2),(29,.bool (r_2.2.2 == 0)),(30,.bool true),(31,i6 r_7.2),(32,.bool (r_7.2 == 0)),(33,.bool (r_7.2 == 0)),(34,.bool true),(35,i6 r_9.2),(36,.bool (r_9.2 == 0)),(37,.bool (r_9.2 == 0)),(38,.bool false),(39,.tup []),(40,.tup []),(41,.tup []),(42,.bool false),(43,.bool false),(44,.tup []),(45,.tup []),(46,.tup []),(47,.bool false),(48,.bool false),(49,.tup []),(50,.tup []),(51,.tup []),(52,.bool false),(53,.bool false)]) (by simp) (by kernel_rfl) trivial (by kernel_rfl) ?_
     refine drK (by kernel_rfl) (by kernel_rfl) ?_
     refine drK (by kernel_rfl) (by kernel_rfl) ?_
     exact DrO.nil rfl
    ·dsimp only [List.getLastD_cons,List.getLastD_nil]
     refine rn 3 [0] (mkS 58 [(0,.bool false)]) ⟨[(C_Span r_2.1),(C_Span r_2.2.1),(C_Span r_9.1)],[(3,3),(3,1)]⟩ ?_
     refine ExO.nil ?_
     refine Ex.ret ?_
     obtain rfl:=sJ h
     exact rt (.bool false)
  ·refine Ex.drawE (a1:=mkS 58 [(1,.ptr 0 0),(2,.ptr 1 0),(3,i6 r_2.2.2),(4,.sl (r_7.1.map (AV.int .i64)) none),(5,i6 r_7.2),(6,.ptr 2 0),(7,i6 r_9.2),(28,i6 r_2.2.2),(29,.bool (r_2.2.2 == 0)),(30,.bool true),(31,i6 r_7.2),(32,.bool (r_7.2 == 0)),(33,.bool (r_7.2 == 0)),(34,.bool false),(35,.tup []),(36,.tup []),(37,.bool false),(38,.bool false),(39,.tup []),(40,.tup []),(41,.tup []),(42,.bool false),(43,.bool false),(44,.tup []),(45,.tup []),(46,.tup []),(47,.bool false),(48,.bool false),(49,.tup []),(50,.tup []),(51,.tup []),(52,.bool false),(53,.bool false),(54,.tup []),(55,.tup [])]) (noClr_ok _) [] [(3,1)] [] ?_ ?_
   ·refine drS [0, 1, 2] 7 [(2, .eq (.bool true)), (6, .eq (.bool false))] [AV.bool (r_2.2.2 == 0) = AV.bool true, AV.bool (r_7.2 == 0) = AV.bool false] (mkS 58 [(1, .ptr 0 0), (2, .ptr 1 0), (3, i6 r_2.2.2), (4, .sl (r_7.1.map (AV.int .i64)) none), (5, i6 r_7.2), (6, .ptr 2 0), (7, i6 r_9.2), (28, i6 r_2.2.2), (29, .bool (r_2.2.2 == 0)), (30, .bool true), (31, i6 r_7.2), (32, .bool (r_7.2 == 0)), (33, .bool (r_7.2 == 0)), (34, .bool false)]) (by simp) (by kernel_rfl) ⟨congrArg AV.bool hc_10, congrArg AV.bool hc_11, trivial⟩ (by kernel_rfl) ?_
    refine drK (by kernel_rfl) (by kernel_rfl) ?_
    refine drK (by kernel_rfl) (by kernel_rfl) ?_
    refine drS [0,1,2] 2 [] [] (mkS 58 [(1,.ptr 0 0),(2,.ptr 1 0),(3,i6 r_2.2.2),(4,.sl (r_7.1.map (AV.int .i64)) none),(5,i6 r_7.2),(6,.ptr 2 0),(7,i6 r_9.2),(28,i6 r_2.2.2),(29,.bool (r_2.2.2 == 0)),(30,.bool true),(31,i6 r_7.2),(32,.bool (r_7.2 == 0)),(33,.bool (r_7.2 == 0)),(34,.bool false),(35,.tup []),(36,.tup []),(37,.bool false),(38,.bool false)]) (by simp) (by kernel_rfl) trivial (by kernel_rfl) ?_
    refine drK (by kernel_rfl) (by kernel_rfl) ?_
    refine drK (by kernel_rfl) (by kernel_rfl) ?_
    refine drK (by kernel_rfl) (by kernel_rfl) ?_
    refine drS [0,1,2] 2 [] [] (mkS 58 [(1,.ptr 0 0),(2,.ptr 1 0),(3,i6 r_2.2.2),(4,.sl (r_7.1.map (AV.int .i64)) none),(5,i6 r_7.2),(6,.ptr 2 0),(7,i6 r_9.2),(28,i6 r_2.2.2),(29,.bool (r_2.2.2 == 0)),(30,.bool true),(31,i6 r_7.2),(32,.bool (r_7.2 == 0)),(33,.bool (r_7.2 == 0)),(34,.bool false),(35,.tup []),(36,.tup []),(37,.bool false),(38,.bool false),(39,.tup []),(40,.tup []),(41,.tup []),(42,.bool false),(43,.bool false)]) (by simp) (by kernel_rfl) trivial (by kernel_rfl) ?_
    refine drK (by kernel_rfl) (by kernel_rfl) ?_
    refine drK (by kernel_rfl) (by kernel_rfl) ?_
    refine drK (by kernel_rfl) (by kernel_rfl) ?_
    refine drS [0,1,2] 2 [] [] (mkS 58 [(1,.ptr 0 0),(2,.ptr 1 0),(3,i6 r_2.2.2),(4,.sl (r_7.1.map (AV.int .i64)) none),(5,i6 r_7.2),(6,.ptr 2 0),(7,i6 r_9.2),(28,i6 r_2.2.2),(29,.bool (r_2.2.2 == 0)),(30,.bool true),(31,i6 r_7.2),(32,.bool (r_7.2 == 0)),(33,.bool (r_7.2 == 0)),(34,.bool false),(35,.tup []),(36,.tup []),(37,.bool false),(38,.bool false),(39,.tup []),(40,.tup []),(41,.tup []),(42,.bool false),(43,.bool false),(44,.tup []),(45,.tup []),(46,.tup []),(47,.bool false),(48,.bool false)]) (by simp) (by kernel_rfl) trivial (by kernel_rfl) ?_
    refine drK (by kernel_rfl) (by kernel_rfl) ?_
    refine drK (by kernel_rfl) (by kernel_rfl) ?_
    refine drK (by kernel_rfl) (by kernel_rfl) ?_
    refine drS [0,1,2] 2 [] [] (mkS 58 [(1,.ptr 0 0),(2,.ptr 1 0),(3,i6 r_2.2.2),(4,.sl (r_7.1.map (AV.int .i64)) none),(5,i6 r_7.2),(6,.ptr 2 0),(7,i6 r_9.2),(28,i6 r_2.2.2),(29,.bool (r_2.2.2 == 0)),(30,.bool true),(31,i6 r_7.2),(32,.bool (r_7.2 == 0)),(33,.bool (r_7.2 == 0)),(34,.bool false),(35,.tup []),(36,.tup []),(37,.bool false),(38,.bool false),(39,.tup []),(40,.tup []),(41,.tup []),(42,.bool false),(43,.bool false),(44,.tup []),(45,.tup []),(46,.tup []),(47,.bool false),(48,.bool false),(49,.tup []),(50,.tup []),(51,.tup []),(52,.bool false),(53,.bool false)]) (by simp) (by kernel_rfl) trivial (by kernel_rfl) ?_
    refine drK (by kernel_rfl) (by kernel_rfl) ?_
    refine drK (by kernel_rfl) (by kernel_rfl) ?_
    exact DrO.nil rfl
   ·dsimp only [List.getLastD_cons,List.getLastD_nil]
    refine rn 3 [0] (mkS 58 [(0,.bool false)]) ⟨[(C_Span r_2.1),(C_Span r_2.2.1),(C_Span r_9.1)],[(3,3),(3,1)]⟩ ?_
    refine ExO.nil ?_
    refine Ex.ret ?_
    obtain rfl:=sJ h
    exact rt (.bool false)
 ·refine Ex.drawE (a1:=mkS 58 [(1,.ptr 0 0),(2,.ptr 1 0),(3,i6 r_2.2.2),(4,.sl (r_7.1.map (AV.int .i64)) none),(5,i6 r_7.2),(6,.ptr 2 0),(7,i6 r_9.2),(28,i6 r_2.2.2),(29,.bool (r_2.2.2 == 0)),(30,.bool false),(31,.tup []),(32,.tup []),(33,.bool false),(34,.bool false),(35,.tup []),(36,.tup []),(37,.bool false),(38,.bool false),(39,.tup []),(40,.tup []),(41,.tup []),(42,.bool false),(43,.bool false),(44,.tup []),(45,.tup []),(46,.tup []),(47,.bool false),(48,.bool false),(49,.tup []),(50,.tup []),(51,.tup []),(52,.bool false),(53,.bool false),(54,.tup []),(55,.tup [])]) (noClr_ok _) [] [(3,1)] [] ?_ ?_
  ·refine drS [0, 1, 2] 3 [(2, .eq (.bool false))] [AV.bool (r_2.2.2 == 0) = AV.bool false] (mkS 58 [(1, .ptr 0 0), (2, .ptr 1 0), (3, i6 r_2.2.2), (4, .sl (r_7.1.map (AV.int .i64)) none), (5, i6 r_7.2), (6, .ptr 2 0), (7, i6 r_9.2), (28, i6 r_2.2.2), (29, .bool (r_2.2.2 == 0)), (30, .bool false)]) (by simp) (by kernel_rfl) ⟨congrArg AV.bool hc_10, trivial⟩ (by kernel_rfl) ?_
   refine drK (by kernel_rfl) (by kernel_rfl) ?_
   refine drK (by kernel_rfl) (by kernel_rfl) ?_
   refine drS [0,1,2] 2 [] [] (mkS 58 [(1,.ptr 0 0),(2,.ptr 1 0),(3,i6 r_2.2.2),(4,.sl (r_7.1.map (AV.int .i64)) none),(5,i6 r_7.2),(6,.ptr 2 0),(7,i6 r_9.2),(28,i6 r_2.2.2),(29,.bool (r_2.2.2 == 0)),(30,.bool false),(31,.tup []),(32,.tup []),(33,.bool false),(34,.bool false)]) (by simp) (by kernel_rfl) trivial (by kernel_rfl) ?_
   refine drK (by kernel_rfl) (by kernel_rfl) ?_
   refine drK (by kernel_rfl) (by kernel_rfl) ?_
   refine drS [0,1,2] 2 [] [] (mkS 58 [(1,.ptr 0 0),(2,.ptr 1 0),(3,i6 r_2.2.2),(4,.sl (r_7.1.map (AV.int .i64)) none),(5,i6 r_7.2),(6,.ptr 2 0),(7,i6 r_9.2),(28,i6 r_2.2.2),(29,.bool (r_2.2.2 == 0)),(30,.bool false),(31,.tup []),(32,.tup []),(33,.bool false),(34,.bool false),(35,.tup []),(36,.tup []),(37,.bool false),(38,.bool false)]) (by simp) (by kernel_rfl) trivial (by kernel_rfl) ?_
   refine drK (by kernel_rfl) (by kernel_rfl) ?_
   refine drK (by kernel_rfl) (by kernel_rfl) ?_
   refine drK (by kernel_rfl) (by kernel_rfl) ?_
   refine drS [0,1,2] 2 [] [] (mkS 58 [(1,.ptr 0 0),(2,.ptr 1 0),(3,i6 r_2.2.2),(4,.sl (r_7.1.map (AV.int .i64)) none),(5,i6 r_7.2),(6,.ptr 2 0),(7,i6 r_9.2),(28,i6 r_2.2.2),(29,.bool (r_2.2.2 == 0)),(30,.bool false),(31,.tup []),(32,.tup []),(33,.bool false),(34,.bool false),(35,.tup []),(36,.tup []),(37,.bool false),(38,.bool false),(39,.tup []),(40,.tup []),(41,.tup []),(42,.bool false),(43,.bool false)]) (by simp) (by kernel_rfl) trivial (by kernel_rfl) ?_
   refine drK (by kernel_rfl) (by kernel_rfl) ?_
   refine drK (by kernel_rfl) (by kernel_rfl) ?_
   refine drK (by kernel_rfl) (by kernel_rfl) ?_
   refine drS [0,1,2] 2 [] [] (mkS 58 [(1,.ptr 0 0),(2,.ptr 1 0),(3,i6 r_2.2.2),(4,.sl (r_7.1.map (AV.int .i64)) none),(5,i6 r_7.2),(6,.ptr 2 0),(7,i6 r_9.2),(28,i6 r_2.2.2),(29,.bool (r_2.2.2 == 0)),(30,.bool false),(31,.tup []),(32,.tup []),(33,.bool false),(34,.bool false),(35,.tup []),(36,.tup []),(37,.bool false),(38,.bool false),(39,.tup []),(40,.tup []),(41,.tup []),(42,.bool false),(43,.bool false),(44,.tup []),(45,.tup []),(46,.tup []),(47,.bool false),(48,.bool false)]) (by simp) (by kernel_rfl) trivial (by kernel_rfl) ?_
   refine drK (by kernel_rfl) (by kernel_rfl) ?_
   refine drK (by kernel_rfl) (by kernel_rfl) ?_
   refine drK (by kernel_rfl) (by kernel_rfl) ?_
   refine drS [0,1,2] 2 [] [] (mkS 58 [(1,.ptr 0 0),(2,.ptr 1 0),(3,i6 r_2.2.2),(4,.sl (r_7.1.map (AV.int .i64)) none),(5,i6 r_7.2),(6,.ptr 2 0),(7,i6 r_9.2),(28,i6 r_2.2.2),(29,.bool (r_2.2.2 == 0)),(30,.bool false),(31,.tup []),(32,.tup []),(33,.bool false),(34,.bool false),(35,.tup []),(36,.tup []),(37,.bool false),(38,.bool false),(39,.tup []),(40,.tup []),(41,.tup []),(42,.bool false),(43,.bool false),(44,.tup []),(45,.tup []),(46,.tup []),(47,.bool false),(48,.bool false),(49,.tup []),(50,.tup []),(51,.tup []),(52,.bool false),(53,.bool false)]) (by simp) (by kernel_rfl) trivial (by kernel_rfl) ?_
   refine drK (by kernel_rfl) (by kernel_rfl) ?_
   refine drK (by kernel_rfl) (by kernel_rfl) ?_
   exact DrO.nil rfl
  ·dsimp only [List.getLastD_cons,List.getLastD_nil]
   refine rn 3 [0] (mkS 58 [(0,.bool false)]) ⟨[(C_Span r_2.1),(C_Span r_2.2.1),(C_Span r_9.1)],[(3,3),(3,1)]⟩ ?_
   refine ExO.nil ?_
   refine Ex.ret ?_
   obtain rfl:=sJ h
   exact rt (.bool false)
def p_bl2_FloatRoutes (N : Nat) (nums_1 : (List Int)) : Option (Bool):=((p_bk_DrumOf N nums_1).bind fun r_2 => ((p_bk_FloatOf N r_2 5).bind fun r_3 => ((p_bk_RouteOf N r_3.2 r_3.1 6).bind fun r_4 => ((p_bk_Drum_Order N r_4.2 ((r_4.1.length : Nat) : Int)).bind fun r_5 => (letJ (fun (other_6 : List T_Hurdle) => ((p_Passes N r_3.1 r_4.1).bind fun r_19 => ((p_Passes N r_3.1 other_6).bind fun r_20 => ((p_Stops N r_3.1 r_4.1).bind fun r_21 => (letJ (fun (y_22 : Bool) => (bif y_22 then some false else (letJ (fun (_ : Unit) => (bif (decide (r_21.1 < 0)) then ((p_bl2_awake N).bind fun r_55 => some r_55) else ((getI r_19.1 r_21.1).bind fun x_56 => (bif (x_56 != 1) then ((p_bl2_awake N).bind fun r_58 => some r_58) else some false)))) (fun k_33 => (loop1 (fun rec_37 (i_36 : Int) => (bif (decide (i_36 < ((r_5.1.length : Nat) : Int))) then (letJ (fun (y_41 : Bool) => (bif y_41 then some false else (rec_37 (IntKind.i64.wrap (i_36 + 1))))) (fun k_42 => ((getI r_20.1 i_36).bind fun x_45 => ((getI r_5.1 i_36).bind fun x_46 => ((getI r_19.1 x_46).bind fun x_47 => (bif (x_45 != x_47) then (k_42 true) else (bif (decide (r_21.1 < 0)) then ((getI r_19.1 i_36).bind fun x_50 => (k_42 (x_50 != 1))) else (bif (decide (i_36 < r_21.1)) then ((getI r_19.1 i_36).bind fun x_52 => (k_42 (x_52 != 1))) else (k_42 false))))))))) else (k_33 ()))) N 0))))) (fun k_23 => (bif (r_19.2 != 0) then (k_23 true) else (bif (r_20.2 != 0) then (k_23 true) else (bif (r_21.2 != 0) then (k_23 true) else (bif (((r_19.1.length : Nat) : Int) != ((r_4.1.length : Nat) : Int)) then (k_23 true) else (bif (((r_20.1.length : Nat) : Int) != ((r_4.1.length : Nat) : Int)) then (k_23 true) else (bif (decide (r_21.1 < (-1))) then (k_23 true) else (k_23 (decide (r_21.1 ≥ ((r_4.1.length : Nat) : Int)))))))))))))))) (fun k_7 => (loop2 (fun rec_12 (other_10 : List T_Hurdle) (i_11 : Int) => (bif (decide (i_11 < ((r_5.1.length : Nat) : Int))) then ((getI r_5.1 i_11).bind fun x_16 => ((getI r_4.1 x_16).bind fun x_17 => ((pushI other_10 ([x_17] : List T_Hurdle)).bind fun l_18 => (rec_12 l_18 (IntKind.i64.wrap (i_11 + 1)))))) else (k_7 other_10))) N [] 0)))))))
def v_bl2_FloatRoutes (r : Bool) : AV:=.bool r
attribute [local simp] v_bl2_FloatRoutes
theorem d_bl2_FloatRoutes (N : Nat) (nums_1 : (List Int)) (r : Bool) (h : p_bl2_FloatRoutes N nums_1 = some r) : Does Try.prog 3 [.sl (nums_1.map (AV.int .i64)) none] [] fun v c => v = v_bl2_FloatRoutes r ∧ c = []:=by
 unfold p_bl2_FloatRoutes at h
 refine Does.ofL comp3 _ _ rfl rfl ?_
 refine Ex.seq (rg 1 [0] (mkS 141 [(0,.sl (nums_1.map (AV.int .i64)) none)]) ⟨[],[]⟩ ?_)
 refine Ex.seq ?_
 obtain ⟨r_2,hr_2,h⟩:=bE h
 refine Ex.reg (rn 1 [16] (mkS 141 [(16,.sl (nums_1.map (AV.int .i64)) none)]) ⟨[],[]⟩ ?_)
 refine ExO.callL (v':=.ptr 0 0) [] [.sl (nums_1.map (AV.int .i64)) none] rfl rfl (a_bk_DrumOf nums_1) rfl rfl (d_bk_DrumOf N nums_1 r_2 hr_2) rfl (by simp) ?_
 refine rn 1 [3] (mkS 141 [(3,.ptr 0 0)]) ⟨[(C_bk_Drum r_2)],[]⟩ ?_
 refine ExO.nil ?_
 refine Ex.seq ?_
 obtain ⟨r_3,hr_3,h⟩:=bE h
 refine Ex.reg (rn 1 [3,18] (mkS 141 [(3,.ptr 0 0),(18,.ptr 0 0)]) ⟨[(C_bk_Drum r_2)],[]⟩ ?_)
 refine ExO.callL [0] [.ptr 0 0,i6 5] rfl rfl (by simp; try rfl) rfl (by simp) (d_bk_FloatOf N r_2 5 r_3 hr_3) (b_bk_FloatOf _ _ _ _) (by simp) ?_
 refine rn 2 [3,4] (mkS 141 [(3,.ptr 0 0),(4,.ptr 1 0)]) ⟨[(C_bk_Drum r_3.2),(C_Float r_3.1)],[]⟩ ?_
 refine ExO.nil ?_
 refine Ex.seq ?_
 obtain ⟨r_4,hr_4,h⟩:=bE h
 refine Ex.reg (rn 2 [3,4,20,21] (mkS 141 [(3,.ptr 0 0),(4,.ptr 1 0),(20,.ptr 0 0),(21,(A_Float r_3.1))]) ⟨[(C_bk_Drum r_3.2),(C_Float r_3.1)],[]⟩ ?_)
 refine ExO.callL [0] [.ptr 0 0,(A_Float r_3.1),i6 6] rfl rfl (by simp; try rfl) rfl (by simp) (d_bk_RouteOf N r_3.2 r_3.1 6 r_4 hr_4) (b_bk_RouteOf _ _ _ _) (by simp) ?_
 refine rn 1 [3,4,5] (mkS 141 [(3,.ptr 0 0),(4,.ptr 1 0),(5,.sl (r_4.1.map A_Hurdle) none)]) ⟨[(C_bk_Drum r_4.2),(C_Float r_3.1)],[]⟩ ?_
 refine ExO.nil ?_
 refine Ex.seq ?_
 obtain ⟨r_5,hr_5,h⟩:=bE h
 refine Ex.reg ?_
 refine runH 3 [(2,.eq (i6 ((r_4.1.length : Nat) : Int)))] [4,5,23,25] [AV.int .i64 (((r_4.1.map A_Hurdle).length : Nat) : Int) = AV.int .i64 ((r_4.1.length : Nat) : Int)] (mkS 141 [(4,.ptr 1 0),(5,.sl (r_4.1.map A_Hurdle) none),(23,.ptr 0 0),(25,i6 ((r_4.1.length : Nat) : Int))]) (⟨[(C_bk_Drum r_4.2),(C_Float r_3.1)],[]⟩) (by kernel_rfl) ⟨lenM _ _,trivial⟩ ?_
 refine ExO.callL [0] [.ptr 0 0,i6 ((r_4.1.length : Nat) : Int)] rfl rfl (by simp; try rfl) rfl (by simp) (d_bk_Drum_Order N r_4.2 ((r_4.1.length : Nat) : Int) r_5 hr_5) (b_bk_Drum_Order _ _ _ _) (by simp) ?_
 refine rn 1 [4,5,6] (mkS 141 [(4,.ptr 1 0),(5,.sl (r_4.1.map A_Hurdle) none),(6,.sl (r_5.1.map (AV.int .i64)) none)]) ⟨[(C_bk_Drum r_5.2),(C_Float r_3.1)],[]⟩ ?_
 refine ExO.nil ?_
 refine Ex.seq (rg 1 [4,5,6,7] (mkS 141 [(4,.ptr 1 0),(5,.sl (r_4.1.map A_Hurdle) none),(6,.sl (r_5.1.map (AV.int .i64)) none),(7,.nils)]) ⟨[(C_bk_Drum r_5.2),(C_Float r_3.1)],[]⟩ ?_)
 refine Ex.seq (Ex.seq ?_)
 refine rg 1 [4,5,6,7,8] (mkS 141 [(4,.ptr 1 0),(5,.sl (r_4.1.map A_Hurdle) none),(6,.sl (r_5.1.map (AV.int .i64)) none),(7,.nils),(8,i6 0)]) ⟨[(C_bk_Drum r_5.2),(C_Float r_3.1)],[]⟩ ?_
 obtain ⟨K_8,hK_9,h⟩:=letE h
 refine Ex.blockJ (fun a S => ∃ (other_6 : List T_Hurdle),K_8 other_6 = some r ∧ a = mkS 141 [(4,.ptr 1 0),(5,.sl (r_4.1.map A_Hurdle) none),(6,.sl (r_5.1.map (AV.int .i64)) none),(7,.sl (other_6.map A_Hurdle) (some 0))] ∧ S = ⟨[(C_bk_Drum r_5.2),(C_Float r_3.1)],[(other_6.length,3)]⟩) ?_ ?_
 ·refine Ex.forget (nilK 7 3 rfl) ?_
  refine Ex.castA (a2:=mkS 141 [(4,.ptr 1 0),(5,.sl (r_4.1.map A_Hurdle) none),(6,.sl (r_5.1.map (AV.int .i64)) none),(7,.sl (([] : List T_Hurdle).map A_Hurdle) (some 0)),(8,i6 0)]) (S2:=⟨[(C_bk_Drum r_5.2),(C_Float r_3.1)],[(0,3)]⟩) (by kernel_rfl) (by kernel_rfl) ?_
  obtain ⟨B_13,hB_14,h⟩:=loop2I h
  refine Ex.loopF (fun k a S => ∃ (other_10 : List T_Hurdle),∃ (i_11 : Int),loop2 B_13 k other_10 i_11 = some r ∧ a = mkS 141 [(4,.ptr 1 0),(5,.sl (r_4.1.map A_Hurdle) none),(6,.sl (r_5.1.map (AV.int .i64)) none),(7,.sl (other_10.map A_Hurdle) (some 0)),(8,i6 i_11)] ∧ S = ⟨[(C_bk_Drum r_5.2),(C_Float r_3.1)],[(other_10.length,3)]⟩) N ⟨_,_,Forgets.refl _ _ _,[],0,h,rfl,rfl⟩ ?_
  rintro k a S ⟨other_10,i_11,h,rfl,rfl⟩
  cases k with
  | zero => exact (loop2Z h).elim
  | succ k =>
   replace h:=loop2S h hB_14
   refine Ex.seq (Ex.seq ?_)
   refine regH 4 [(2,.eq (i6 ((r_5.1.length : Nat) : Int)))] [4,5,6,7,8,30] [AV.int .i64 (((r_5.1.map (AV.int .i64)).length : Nat) : Int) = AV.int .i64 ((r_5.1.length : Nat) : Int)] (mkS 141 [(4,.ptr 1 0),(5,.sl (r_4.1.map A_Hurdle) none),(6,.sl (r_5.1.map (AV.int .i64)) none),(7,.sl (other_10.map A_Hurdle) (some 0)),(8,i6 i_11),(30,.bool (decide (i_11 < ((r_5.1.length : Nat) : Int))))]) (⟨[(C_bk_Drum r_5.2),(C_Float r_3.1)],[(other_10.length,3)]⟩) (by kernel_rfl) ⟨lenM _ _,trivial⟩ rfl ?_
   rcases condI h with ⟨hc_15,h⟩ | ⟨hc_15,h⟩
   ·refine Ex.condT _ rfl hc_15 ?_
    refine Ex.skip ?_
    refine Ex.seq ?_
    refine Ex.blockK ?_
    obtain ⟨x_16,hx_16,h⟩:=bE h
    obtain ⟨x_17,hx_17,h⟩:=bE h
    obtain ⟨l_18,hl_18,h⟩:=bE h
    refine regH 11 [(4,.rop [i6 x_16]),(6,.rop (C_Hurdle x_17)),(9,.app (l_18.map A_Hurdle) l_18.length)] [4,5,6,7,8] [LGet (r_5.1.map (AV.int .i64)) i_11 1 [i6 x_16],LGet (r_4.1.map A_Hurdle) x_16 3 (C_Hurdle x_17),LApp other_10.length (other_10.map A_Hurdle) (([x_17] : List T_Hurdle).map A_Hurdle) 3 (l_18.map A_Hurdle) l_18.length] (mkS 141 [(4,.ptr 1 0),(5,.sl (r_4.1.map A_Hurdle) none),(6,.sl (r_5.1.map (AV.int .i64)) none),(7,.sl (l_18.map A_Hurdle) (some 0)),(8,i6 i_11)]) (⟨[(C_bk_Drum r_5.2),(C_Float r_3.1)],[(l_18.length,3),(1,3)]⟩) (by kernel_rfl) ⟨LGet.of hx_16 rfl,LGet.of hx_17 rfl,LApp.of hl_18 (fun _ => rfl),trivial⟩ rfl ?_
    refine rg 3 [4,5,6,7,8] (mkS 141 [(4,.ptr 1 0),(5,.sl (r_4.1.map A_Hurdle) none),(6,.sl (r_5.1.map (AV.int .i64)) none),(7,.sl (l_18.map A_Hurdle) (some 0)),(8,i6 (IntKind.i64.wrap (i_11 + 1)))]) ⟨[(C_bk_Drum r_5.2),(C_Float r_3.1)],[(l_18.length,3),(1,3)]⟩ ?_
    dsimp only
    exact ⟨_,_,forgetA (m:=141) 2 [0] [(4,.ptr 1 0),(5,.sl (r_4.1.map A_Hurdle) none),(6,.sl (r_5.1.map (AV.int .i64)) none),(7,.sl (l_18.map A_Hurdle) (some 0)),(8,i6 (IntKind.i64.wrap (i_11 + 1)))] [(C_bk_Drum r_5.2),(C_Float r_3.1)] [(l_18.length,3)] (by simp [setAll]) (by simp) ⟨rfl,(reN (KL_Hurdle _)),(reN (cleanI _ _)),(reT (KL_Hurdle _) rfl),rfl,trivial⟩ (by simp) rfl (by decide),k,Nat.lt_succ_self k,l_18,(IntKind.i64.wrap (i_11 + 1)),h,rfl,rfl⟩
   ·refine Ex.condF _ rfl hc_15 ?_
    refine Ex.exit ?_
    (try simp only [reduceCtorEq,AEx.ex.injEq,Nat.reduceEqDiff,if_true,if_false])
    exact ⟨_,_,forgetK [4,5,6,7],other_10,h,rfl,rfl⟩
 ·rintro a S ⟨other_6,h,rfl,rfl⟩
  subst hK_9
  refine Ex.seq ?_
  obtain ⟨r_19,hr_19,h⟩:=bE h
  refine Ex.reg (rn 2 [4,5,6,7,44,45] (mkS 141 [(4,.ptr 1 0),(5,.sl (r_4.1.map A_Hurdle) none),(6,.sl (r_5.1.map (AV.int .i64)) none),(7,.sl (other_6.map A_Hurdle) (some 0)),(44,(A_Float r_3.1)),(45,.sl (r_4.1.map A_Hurdle) none)]) ⟨[(C_bk_Drum r_5.2),(C_Float r_3.1)],[(other_6.length,3)]⟩ ?_)
  refine ExO.callL [] [(A_Float r_3.1),.sl (r_4.1.map A_Hurdle) none] rfl rfl (a_Passes r_3.1 r_4.1) rfl rfl (d_Passes N r_3.1 r_4.1 r_19 hr_19) (b_Passes _ _ _ _) rfl ?_
  refine rn 5 [4,5,6,7,9,10] (mkS 141 [(4,.ptr 1 0),(5,.sl (r_4.1.map A_Hurdle) none),(6,.sl (r_5.1.map (AV.int .i64)) none),(7,.sl (other_6.map A_Hurdle) (some 0)),(9,.sl (r_19.1.map (AV.int .i64)) none),(10,i6 r_19.2)]) ⟨[(C_bk_Drum r_5.2),(C_Float r_3.1)],[(other_6.length,3)]⟩ ?_
  refine ExO.nil ?_
  refine Ex.seq ?_
  obtain ⟨r_20,hr_20,h⟩:=bE h
  refine Ex.reg (rn 2 [4,5,6,9,10,50,51] (mkS 141 [(4,.ptr 1 0),(5,.sl (r_4.1.map A_Hurdle) none),(6,.sl (r_5.1.map (AV.int .i64)) none),(9,.sl (r_19.1.map (AV.int .i64)) none),(10,i6 r_19.2),(50,(A_Float r_3.1)),(51,.sl (other_6.map A_Hurdle) (some 0))]) ⟨[(C_bk_Drum r_5.2),(C_Float r_3.1)],[(other_6.length,3)]⟩ ?_)
  refine ExO.callL [] [(A_Float r_3.1),.sl (other_6.map A_Hurdle) (some 0)] rfl rfl (a_Passes r_3.1 other_6) rfl rfl (d_Passes N r_3.1 other_6 r_20 hr_20) (b_Passes _ _ _ _) rfl ?_
  refine rn 5 [4,5,6,9,10,11,12] (mkS 141 [(4,.ptr 1 0),(5,.sl (r_4.1.map A_Hurdle) none),(6,.sl (r_5.1.map (AV.int .i64)) none),(9,.sl (r_19.1.map (AV.int .i64)) none),(10,i6 r_19.2),(11,.sl (r_20.1.map (AV.int .i64)) none),(12,i6 r_20.2)]) ⟨[(C_bk_Drum r_5.2),(C_Float r_3.1)],[(other_6.length,3)]⟩ ?_
  refine ExO.nil ?_
  refine Ex.seq ?_
  obtain ⟨r_21,hr_21,h⟩:=bE h
  refine Ex.reg (rn 2 [5,6,9,10,11,12,56,57] (mkS 141 [(5,.sl (r_4.1.map A_Hurdle) none),(6,.sl (r_5.1.map (AV.int .i64)) none),(9,.sl (r_19.1.map (AV.int .i64)) none),(10,i6 r_19.2),(11,.sl (r_20.1.map (AV.int .i64)) none),(12,i6 r_20.2),(56,(A_Float r_3.1)),(57,.sl (r_4.1.map A_Hurdle) none)]) ⟨[(C_bk_Drum r_5.2),(C_Float r_3.1)],[(other_6.length,3)]⟩ ?_)
  refine ExO.callL [] [(A_Float r_3.1),.sl (r_4.1.map A_Hurdle) none] rfl rfl (a_Stops r_3.1 r_4.1) rfl rfl (d_Stops N r_3.1 r_4.1 r_21 hr_21) (b_Stops _ _ _ _) rfl ?_
  refine rn 5 [5,6,9,10,11,12,13,14] (mkS 141 [(5,.sl (r_4.1.map A_Hurdle) none),(6,.sl (r_5.1.map (AV.int .i64)) none),(9,.sl (r_19.1.map (AV.int .i64)) none),(10,i6 r_19.2),(11,.sl (r_20.1.map (AV.int .i64)) none),(12,i6 r_20.2),(13,i6 r_21.1),(14,i6 r_21.2)]) ⟨[(C_bk_Drum r_5.2),(C_Float r_3.1)],[(other_6.length,3)]⟩ ?_
  refine ExO.nil ?_
  refine Ex.seq ?_
  obtain ⟨K_24,hK_25,h⟩:=letE h
  refine Ex.seqJ (fun a S => ∃ (y_22 : Bool),K_24 y_22 = some r ∧ a = mkS 141 [(6,.sl (r_5.1.map (AV.int .i64)) none),(9,.sl (r_19.1.map (AV.int .i64)) none),(11,.sl (r_20.1.map (AV.int .i64)) none),(13,i6 r_21.1),(94,.bool y_22)] ∧ S = ⟨[],[]⟩) ?_ ?_
  ·rcases condI h with ⟨hc_26,h⟩ | ⟨hc_26,h⟩
   ·refine regH 34 [(2, .eq (.bool true))] [6, 9, 11, 13, 94] [AV.bool (r_19.2 != 0) = AV.bool true] (mkS 141 [(6, .sl (r_5.1.map (AV.int .i64)) none), (9, .sl (r_19.1.map (AV.int .i64)) none), (11, .sl (r_20.1.map (AV.int .i64)) none), (13, i6 r_21.1), (94, .bool true)]) (⟨[(C_bk_Drum r_5.2), (C_Float r_3.1)], [(other_6.length, 3)]⟩) (by kernel_rfl) ⟨congrArg AV.bool hc_26, trivial⟩ rfl ?_
    (try simp only [reduceCtorEq,AEx.ex.injEq,Nat.reduceEqDiff,if_true,if_false])
    exact ⟨_,_,forgetA (m:=141) 0 [] [(6,.sl (r_5.1.map (AV.int .i64)) none),(9,.sl (r_19.1.map (AV.int .i64)) none),(11,.sl (r_20.1.map (AV.int .i64)) none),(13,i6 r_21.1),(94,.bool true)] [] [] (by simp [setAll]) (by simp) ⟨(reN (cleanI _ _)),(reN (cleanI _ _)),(reN (cleanI _ _)),rfl,rfl,trivial⟩ (by simp) rfl (by decide),true,h,rfl,rfl⟩
   ·rcases condI h with ⟨hc_27,h⟩ | ⟨hc_27,h⟩
    ·refine regH 34 [(2, .eq (.bool false)), (6, .eq (.bool true))] [6, 9, 11, 13, 94] [AV.bool (r_19.2 != 0) = AV.bool false, AV.bool (r_20.2 != 0) = AV.bool true] (mkS 141 [(6, .sl (r_5.1.map (AV.int .i64)) none), (9, .sl (r_19.1.map (AV.int .i64)) none), (11, .sl (r_20.1.map (AV.int .i64)) none), (13, i6 r_21.1), (94, .bool true)]) (⟨[(C_bk_Drum r_5.2), (C_Float r_3.1)], [(other_6.length, 3)]⟩) (by kernel_rfl) ⟨congrArg AV.bool hc_26, congrArg AV.bool hc_27, trivial⟩ rfl ?_
     (try simp only [reduceCtorEq,AEx.ex.injEq,Nat.reduceEqDiff,if_true,if_false])
     exact ⟨_,_,forgetA (m:=141) 0 [] [(6,.sl (r_5.1.map (AV.int .i64)) none),(9,.sl (r_19.1.map (AV.int .i64)) none),(11,.sl (r_20.1.map (AV.int .i64)) none),(13,i6 r_21.1),(94,.bool true)] [] [] (by simp [setAll]) (by simp) ⟨(reN (cleanI _ _)),(reN (cleanI _ _)),(reN (cleanI _ _)),rfl,rfl,trivial⟩ (by simp) rfl (by decide),true,h,rfl,rfl⟩
    ·rcases condI h with ⟨hc_28,h⟩ | ⟨hc_28,h⟩
     ·refine regH 34 [(2, .eq (.bool false)), (6, .eq (.bool false)), (10, .eq (.bool true))] [6, 9, 11, 13, 94] [AV.bool (r_19.2 != 0) = AV.bool false, AV.bool (r_20.2 != 0) = AV.bool false, AV.bool (r_21.2 != 0) = AV.bool true] (mkS 141 [(6, .sl (r_5.1.map (AV.int .i64)) none), (9, .sl (r_19.1.map (AV.int .i64)) none), (11, .sl (r_20.1.map (AV.int .i64)) none), (13, i6 r_21.1), (94, .bool true)]) (⟨[(C_bk_Drum r_5.2), (C_Float r_3.1)], [(other_6.length, 3)]⟩) (by kernel_rfl) ⟨congrArg AV.bool hc_26, congrArg AV.bool hc_27, congrArg AV.bool hc_28, trivial⟩ rfl ?_
      (try simp only [reduceCtorEq,AEx.ex.injEq,Nat.reduceEqDiff,if_true,if_false])
      exact ⟨_,_,forgetA (m:=141) 0 [] [(6,.sl (r_5.1.map (AV.int .i64)) none),(9,.sl (r_19.1.map (AV.int .i64)) none),(11,.sl (r_20.1.map (AV.int .i64)) none),(13,i6 r_21.1),(94,.bool true)] [] [] (by simp [setAll]) (by simp) ⟨(reN (cleanI _ _)),(reN (cleanI _ _)),(reN (cleanI _ _)),rfl,rfl,trivial⟩ (by simp) rfl (by decide),true,h,rfl,rfl⟩
     ·rcases condI h with ⟨hc_29,h⟩ | ⟨hc_29,h⟩
      ·refine regH 34 [(2, .eq (.bool false)), (6, .eq (.bool false)), (10, .eq (.bool false)), (12, .eq (i6 ((r_19.1.length : Nat) : Int))), (14, .eq (i6 ((r_4.1.length : Nat) : Int))), (17, .eq (.bool true))] [6, 9, 11, 13, 94] [AV.bool (r_19.2 != 0) = AV.bool false, AV.bool (r_20.2 != 0) = AV.bool false, AV.bool (r_21.2 != 0) = AV.bool false, AV.int .i64 (((r_19.1.map (AV.int .i64)).length : Nat) : Int) = AV.int .i64 ((r_19.1.length : Nat) : Int), AV.int .i64 (((r_4.1.map A_Hurdle).length : Nat) : Int) = AV.int .i64 ((r_4.1.length : Nat) : Int), AV.bool (((r_19.1.length : Nat) : Int) != ((r_4.1.length : Nat) : Int)) = AV.bool true] (mkS 141 [(6, .sl (r_5.1.map (AV.int .i64)) none), (9, .sl (r_19.1.map (AV.int .i64)) none), (11, .sl (r_20.1.map (AV.int .i64)) none), (13, i6 r_21.1), (94, .bool true)]) (⟨[(C_bk_Drum r_5.2), (C_Float r_3.1)], [(other_6.length, 3)]⟩) (by kernel_rfl) ⟨congrArg AV.bool hc_26, congrArg AV.bool hc_27, congrArg AV.bool hc_28, lenM _ _, lenM _ _, congrArg AV.bool hc_29, trivial⟩ rfl ?_
       (try simp only [reduceCtorEq,AEx.ex.injEq,Nat.reduceEqDiff,if_true,if_false])
       exact ⟨_,_,forgetA (m:=141) 0 [] [(6,.sl (r_5.1.map (AV.int .i64)) none),(9,.sl (r_19.1.map (AV.int .i64)) none),(11,.sl (r_20.1.map (AV.int .i64)) none),(13,i6 r_21.1),(94,.bool true)] [] [] (by simp [setAll]) (by simp) ⟨(reN (cleanI _ _)),(reN (cleanI _ _)),(reN (cleanI _ _)),rfl,rfl,trivial⟩ (by simp) rfl (by decide),true,h,rfl,rfl⟩
      ·rcases condI h with ⟨hc_30,h⟩ | ⟨hc_30,h⟩
       ·refine regH 34 [(2, .eq (.bool false)), (6, .eq (.bool false)), (10, .eq (.bool false)), (12, .eq (i6 ((r_19.1.length : Nat) : Int))), (14, .eq (i6 ((r_4.1.length : Nat) : Int))), (17, .eq (.bool false)), (19, .eq (i6 ((r_20.1.length : Nat) : Int))), (21, .eq (i6 ((r_4.1.length : Nat) : Int))), (24, .eq (.bool true))] [6, 9, 11, 13, 94] [AV.bool (r_19.2 != 0) = AV.bool false, AV.bool (r_20.2 != 0) = AV.bool false, AV.bool (r_21.2 != 0) = AV.bool false, AV.int .i64 (((r_19.1.map (AV.int .i64)).length : Nat) : Int) = AV.int .i64 ((r_19.1.length : Nat) : Int), AV.int .i64 (((r_4.1.map A_Hurdle).length : Nat) : Int) = AV.int .i64 ((r_4.1.length : Nat) : Int), AV.bool (((r_19.1.length : Nat) : Int) != ((r_4.1.length : Nat) : Int)) = AV.bool false, AV.int .i64 (((r_20.1.map (AV.int .i64)).length : Nat) : Int) = AV.int .i64 ((r_20.1.length : Nat) : Int), AV.int .i64 (((r_4.1.map A_Hurdle).length : Nat) : Int) = AV.int .i64 ((r_4.1.length : Nat) : Int), AV.bool (((r_20.1.length : Nat) : Int) != ((r_4.1.length : Nat) : Int)) = AV.bool true] (mkS 141 [(6, .sl (r_5.1.map (AV.int .i64)) none), (9, .sl (r_19.1.map (AV.int .i64)) none), (11, .sl (r_20.1.map (AV.int .i64)) none), (13, i6 r_21.1), (94, .bool true)]) (⟨[(C_bk_Drum r_5.2), (C_Float r_3.1)], [(other_6.length, 3)]⟩) (by kernel_rfl) ⟨congrArg AV.bool hc_26, congrArg AV.bool hc_27, congrArg AV.bool hc_28, lenM _ _, lenM _ _, congrArg AV.bool hc_29, lenM _ _, lenM _ _, congrArg AV.bool hc_30, trivial⟩ rfl ?_
        (try simp only [reduceCtorEq,AEx.ex.injEq,Nat.reduceEqDiff,if_true,if_false])
        exact ⟨_,_,forgetA (m:=141) 0 [] [(6,.sl (r_5.1.map (AV.int .i64)) none),(9,.sl (r_19.1.map (AV.int .i64)) none),(11,.sl (r_20.1.map (AV.int .i64)) none),(13,i6 r_21.1),(94,.bool true)] [] [] (by simp [setAll]) (by simp) ⟨(reN (cleanI _ _)),(reN (cleanI _ _)),(reN (cleanI _ _)),rfl,rfl,trivial⟩ (by simp) rfl (by decide),true,h,rfl,rfl⟩
       ·rcases condI h with ⟨hc_31,h⟩ | ⟨hc_31,h⟩
        ·refine regH 34 [(2, .eq (.bool false)), (6, .eq (.bool false)), (10, .eq (.bool false)), (12, .eq (i6 ((r_19.1.length : Nat) : Int))), (14, .eq (i6 ((r_4.1.length : Nat) : Int))), (17, .eq (.bool false)), (19, .eq (i6 ((r_20.1.length : Nat) : Int))), (21, .eq (i6 ((r_4.1.length : Nat) : Int))), (24, .eq (.bool false)), (28, .eq (.bool true))] [6, 9, 11, 13, 94] [AV.bool (r_19.2 != 0) = AV.bool false, AV.bool (r_20.2 != 0) = AV.bool false, AV.bool (r_21.2 != 0) = AV.bool false, AV.int .i64 (((r_19.1.map (AV.int .i64)).length : Nat) : Int) = AV.int .i64 ((r_19.1.length : Nat) : Int), AV.int .i64 (((r_4.1.map A_Hurdle).length : Nat) : Int) = AV.int .i64 ((r_4.1.length : Nat) : Int), AV.bool (((r_19.1.length : Nat) : Int) != ((r_4.1.length : Nat) : Int)) = AV.bool false, AV.int .i64 (((r_20.1.map (AV.int .i64)).length : Nat) : Int) = AV.int .i64 ((r_20.1.length : Nat) : Int), AV.int .i64 (((r_4.1.map A_Hurdle).length : Nat) : Int) = AV.int .i64 ((r_4.1.length : Nat) : Int), AV.bool (((r_20.1.length : Nat) : Int) != ((r_4.1.length : Nat) : Int)) = AV.bool false, AV.bool (decide (r_21.1 < (-1))) = AV.bool true] (mkS 141 [(6, .sl (r_5.1.map (AV.int .i64)) none), (9, .sl (r_19.1.map (AV.int .i64)) none), (11, .sl (r_20.1.map (AV.int .i64)) none), (13, i6 r_21.1), (94, .bool true)]) (⟨[(C_bk_Drum r_5.2), (C_Float r_3.1)], [(other_6.length, 3)]⟩) (by kernel_rfl) ⟨congrArg AV.bool hc_26, congrArg AV.bool hc_27, congrArg AV.bool hc_28, lenM _ _, lenM _ _, congrArg AV.bool hc_29, lenM _ _, lenM _ _, congrArg AV.bool hc_30, congrArg AV.bool hc_31, trivial⟩ rfl ?_
         (try simp only [reduceCtorEq,AEx.ex.injEq,Nat.reduceEqDiff,if_true,if_false])
         exact ⟨_,_,forgetA (m:=141) 0 [] [(6,.sl (r_5.1.map (AV.int .i64)) none),(9,.sl (r_19.1.map (AV.int .i64)) none),(11,.sl (r_20.1.map (AV.int .i64)) none),(13,i6 r_21.1),(94,.bool true)] [] [] (by simp [setAll]) (by simp) ⟨(reN (cleanI _ _)),(reN (cleanI _ _)),(reN (cleanI _ _)),rfl,rfl,trivial⟩ (by simp) rfl (by decide),true,h,rfl,rfl⟩
        ·refine regH 34 [(2, .eq (.bool false)), (6, .eq (.bool false)), (10, .eq (.bool false)), (12, .eq (i6 ((r_19.1.length : Nat) : Int))), (14, .eq (i6 ((r_4.1.length : Nat) : Int))), (17, .eq (.bool false)), (19, .eq (i6 ((r_20.1.length : Nat) : Int))), (21, .eq (i6 ((r_4.1.length : Nat) : Int))), (24, .eq (.bool false)), (28, .eq (.bool false)), (31, .eq (i6 ((r_4.1.length : Nat) : Int)))] [6, 9, 11, 13, 94] [AV.bool (r_19.2 != 0) = AV.bool false, AV.bool (r_20.2 != 0) = AV.bool false, AV.bool (r_21.2 != 0) = AV.bool false, AV.int .i64 (((r_19.1.map (AV.int .i64)).length : Nat) : Int) = AV.int .i64 ((r_19.1.length : Nat) : Int), AV.int .i64 (((r_4.1.map A_Hurdle).length : Nat) : Int) = AV.int .i64 ((r_4.1.length : Nat) : Int), AV.bool (((r_19.1.length : Nat) : Int) != ((r_4.1.length : Nat) : Int)) = AV.bool false, AV.int .i64 (((r_20.1.map (AV.int .i64)).length : Nat) : Int) = AV.int .i64 ((r_20.1.length : Nat) : Int), AV.int .i64 (((r_4.1.map A_Hurdle).length : Nat) : Int) = AV.int .i64 ((r_4.1.length : Nat) : Int), AV.bool (((r_20.1.length : Nat) : Int) != ((r_4.1.length : Nat) : Int)) = AV.bool false, AV.bool (decide (r_21.1 < (-1))) = AV.bool false, AV.int .i64 (((r_4.1.map A_Hurdle).length : Nat) : Int) = AV.int .i64 ((r_4.1.length : Nat) : Int)] (mkS 141 [(6, .sl (r_5.1.map (AV.int .i64)) none), (9, .sl (r_19.1.map (AV.int .i64)) none), (11, .sl (r_20.1.map (AV.int .i64)) none), (13, i6 r_21.1), (94, .bool (decide (r_21.1 ≥ ((r_4.1.length : Nat) : Int))))]) (⟨[(C_bk_Drum r_5.2), (C_Float r_3.1)], [(other_6.length, 3)]⟩) (by kernel_rfl) ⟨congrArg AV.bool hc_26, congrArg AV.bool hc_27, congrArg AV.bool hc_28, lenM _ _, lenM _ _, congrArg AV.bool hc_29, lenM _ _, lenM _ _, congrArg AV.bool hc_30, congrArg AV.bool hc_31, lenM _ _, trivial⟩ rfl ?_
         (try simp only [reduceCtorEq,AEx.ex.injEq,Nat.reduceEqDiff,if_true,if_false])
         exact ⟨_,_,forgetA (m:=141) 0 [] [(6,.sl (r_5.1.map (AV.int .i64)) none),(9,.sl (r_19.1.map (AV.int .i64)) none),(11,.sl (r_20.1.map (AV.int .i64)) none),(13,i6 r_21.1),(94,.bool (decide (r_21.1 ≥ ((r_4.1.length : Nat) : Int))))] [] [] (by simp [setAll]) (by simp) ⟨(reN (cleanI _ _)),(reN (cleanI _ _)),(reN (cleanI _ _)),rfl,rfl,trivial⟩ (by simp) rfl (by decide),(decide (r_21.1 ≥ ((r_4.1.length : Nat) : Int))),h,rfl,rfl⟩
  ·rintro a S ⟨y_22,h,rfl,rfl⟩
   subst hK_25
   rcases condI h with ⟨hc_32,h⟩ | ⟨hc_32,h⟩
   ·refine Ex.condT _ rfl hc_32 ?_
    refine Ex.seq (rg 1 [2] (mkS 141 [(2,.bool false)]) ⟨[],[]⟩ ?_)
    refine Ex.ret ?_
    obtain rfl:=sJ h
    exact rt (.bool false)
   ·refine Ex.condF _ rfl hc_32 ?_
    refine Ex.skip ?_
    refine Ex.seq (Ex.seq ?_)
    refine rg 1 [6,9,11,13,15] (mkS 141 [(6,.sl (r_5.1.map (AV.int .i64)) none),(9,.sl (r_19.1.map (AV.int .i64)) none),(11,.sl (r_20.1.map (AV.int .i64)) none),(13,i6 r_21.1),(15,i6 0)]) ⟨[],[]⟩ ?_
    obtain ⟨K_34,hK_35,h⟩:=letE h
    refine Ex.blockJ (fun a S => K_34 () = some r ∧ a = mkS 141 [(9,.sl (r_19.1.map (AV.int .i64)) none),(13,i6 r_21.1)] ∧ S = ⟨[],[]⟩) ?_ ?_
    ·obtain ⟨B_38,hB_39,h⟩:=loop1I h
     refine Ex.loopF (fun k a S => ∃ (i_36 : Int),loop1 B_38 k i_36 = some r ∧ a = mkS 141 [(6,.sl (r_5.1.map (AV.int .i64)) none),(9,.sl (r_19.1.map (AV.int .i64)) none),(11,.sl (r_20.1.map (AV.int .i64)) none),(13,i6 r_21.1),(15,i6 i_36)] ∧ S = ⟨[],[]⟩) N ⟨_,_,Forgets.refl _ _ _,0,h,rfl,rfl⟩ ?_
     rintro k a S ⟨i_36,h,rfl,rfl⟩
     cases k with
     | zero => exact (loop1Z h).elim
     | succ k =>
      replace h:=loop1S h hB_39
      refine Ex.seq (Ex.seq ?_)
      refine regH 4 [(2,.eq (i6 ((r_5.1.length : Nat) : Int)))] [6,9,11,13,15,98] [AV.int .i64 (((r_5.1.map (AV.int .i64)).length : Nat) : Int) = AV.int .i64 ((r_5.1.length : Nat) : Int)] (mkS 141 [(6,.sl (r_5.1.map (AV.int .i64)) none),(9,.sl (r_19.1.map (AV.int .i64)) none),(11,.sl (r_20.1.map (AV.int .i64)) none),(13,i6 r_21.1),(15,i6 i_36),(98,.bool (decide (i_36 < ((r_5.1.length : Nat) : Int))))]) (⟨[],[]⟩) (by kernel_rfl) ⟨lenM _ _,trivial⟩ rfl ?_
      rcases condI h with ⟨hc_40,h⟩ | ⟨hc_40,h⟩
      ·refine Ex.condT _ rfl hc_40 ?_
       refine Ex.skip ?_
       refine Ex.seq ?_
       refine Ex.blockK ?_
       obtain ⟨K_43,hK_44,h⟩:=letE h
       refine Ex.seqJ (fun a S => ∃ (y_41 : Bool),K_43 y_41 = some r ∧ a = mkS 141 [(6,.sl (r_5.1.map (AV.int .i64)) none),(9,.sl (r_19.1.map (AV.int .i64)) none),(11,.sl (r_20.1.map (AV.int .i64)) none),(13,i6 r_21.1),(15,i6 i_36),(128,.bool y_41)] ∧ S = ⟨[],[]⟩) ?_ ?_
       ·obtain ⟨x_45,hx_45,h⟩:=bE h
        obtain ⟨x_46,hx_46,h⟩:=bE h
        obtain ⟨x_47,hx_47,h⟩:=bE h
        rcases condI h with ⟨hc_48,h⟩ | ⟨hc_48,h⟩
        ·refine dregX (noClr_ok _) [(2, .rop [i6 x_45]), (7, .rop [i6 x_46]), (9, .rop [i6 x_47]), (12, .eq (.bool true))] [] [6, 9, 11, 13, 15, 128] [LGet (r_20.1.map (AV.int .i64)) i_36 1 [i6 x_45], LGet (r_5.1.map (AV.int .i64)) i_36 1 [i6 x_46], LGet (r_19.1.map (AV.int .i64)) x_46 1 [i6 x_47], AV.bool (x_45 != x_47) = AV.bool true] [] (mkS 141 [(6, .sl (r_5.1.map (AV.int .i64)) none), (9, .sl (r_19.1.map (AV.int .i64)) none), (11, .sl (r_20.1.map (AV.int .i64)) none), (13, i6 r_21.1), (15, i6 i_36), (98, .bool (decide (i_36 < ((r_5.1.length : Nat) : Int)))), (101, .sl (r_20.1.map (AV.int .i64)) none), (102, i6 i_36), (103, .rop [i6 x_45]), (104, i6 x_45), (105, .sl (r_19.1.map (AV.int .i64)) none), (106, .sl (r_5.1.map (AV.int .i64)) none), (107, i6 i_36), (108, .rop [i6 x_46]), (109, i6 x_46), (110, .rop [i6 x_47]), (111, i6 x_47), (112, .bool (x_45 != x_47)), (113, .bool true), (114, .tup []), (115, .tup []), (116, .tup []), (117, .tup []), (118, .tup []), (119, .tup []), (120, .tup []), (121, .tup []), (122, .tup []), (123, .tup [])]) (mkS 141 [(6, .sl (r_5.1.map (AV.int .i64)) none), (9, .sl (r_19.1.map (AV.int .i64)) none), (11, .sl (r_20.1.map (AV.int .i64)) none), (13, i6 r_21.1), (15, i6 i_36), (128, .bool true)]) (by kernel_rfl) (by kernel_rfl) ⟨LGet.of hx_45 rfl, LGet.of hx_46 rfl, LGet.of hx_47 rfl, congrArg AV.bool hc_48, trivial⟩ (by kernel_rfl) trivial ?_
         (try simp only [reduceCtorEq,AEx.ex.injEq,Nat.reduceEqDiff,if_true,if_false])
         exact ⟨_,_,Forgets.refl _ _ _,true,h,rfl,rfl⟩
        ·rcases condI h with ⟨hc_49,h⟩ | ⟨hc_49,h⟩
         ·obtain ⟨x_50,hx_50,h⟩:=bE h
          refine dregX (noClr_ok _) [(2,.rop [i6 x_45]),(7,.rop [i6 x_46]),(9,.rop [i6 x_47]),(12,.eq (.bool false)),(15,.eq (.bool true))] [(0,.rop [i6 x_50])] [6,9,11,13,15,128] [LGet (r_20.1.map (AV.int .i64)) i_36 1 [i6 x_45],LGet (r_5.1.map (AV.int .i64)) i_36 1 [i6 x_46],LGet (r_19.1.map (AV.int .i64)) x_46 1 [i6 x_47],AV.bool (x_45 != x_47) = AV.bool false,AV.bool (decide (r_21.1 < 0)) = AV.bool true] [LGet (r_19.1.map (AV.int .i64)) i_36 1 [i6 x_50]] (mkS 141 [(6,.sl (r_5.1.map (AV.int .i64)) none),(9,.sl (r_19.1.map (AV.int .i64)) none),(11,.sl (r_20.1.map (AV.int .i64)) none),(13,i6 r_21.1),(15,i6 i_36),(98,.bool (decide (i_36 < ((r_5.1.length : Nat) : Int)))),(101,.sl (r_20.1.map (AV.int .i64)) none),(102,i6 i_36),(103,.rop [i6 x_45]),(104,i6 x_45),(105,.sl (r_19.1.map (AV.int .i64)) none),(106,.sl (r_5.1.map (AV.int .i64)) none),(107,i6 i_36),(108,.rop [i6 x_46]),(109,i6 x_46),(110,.rop [i6 x_47]),(111,i6 x_47),(112,.bool (x_45 != x_47)),(113,.bool false),(114,i6 r_21.1),(115,.bool (decide (r_21.1 < 0))),(116,.bool true),(117,.tup []),(118,.tup []),(119,.tup []),(120,.bool true),(121,.bool true),(122,.sl (r_19.1.map (AV.int .i64)) none),(123,i6 i_36)]) (mkS 141 [(6,.sl (r_5.1.map (AV.int .i64)) none),(9,.sl (r_19.1.map (AV.int .i64)) none),(11,.sl (r_20.1.map (AV.int .i64)) none),(13,i6 r_21.1),(15,i6 i_36),(128,.bool (x_50 != 1))]) (by kernel_rfl) (by kernel_rfl) ⟨LGet.of hx_45 rfl,LGet.of hx_46 rfl,LGet.of hx_47 rfl,congrArg AV.bool hc_48,congrArg AV.bool hc_49,trivial⟩ (by kernel_rfl) ⟨LGet.of hx_50 rfl,trivial⟩ ?_
          (try simp only [reduceCtorEq,AEx.ex.injEq,Nat.reduceEqDiff,if_true,if_false])
          exact ⟨_,_,Forgets.refl _ _ _,(x_50 != 1),h,rfl,rfl⟩
         ·rcases condI h with ⟨hc_51,h⟩ | ⟨hc_51,h⟩
          ·refine Ex.drawE (a1:=mkS 141 [(6,.sl (r_5.1.map (AV.int .i64)) none),(9,.sl (r_19.1.map (AV.int .i64)) none),(11,.sl (r_20.1.map (AV.int .i64)) none),(13,i6 r_21.1),(15,i6 i_36),(98,.bool (decide (i_36 < ((r_5.1.length : Nat) : Int)))),(101,.sl (r_20.1.map (AV.int .i64)) none),(102,i6 i_36),(103,.rop [i6 x_45]),(104,i6 x_45),(105,.sl (r_19.1.map (AV.int .i64)) none),(106,.sl (r_5.1.map (AV.int .i64)) none),(107,i6 i_36),(108,.rop [i6 x_46]),(109,i6 x_46),(110,.rop [i6 x_47]),(111,i6 x_47),(112,.bool (x_45 != x_47)),(113,.bool false),(114,i6 r_21.1),(115,.bool (decide (r_21.1 < 0))),(116,.bool false),(117,i6 i_36),(118,i6 r_21.1),(119,.bool (decide (i_36 < r_21.1))),(120,.bool (decide (i_36 < r_21.1))),(121,.bool true),(122,.sl (r_19.1.map (AV.int .i64)) none),(123,i6 i_36)]) (noClr_ok _) [] [] [] ?_ ?_
           ·refine drS [] 23 [(2, .rop [i6 x_45]), (7, .rop [i6 x_46]), (9, .rop [i6 x_47]), (12, .eq (.bool false)), (15, .eq (.bool false)), (20, .eq (.bool true))] [LGet (r_20.1.map (AV.int .i64)) i_36 1 [i6 x_45], LGet (r_5.1.map (AV.int .i64)) i_36 1 [i6 x_46], LGet (r_19.1.map (AV.int .i64)) x_46 1 [i6 x_47], AV.bool (x_45 != x_47) = AV.bool false, AV.bool (decide (r_21.1 < 0)) = AV.bool false, AV.bool (decide (i_36 < r_21.1)) = AV.bool true] (mkS 141 [(6, .sl (r_5.1.map (AV.int .i64)) none), (9, .sl (r_19.1.map (AV.int .i64)) none), (11, .sl (r_20.1.map (AV.int .i64)) none), (13, i6 r_21.1), (15, i6 i_36), (98, .bool (decide (i_36 < ((r_5.1.length : Nat) : Int)))), (101, .sl (r_20.1.map (AV.int .i64)) none), (102, i6 i_36), (103, .rop [i6 x_45]), (104, i6 x_45), (105, .sl (r_19.1.map (AV.int .i64)) none), (106, .sl (r_5.1.map (AV.int .i64)) none), (107, i6 i_36), (108, .rop [i6 x_46]), (109, i6 x_46), (110, .rop [i6 x_47]), (111, i6 x_47), (112, .bool (x_45 != x_47)), (113, .bool false), (114, i6 r_21.1), (115, .bool (decide (r_21.1 < 0))), (116, .bool false), (117, i6 i_36), (118, i6 r_21.1), (119, .bool (decide (i_36 < r_21.1))), (120, .bool (decide (i_36 < r_21.1))), (121, .bool true), (122, .sl (r_19.1.map (AV.int .i64)) none), (123, i6 i_36)]) (by simp) (by kernel_rfl) ⟨LGet.of hx_45 rfl, LGet.of hx_46 rfl, LGet.of hx_47 rfl, congrArg AV.bool hc_48, congrArg AV.bool hc_49, congrArg AV.bool hc_51, trivial⟩ (by kernel_rfl) ?_
            exact DrO.nil rfl
           ·dsimp only [List.getLastD_cons,List.getLastD_nil]
            obtain ⟨x_52,hx_52,h⟩:=bE h
            refine runH 5 [(0,.rop [i6 x_52])] [6,9,11,13,15,128] [LGet (r_19.1.map (AV.int .i64)) i_36 1 [i6 x_52]] (mkS 141 [(6,.sl (r_5.1.map (AV.int .i64)) none),(9,.sl (r_19.1.map (AV.int .i64)) none),(11,.sl (r_20.1.map (AV.int .i64)) none),(13,i6 r_21.1),(15,i6 i_36),(128,.bool (x_52 != 1))]) (⟨[],[]⟩) (by kernel_rfl) ⟨LGet.of hx_52 rfl,trivial⟩ ?_
            refine ExO.nil ?_
            (try simp only [reduceCtorEq,AEx.ex.injEq,Nat.reduceEqDiff,if_true,if_false])
            exact ⟨_,_,Forgets.refl _ _ _,(x_52 != 1),h,rfl,rfl⟩
          ·refine dregX (noClr_ok _) [(2, .rop [i6 x_45]), (7, .rop [i6 x_46]), (9, .rop [i6 x_47]), (12, .eq (.bool false)), (15, .eq (.bool false)), (20, .eq (.bool false))] [] [6, 9, 11, 13, 15, 128] [LGet (r_20.1.map (AV.int .i64)) i_36 1 [i6 x_45], LGet (r_5.1.map (AV.int .i64)) i_36 1 [i6 x_46], LGet (r_19.1.map (AV.int .i64)) x_46 1 [i6 x_47], AV.bool (x_45 != x_47) = AV.bool false, AV.bool (decide (r_21.1 < 0)) = AV.bool false, AV.bool (decide (i_36 < r_21.1)) = AV.bool false] [] (mkS 141 [(6, .sl (r_5.1.map (AV.int .i64)) none), (9, .sl (r_19.1.map (AV.int .i64)) none), (11, .sl (r_20.1.map (AV.int .i64)) none), (13, i6 r_21.1), (15, i6 i_36), (98, .bool (decide (i_36 < ((r_5.1.length : Nat) : Int)))), (101, .sl (r_20.1.map (AV.int .i64)) none), (102, i6 i_36), (103, .rop [i6 x_45]), (104, i6 x_45), (105, .sl (r_19.1.map (AV.int .i64)) none), (106, .sl (r_5.1.map (AV.int .i64)) none), (107, i6 i_36), (108, .rop [i6 x_46]), (109, i6 x_46), (110, .rop [i6 x_47]), (111, i6 x_47), (112, .bool (x_45 != x_47)), (113, .bool false), (114, i6 r_21.1), (115, .bool (decide (r_21.1 < 0))), (116, .bool false), (117, i6 i_36), (118, i6 r_21.1), (119, .bool (decide (i_36 < r_21.1))), (120, .bool (decide (i_36 < r_21.1))), (121, .bool false), (122, .tup []), (123, .tup [])]) (mkS 141 [(6, .sl (r_5.1.map (AV.int .i64)) none), (9, .sl (r_19.1.map (AV.int .i64)) none), (11, .sl (r_20.1.map (AV.int .i64)) none), (13, i6 r_21.1), (15, i6 i_36), (128, .bool false)]) (by kernel_rfl) (by kernel_rfl) ⟨LGet.of hx_45 rfl, LGet.of hx_46 rfl, LGet.of hx_47 rfl, congrArg AV.bool hc_48, congrArg AV.bool hc_49, congrArg AV.bool hc_51, trivial⟩ (by kernel_rfl) trivial ?_
           (try simp only [reduceCtorEq,AEx.ex.injEq,Nat.reduceEqDiff,if_true,if_false])
           exact ⟨_,_,Forgets.refl _ _ _,false,h,rfl,rfl⟩
       ·rintro a S ⟨y_41,h,rfl,rfl⟩
        subst hK_44
        rcases condI h with ⟨hc_53,h⟩ | ⟨hc_53,h⟩
        ·refine Ex.condT _ rfl hc_53 ?_
         refine Ex.seq (rg 1 [2] (mkS 141 [(2,.bool false)]) ⟨[],[]⟩ ?_)
         refine Ex.ret ?_
         obtain rfl:=sJ h
         exact rt (.bool false)
        ·refine Ex.condF _ rfl hc_53 ?_
         refine Ex.skip ?_
         refine rg 3 [6,9,11,13,15] (mkS 141 [(6,.sl (r_5.1.map (AV.int .i64)) none),(9,.sl (r_19.1.map (AV.int .i64)) none),(11,.sl (r_20.1.map (AV.int .i64)) none),(13,i6 r_21.1),(15,i6 (IntKind.i64.wrap (i_36 + 1)))]) ⟨[],[]⟩ ?_
         dsimp only
         exact ⟨_,_,Forgets.refl _ _ _,k,Nat.lt_succ_self k,(IntKind.i64.wrap (i_36 + 1)),h,rfl,rfl⟩
      ·refine Ex.condF _ rfl hc_40 ?_
       refine Ex.exit ?_
       (try simp only [reduceCtorEq,AEx.ex.injEq,Nat.reduceEqDiff,if_true,if_false])
       exact ⟨_,_,forgetK [9,13],h,rfl,rfl⟩
    ·rintro a S ⟨h,rfl,rfl⟩
     subst hK_35
     refine Ex.seq ?_
     rcases condI h with ⟨hc_54,h⟩ | ⟨hc_54,h⟩
     ·obtain ⟨r_55,hr_55,h⟩:=bE h
      refine Ex.reg ?_
      refine runH 10 [(2,.eq (.bool true))] [138] [AV.bool (decide (r_21.1 < 0)) = AV.bool true] (mkS 141 [(138,.bool true)]) (⟨[],[]⟩) (by kernel_rfl) ⟨congrArg AV.bool hc_54,trivial⟩ ?_
      refine ExO.callL [] [] rfl rfl (a_bl2_awake) rfl rfl (d_bl2_awake N r_55 hr_55) (b_bl2_awake _ _ _ _) rfl ?_
      refine rn 2 [2] (mkS 141 [(2,.bool r_55)]) ⟨[],[]⟩ ?_
      refine ExO.nil ?_
      refine Ex.ret ?_
      obtain rfl:=sJ h
      exact rt (.bool r_55)
     ·obtain ⟨x_56,hx_56,h⟩:=bE h
      rcases condI h with ⟨hc_57,h⟩ | ⟨hc_57,h⟩
      ·obtain ⟨r_58,hr_58,h⟩:=bE h
       refine Ex.reg ?_
       refine runH 10 [(2,.eq (.bool false)),(5,.rop [i6 x_56]),(9,.eq (.bool true))] [138] [AV.bool (decide (r_21.1 < 0)) = AV.bool false,LGet (r_19.1.map (AV.int .i64)) r_21.1 1 [i6 x_56],AV.bool (x_56 != 1) = AV.bool true] (mkS 141 [(138,.bool true)]) (⟨[],[]⟩) (by kernel_rfl) ⟨congrArg AV.bool hc_54,LGet.of hx_56 rfl,congrArg AV.bool hc_57,trivial⟩ ?_
       refine ExO.callL [] [] rfl rfl (a_bl2_awake) rfl rfl (d_bl2_awake N r_58 hr_58) (b_bl2_awake _ _ _ _) rfl ?_
       refine rn 2 [2] (mkS 141 [(2,.bool r_58)]) ⟨[],[]⟩ ?_
       refine ExO.nil ?_
       refine Ex.ret ?_
       obtain rfl:=sJ h
       exact rt (.bool r_58)
      ·refine regH 13 [(2, .eq (.bool false)), (5, .rop [i6 x_56]), (9, .eq (.bool false))] [2] [AV.bool (decide (r_21.1 < 0)) = AV.bool false, LGet (r_19.1.map (AV.int .i64)) r_21.1 1 [i6 x_56], AV.bool (x_56 != 1) = AV.bool false] (mkS 141 [(2, .bool false)]) (⟨[], []⟩) (by kernel_rfl) ⟨congrArg AV.bool hc_54, LGet.of hx_56 rfl, congrArg AV.bool hc_57, trivial⟩ rfl ?_
       refine Ex.ret ?_
       obtain rfl:=sJ h
       exact rt (.bool false)
end Go.Proofs.Ythfpmjnmaifgaaa
end
section
namespace Go.Proofs.Ythfpmjnmaifgaaa
open Go.RowKit

theorem w64 {x : Int} (h0 : -9223372036854775808 ≤ x) (h1 : x < 9223372036854775808) : IntKind.i64.wrap x = x:=by
 simp [IntKind.wrap,IntKind.bits,IntKind.signed]
 omega
theorem wu64 (x : Int) : 0 ≤ IntKind.u64.wrap x ∧ IntKind.u64.wrap x < 2 ^ 64:=by
 have e : IntKind.u64.wrap x = x % 2 ^ 64:=rfl
 omega
theorem wu64_id {x : Int} (h0 : 0 ≤ x) (h1 : x < 2 ^ 64) : IntKind.u64.wrap x = x:=by
 have e : IntKind.u64.wrap x = x % 2 ^ 64:=rfl
 omega

section
variable {ρ : Type} {A B C : Type}
theorem loop1_T {body : (A → Option ρ) → A → Option ρ} (T : Option ρ → Prop) (P : A → Prop) (μ : A → Nat) (h : ∀ rec a,P a → (∀ a',P a' → μ a' < μ a → T (rec a')) → T (body rec a)) : ∀ (N : Nat) (a : A),P a → μ a < N → T (loop1 body N a)
 | 0,a,_,hm => absurd hm (Nat.not_lt_zero _)
 | n + 1,a,hp,hm => h (loop1 body n) a hp fun a' hp' hm' => loop1_T T P μ h n a' hp' (by omega)
theorem loop2_T {body : (A → B → Option ρ) → A → B → Option ρ} (T : Option ρ → Prop) (P : A → B → Prop) (μ : A → B → Nat) (h : ∀ rec a b,P a b → (∀ a' b',P a' b' → μ a' b' < μ a b → T (rec a' b')) → T (body rec a b)) : ∀ (N : Nat) (a : A) (b : B),P a b → μ a b < N → T (loop2 body N a b)
 | 0,a,b,_,hm => absurd hm (Nat.not_lt_zero _)
 | n + 1,a,b,hp,hm => h (loop2 body n) a b hp fun a' b' hp' hm' => loop2_T T P μ h n a' b' hp' (by omega)
theorem loop3_T {body : (A → B → C → Option ρ) → A → B → C → Option ρ} (T : Option ρ → Prop) (P : A → B → C → Prop) (μ : A → B → C → Nat) (h : ∀ rec a b c,P a b c → (∀ a' b' c',P a' b' c' → μ a' b' c' < μ a b c → T (rec a' b' c')) → T (body rec a b c)) : ∀ (N : Nat) (a : A) (b : B) (c : C),P a b c → μ a b c < N → T (loop3 body N a b c)
 | 0,a,b,c,_,hm => absurd hm (Nat.not_lt_zero _)
 | n + 1,a,b,c,hp,hm => h (loop3 body n) a b c hp fun a' b' c' hp' hm' => loop3_T T P μ h n a' b' c' hp' (by omega)
end
theorem getI_nat {α : Type} (l : List α) (i : Nat) : getI l (i : Int) = l[i]?:=by simp [getI]
theorem getI_lt {α : Type} {l : List α} {i : Int} (h0 : 0 ≤ i) (h1 : i < (l.length : Int)) : ∃ x,getI l i = some x ∧ l[i.toNat]? = some x ∧ x ∈ l:=by
 have hlt : i.toNat < l.length:=by omega
 refine ⟨l[i.toNat],?_,List.getElem?_eq_getElem hlt,List.getElem_mem hlt⟩
 simp only [getI,h0,if_true]
 exact List.getElem?_eq_getElem hlt
theorem pushI_ok {α : Type} {l m : List α} (h : l.length + m.length ≤ 65536) : pushI l m = some (l ++ m):=if_pos h
theorem letJ_eq {κ ρ : Type} (K : κ) (f : κ → Option ρ) : letJ K f = f K:=rfl

theorem hit_p (N : Nat) (d : T_bk_Drum) : ∃ y d',p_bk_Drum_hit N d = some (y,d') ∧ 0 ≤ y ∧ y < 2 ^ 64:=by
 refine ⟨_,_,rfl,?_⟩
 exact wu64 _
theorem roll_p (N : Nat) (d : T_bk_Drum) (n : Int) (hn : n < 9223372036854775808) : ∃ r d',p_bk_Drum_Roll N d n = some (r,d') ∧ 0 ≤ r ∧ (n < 2 → r = 0) ∧ (2 ≤ n → r < n):=by
 unfold p_bk_Drum_Roll
 by_cases h2 : n < 2
 ·simp only [h2,decide_true,cond_true]
  exact ⟨0,d,rfl,by omega,fun _ => rfl,fun h => by omega⟩
 ·simp only [h2,decide_false,cond_false]
  obtain ⟨y,d',hy,h0,h1⟩:=hit_p N d
  have hu : IntKind.u64.wrap n = n:=wu64_id (by omega) (by omega)
  have hnz : n ≠ 0:=by omega
  rw [hy,hu]
  simp only [Option.bind_some,nzI,hnz,if_false]
  have hsh : Int.fdiv y ((2 : Int) ^ (min (Int.toNat 1) (IntKind.bits .u64))) = y / 2:=by
   have : (2 : Int) ^ (min (Int.toNat 1) (IntKind.bits .u64)) = 2:=rfl
   rw [this,Int.fdiv_eq_ediv_of_nonneg _ (by omega)]
  rw [hsh]
  have hd0 : 0 ≤ y / 2:=by omega
  have hm : Int.tmod (y / 2) n = (y / 2) % n:=Int.tmod_eq_emod_of_nonneg hd0
  have hm0 : 0 ≤ (y / 2) % n:=Int.emod_nonneg _ hnz
  have hm1 : (y / 2) % n < n:=Int.emod_lt_of_pos _ (by omega)
  rw [hm,w64 (x:=y / 2 % n) (by omega) (by omega)]
  exact ⟨_,d',rfl,hm0,fun h => False.elim h,fun _ => hm1⟩
theorem any_p (N : Nat) (d : T_bk_Drum) (l : List Int) (hl : l ≠ []) (hlen : l.length < 1000) : ∃ r d',p_bk_Drum_Any N d l = some (r,d') ∧ r ∈ l:=by
 unfold p_bk_Drum_Any
 have hpos : 0 < l.length:=List.length_pos_iff.2 hl
 have hb : (((l.length : Nat) : Int) == 0) = false:=by simp; omega
 rw [hb,cond_false]
 obtain ⟨r,d',h1,h2,h3,h4⟩:=roll_p N d ((l.length : Nat) : Int) (by omega)
 rw [h1]
 simp only [Option.bind_some]
 have hr : r < (l.length : Int):=by
  by_cases h : (l.length : Int) < 2
  ·rw [h3 h]; omega
  ·exact h4 (by omega)
 obtain ⟨x,e1,_,e3⟩:=getI_lt h2 hr
 rw [e1]
 exact ⟨x,d',rfl,e3⟩
theorem mid_p (N : Nat) (d : T_bk_Drum) (lo hi : Int) (h0 : -4611686018427387904 ≤ lo) (h1 : lo ≤ 4611686018427387903) (h2 : -4611686018427387904 ≤ hi) (h3 : hi ≤ 4611686018427387902) : ∃ r d',p_bk_Drum_Mid N d lo hi = some (r,d') ∧ lo ≤ r ∧ (lo ≤ hi → r ≤ hi) ∧ (hi < lo → r = lo):=by
 unfold p_bk_Drum_Mid
 rw [w64 (x:=hi - lo) (by omega) (by omega)]
 by_cases hc : hi - lo + 1 < 9223372036854775808
 ·rw [w64 (x := hi - lo + 1) (by omega) hc]
  obtain ⟨r,d',e1,e2,e3,e4⟩:=roll_p N d (hi - lo + 1) hc
  rw [e1]
  simp only [Option.bind_some]
  have hr : r ≤ hi - lo ∨ r = 0:=by
   by_cases h : hi - lo + 1 < 2
   ·exact .inr (e3 h)
   ·have:=e4 (by omega); exact .inl (by omega)
  rw [w64 (by omega) (by omega)]
  exact ⟨_, d', rfl, by omega, fun h => by omega, fun h => by
   have:=e3 (by omega)
   omega⟩
 ·omega
theorem of_p (N : Nat) (d : T_bk_Drum) (x : T_Span) (h : x.Lo ≤ x.Hi) (h0 : -4611686018427387904 ≤ x.Lo) (h1 : x.Hi ≤ 4611686018427387902) : ∃ r d',p_bk_Drum_Of N d x = some (r,d') ∧ x.Lo ≤ r ∧ r ≤ x.Hi:=by
 unfold p_bk_Drum_Of
 obtain ⟨r,d',e1,e2,e3,e4⟩:=roll_p N d 4 (by omega)
 rw [e1]
 simp only [Option.bind_some]
 cases hc : (r == 0) with
 | true => exact ⟨x.Lo,d',rfl,by omega,h⟩
 | false =>
  cases hc2 : (r == 1) with
  | true => exact ⟨x.Hi,d',rfl,h,by omega⟩
  | false =>
   simp only [cond_false]
   obtain ⟨m,d2,g1,g2,g3,_⟩:=mid_p N d' x.Lo x.Hi h0 (by omega) (by omega) h1
   rw [g1]
   exact ⟨m,d2,rfl,g2,g3 h⟩
theorem span_a (N : Nat) (d : T_bk_Drum) (n hi : Int) (h0 : 0 ≤ n) (h : n ≤ hi) (h1 : hi ≤ 4611686018427387902) : ∃ x d',((p_bk_Drum_Mid N d n hi).bind fun r_9 => some ((⟨n,r_9.1⟩ : T_Span),r_9.2)) = some (x,d') ∧ x.Lo = n ∧ n ≤ x.Hi ∧ x.Hi ≤ hi:=by
 obtain ⟨m,d3,j1,j2,j3,_⟩:=mid_p N d n hi (by omega) (by omega) (by omega) h1
 rw [j1]
 exact ⟨⟨n,m⟩,d3,rfl,rfl,j2,j3 h⟩
theorem span_p (N : Nat) (d : T_bk_Drum) (lo hi : Int) (h0 : 0 ≤ lo) (h : lo ≤ hi) (h1 : hi ≤ 4611686018427387902) : ∃ x d',p_bk_Drum_Span N d lo hi = some (x,d') ∧ lo ≤ x.Lo ∧ x.Lo ≤ x.Hi ∧ x.Hi ≤ hi:=by
 obtain ⟨n,d1,e1,e2,e3,_⟩:=mid_p N d lo hi (by omega) (by omega) (by omega) h1
 have e3:=e3 h
 obtain ⟨r,d2,g1,_,_,_⟩:=roll_p N d1 3 (by omega)
 unfold p_bk_Drum_Span
 rw [e1,Option.bind_some,g1,Option.bind_some]
 show ∃ x d',(bif (r == 0) then _ else (bif (r == 1) then _ else _)) = some (x,d') ∧ _
 cases (r == 0)
 ·cases (r == 1)
  ·obtain ⟨x, d', k1, k2, k3, k4⟩ := span_a N d2 n hi (by omega) e3 h1
   exact ⟨x,d',k1,by omega,by omega,k4⟩
  ·show ∃ x d',((p_bk_Drum_Mid N d2 n (if IntKind.i64.wrap (n + 3) < hi then IntKind.i64.wrap (n + 3) else hi)).bind _) = some (x,d') ∧ _
   rw [w64 (x:=n + 3) (by omega) (by omega)]
   have hm : n ≤ (if n + 3 < hi then n + 3 else hi) ∧ (if n + 3 < hi then n + 3 else hi) ≤ hi:=by split <;> omega
   obtain ⟨x,d',k1,k2,k3,k4⟩:=span_a N d2 n _ (by omega) hm.1 (Int.le_trans hm.2 h1)
   exact ⟨x,d',k1,by omega,by omega,Int.le_trans k4 hm.2⟩
 ·exact ⟨⟨n,n⟩,d2,rfl,e2,Int.le_refl _,e3⟩
theorem drumOf_step (N : Nat) (l : List Int) (rec : Int → Int → Option T_bk_Drum) (i q : Int) (h : i < 9223372036854775807) (h0 : 0 ≤ i) (ih : ∀ b',∃ d,rec (i + 1) b' = some d) : ∃ d,((p_bk_Drum_hit N (⟨q⟩ : T_bk_Drum)).bind fun r_14 => (rec (IntKind.i64.wrap (i + 1)) r_14.2.beat_)) = some d:=by
 obtain ⟨y,d',g1,_,_⟩:=hit_p N ⟨q⟩
 rw [g1,w64 (x:=i + 1) (by omega) (by omega)]
 exact ih _
theorem drumOf_p (N : Nat) (l : List Int) (hN : l.length < N) (hl : l.length < 9223372036854775808) : ∃ d,p_bk_DrumOf N l = some d:=by
 unfold p_bk_DrumOf
 rw [letJ_eq]
 refine loop2_T (fun x => ∃ d,x = some d) (fun i b => 0 ≤ i ∧ i ≤ (l.length : Int)) (fun i b => l.length - i.toNat) ?_ N 0 _ ⟨by omega,by omega⟩ (by simpa using hN)
 rintro rec i b ⟨h0,h1⟩ ih
 by_cases hc : i < (l.length : Int)
 ·rw [show decide (i < ((l.length : Nat) : Int)) = true from decide_eq_true hc,cond_true]
  obtain ⟨x,e1,_,_⟩:=getI_lt h0 hc
  rw [e1,Option.bind_some,Option.bind_some]
  exact drumOf_step N l rec i _ (by omega) h0 fun b' => ih _ _ ⟨by omega,by omega⟩ (by omega)
 ·rw [show decide (i < ((l.length : Nat) : Int)) = false from decide_eq_false hc,cond_false]
  exact ⟨_,rfl⟩
end Go.Proofs.Ythfpmjnmaifgaaa
end
section
namespace Go.Proofs.Ythfpmjnmaifgaaa
open Go.RowKit

structure LdOk (fr re : Int) (l : T_Load) : Prop where
 a1 : fr ≤ l.At
 a2 : l.At ≤ re
 k1 : 0 ≤ l.Kilos.Lo
 k2 : l.Kilos.Lo ≤ l.Kilos.Hi
 k3 : l.Kilos.Hi ≤ 100000
 t1 : 0 ≤ l.Top.Lo
 t2 : l.Top.Lo ≤ l.Top.Hi
 t3 : l.Top.Hi ≤ 2000
 d1 : 1 ≤ l.Kind
 d2 : l.Kind ≤ 4
 w1 : 0 ≤ l.Watts
 w2 : l.Watts ≤ 1000000
 w3 : l.Watts = 0 ∨ l.Kind = 2 ∨ l.Kind = 3
structure FlOk (f : T_Float) : Prop where
 l1 : 1 ≤ f.Length
 l2 : f.Length ≤ 3000
 w1 : 1 ≤ f.Width
 w2 : f.Width ≤ 1000
 f1 : 0 ≤ f.Front
 f2 : f.Front < f.Rear
 f3 : f.Rear ≤ f.Length
 t1 : 0 ≤ f.Turn
 t2 : f.Turn ≤ 20000
 k1 : 0 ≤ f.Kilos
 k2 : f.Kilos ≤ 100000
 m1 : 0 ≤ f.Middle
 m2 : f.Middle ≤ f.Length
 h1 : 0 ≤ f.High
 h2 : f.High ≤ 2000
 n : f.Loads.length ≤ 21
 all : ∀ l ∈ f.Loads,LdOk f.Front f.Rear l
structure FlMade (f : T_Float) (n : Int) : Prop where
 ok : FlOk f
 n : (f.Loads.length : Int) ≤ n
 k : f.Kilos ≤ 5000
 l : f.Length ≤ 1200
 a : ∀ l ∈ f.Loads,l.Kilos.Hi ≤ 900

theorem floatOf_p (N : Nat) (d : T_bk_Drum) (n : Int) (h0 : 0 ≤ n) (h1 : n ≤ 20) (hN : 30 < N) : ∃ f d',p_bk_FloatOf N d n = some (f,d') ∧ FlMade f n:=by
 unfold p_bk_FloatOf
 obtain ⟨r3,d3,e,m3⟩:=any_p N d [20,1200] (by simp) (by simp)
 rw [e,Option.bind_some]; clear e
 have m3 : r3 = 20 ∨ r3 = 1200:=by simpa using m3
 obtain ⟨r4,d4,e,a4,b4,_⟩:=mid_p N d3 2 r3 (by omega) (by omega) (by omega) (by omega)
 rw [e,Option.bind_some]; clear e
 have b4:=b4 (by omega)
 obtain ⟨r5,d5,e,a5,b5,_⟩:=mid_p N d4 1 400 (by omega) (by omega) (by omega) (by omega)
 rw [e,Option.bind_some]; clear e
 have b5:=b5 (by omega)
 obtain ⟨r6,d6,e,a6,_,b6⟩:=roll_p N d5 1500 (by omega)
 rw [e,Option.bind_some]; clear e
 have b6:=b6 (by omega)
 obtain ⟨r7,d7,e,m7⟩:=any_p N d6 [0,r6] (by simp) (by simp)
 rw [e,Option.bind_some]; clear e
 have m7 : r7 = 0 ∨ r7 = r6:=by simpa using m7
 obtain ⟨r8,d8,e,a8,_,b8⟩:=roll_p N d7 5000 (by omega)
 rw [e,Option.bind_some]; clear e
 have b8:=b8 (by omega)
 obtain ⟨r9,d9,e,m9⟩:=any_p N d8 [0,r8] (by simp) (by simp)
 rw [e,Option.bind_some]; clear e
 have m9 : r9 = 0 ∨ r9 = r8:=by simpa using m9
 obtain ⟨r10,d10,e,a10,_,b10⟩:=roll_p N d9 500 (by omega)
 rw [e,Option.bind_some]; clear e
 have b10:=b10 (by omega)
 obtain ⟨r11,d11,e,a11,c11,b11⟩:=roll_p N d10 r4 (by omega)
 rw [e,Option.bind_some]; clear e
 have b11:=b11 (by omega)
 show ∃ f d',((p_bk_Drum_Mid N d11 (IntKind.i64.wrap (r11 + 1)) r4).bind _) = some (f,d') ∧ _
 rw [w64 (x:=r11 + 1) (by omega) (by omega)]
 obtain ⟨r12,d12,e,a12,b12,_⟩:=mid_p N d11 (r11 + 1) r4 (by omega) (by omega) (by omega) (by omega)
 rw [e,Option.bind_some]; clear e
 have b12:=b12 (by omega)
 obtain ⟨r13,d13,e,a13,b13,_⟩:=mid_p N d12 0 r4 (by omega) (by omega) (by omega) (by omega)
 rw [e,Option.bind_some]; clear e
 have b13:=b13 (by omega)
 show ∃ f d',((p_bk_Drum_Roll N d13 (IntKind.i64.wrap (n + 1))).bind _) = some (f,d') ∧ _
 rw [w64 (x:=n + 1) (by omega) (by omega)]
 obtain ⟨r14,d14,e,a14,c14,b14⟩:=roll_p N d13 (n + 1) (by omega)
 rw [e,Option.bind_some,letJ_eq]; clear e
 have hr14 : r14 ≤ n:=by
  by_cases hc : n + 1 < 2
  ·have:=c14 hc; omega
  ·have:=b14 (by omega); omega
 refine loop3_T (fun x => ∃ f d',x = some (f,d') ∧ FlMade f n) (fun i b ls => 0 ≤ i ∧ (ls.length : Int) + i ≤ n ∧ ∀ l ∈ ls,LdOk r11 r12 l ∧ l.Kilos.Hi ≤ 900) (fun i b ls => i.toNat) ?_ N r14 _ [] ⟨a14,by simpa using hr14,by simp⟩ (by omega)
 rintro rec i b ls ⟨hi0,hi1,hall⟩ ih
 by_cases hc : i > 0
 ·rw [show decide (i > 0) = true from decide_eq_true hc,cond_true]
  obtain ⟨r27,d27,e,a27,b27,_⟩:=mid_p N ⟨b⟩ r11 r12 (by omega) (by omega) (by omega) (by omega)
  rw [e,Option.bind_some]; clear e
  have b27:=b27 (by omega)
  obtain ⟨r28,d28,e,m28⟩:=any_p N d27 [5,900] (by simp) (by simp)
  rw [e,Option.bind_some]; clear e
  have m28 : r28 = 5 ∨ r28 = 900:=by simpa using m28
  obtain ⟨x29,d29,e,a29,b29,c29⟩:=span_p N d28 0 r28 (by omega) (by omega) (by omega)
  rw [e,Option.bind_some]; clear e
  obtain ⟨r30,d30,e,m30⟩:=any_p N d29 [20,700] (by simp) (by simp)
  rw [e,Option.bind_some]; clear e
  have m30 : r30 = 20 ∨ r30 = 700:=by simpa using m30
  obtain ⟨x31,d31,e,a31,b31,c31⟩:=span_p N d30 0 r30 (by omega) (by omega) (by omega)
  rw [e,Option.bind_some]; clear e
  obtain ⟨r32,d32,e,a32,b32,_⟩:=mid_p N d31 1 4 (by omega) (by omega) (by omega) (by omega)
  rw [e,Option.bind_some]; clear e
  have b32:=b32 (by omega)
  have key : ∀ (b' wt : Int),0 ≤ wt → wt ≤ 1000000 → (wt = 0 ∨ r32 = 2 ∨ r32 = 3) → ∃ f d',((pushI ls ([(⟨r27,x29,x31,r32,wt⟩ : T_Load)] : List T_Load)).bind fun l_45 => (rec (IntKind.i64.wrap (i - 1)) b' l_45)) = some (f,d') ∧ FlMade f n:=by
   intro b' wt g0 g1 g2
   rw [pushI_ok (by simp; omega),Option.bind_some,w64 (x:=i - 1) (by omega) (by omega)]
   refine ih _ _ _ ⟨by omega,by simp; omega,?_⟩ (by omega)
   intro l hl
   rcases List.mem_append.1 hl with hl | hl
   ·exact hall l hl
   ·have : l = ⟨r27, x29, x31, r32, wt⟩ := by simpa using hl
    subst this
    exact ⟨⟨a27,b27,a29,b29,by show x29.Hi ≤ 100000; omega,a31,b31,by show x31.Hi ≤ 2000; omega,a32,b32,g0,g1,g2⟩,by show x29.Hi ≤ 900; omega⟩
  rw [letJ_eq,letJ_eq]
  dsimp only
  by_cases h2 : r32 = 2
  ·rw [show (r32 == 2) = true by simp [h2], cond_true, cond_true]
   obtain ⟨r44,d44,e,a44,_,b44⟩:=roll_p N d32 3000 (by omega)
   have b44:=b44 (by omega)
   rw [e,Option.bind_some]
   exact key _ _ a44 (by omega) (.inr (.inl h2))
  ·rw [show (r32 == 2) = false by simp [h2], cond_false]
   by_cases h3 : r32 = 3
   ·rw [show (r32 == 3) = true by simp [h3], cond_true]
    obtain ⟨r44,d44,e,a44,_,b44⟩:=roll_p N d32 3000 (by omega)
    have b44:=b44 (by omega)
    rw [e,Option.bind_some]
    exact key _ _ a44 (by omega) (.inr (.inr h3))
   ·rw [show (r32 == 3) = false by simp [h3], cond_false]
    exact key _ _ (by omega) (by omega) (.inl rfl)
 ·rw [show decide (i > 0) = false from decide_eq_false hc,cond_false]
  refine ⟨_,_,rfl,⟨?_,?_,?_,?_,?_⟩⟩
  ·exact ⟨by show 1 ≤ r4; omega,by show r4 ≤ 3000; omega,by show 1 ≤ r5; omega,by show r5 ≤ 1000; omega,by show 0 ≤ r11; omega,by show r11 < r12; omega,by show r12 ≤ r4; omega,by show 0 ≤ r7; omega,by show r7 ≤ 20000; omega,by show 0 ≤ r9; omega,by show r9 ≤ 100000; omega,by show 0 ≤ r13; omega,by show r13 ≤ r4; omega,by show 0 ≤ r10; omega,by show r10 ≤ 2000; omega,by show ls.length ≤ 21; omega,fun l hl => (hall l hl).1⟩
  ·show (ls.length : Int) ≤ n; omega
  ·show r9 ≤ 5000; omega
  ·show r4 ≤ 1200; omega
  ·exact fun l hl => (hall l hl).2
end Go.Proofs.Ythfpmjnmaifgaaa
end
section
namespace Go.Proofs.Ythfpmjnmaifgaaa
open Go.RowKit

section
variable {α A B ρ : Type}
theorem for2 (l : List α) (body : (A → Int → Option ρ) → A → Int → Option ρ) (f : A → α → A) (K : A → Option ρ) (I : Nat → A → Prop)
  (hend : ∀ rec a,I l.length a → body rec a (l.length : Int) = K a)
  (hstep : ∀ rec a (i : Nat) x,l[i]? = some x → I i a → body rec a (i : Int) = rec (f a x) ((i + 1 : Nat) : Int) ∧ I (i + 1) (f a x)) : ∀ (N : Nat) (i : Nat) (a : A),I i a → i ≤ l.length → l.length - i < N → loop2 body N a (i : Int) = K ((l.drop i).foldl f a)
 | 0,i,a,_,_,h => absurd h (Nat.not_lt_zero _)
 | N + 1,i,a,hi,hle,hN => by
  show body (loop2 body N) a (i : Int) = _
  by_cases hlt : i < l.length
  ·have hx : l[i]? = some l[i]:=List.getElem?_eq_getElem hlt
   obtain ⟨h1,h2⟩:=hstep (loop2 body N) a i l[i] hx hi
   rw [h1,for2 l body f K I hend hstep N (i + 1) (f a l[i]) h2 (by omega) (by omega),List.drop_eq_getElem_cons hlt]
   rfl
  ·have : i = l.length := by omega
   subst this
   rw [hend _ a hi,List.drop_length]
   rfl
theorem for1 (l : List α) (body : (Int → Option ρ) → Int → Option ρ) (r : Option ρ)
  (hend : ∀ rec,body rec (l.length : Int) = r)
  (hstep : ∀ rec (i : Nat) x,l[i]? = some x → body rec (i : Int) = rec ((i + 1 : Nat) : Int)) : ∀ (N : Nat) (i : Nat),i ≤ l.length → l.length - i < N → loop1 body N (i : Int) = r
 | 0,i,_,h => absurd h (Nat.not_lt_zero _)
 | N + 1,i,hle,hN => by
  show body (loop1 body N) (i : Int) = _
  by_cases hlt : i < l.length
  ·rw [hstep _ i l[i] (List.getElem?_eq_getElem hlt),for1 l body r hend hstep N (i + 1) (by omega) (by omega)]
  ·have : i = l.length := by omega
   subst this
   exact hend _
end
theorem nat_add1 (i : Nat) (h : i < 4611686018427387904) : IntKind.i64.wrap ((i : Int) + 1) = ((i + 1 : Nat) : Int):=by
 rw [w64 (x:=(i : Int) + 1) (by omega) (by omega)]
 omega
theorem lt_dec {α : Type} {l : List α} {i : Nat} {x : α} (h : l[i]? = some x) : decide ((i : Int) < ((l.length : Nat) : Int)) = true ∧ getI l (i : Int) = some x ∧ x ∈ l ∧ i < l.length:=by
 have hlt:=(List.getElem?_eq_some_iff.1 h).1
 exact ⟨decide_eq_true (by omega),by rw [getI_nat]; exact h,List.mem_of_getElem? h,hlt⟩
theorem len_dec {α : Type} (l : List α) : decide (((l.length : Nat) : Int) < ((l.length : Nat) : Int)) = false:=decide_eq_false (by omega)

theorem mulB {a b A B : Int} (h1 : 0 ≤ a) (h2 : a ≤ A) (h3 : 0 ≤ b) (h4 : b ≤ B) : 0 ≤ a * b ∧ a * b ≤ A * B :=
 ⟨Int.mul_nonneg h1 h3,Int.mul_le_mul h2 h4 h3 (by omega)⟩
theorem mulS {a b A B : Int} (h1 : 0 ≤ a) (h2 : a ≤ A) (h3 : -B ≤ b) (h4 : b ≤ B) : -(A * B) ≤ a * b ∧ a * b ≤ A * B:=by
 have hB : 0 ≤ B:=by omega
 by_cases hb : 0 ≤ b
 ·obtain ⟨h5,h6⟩:=mulB h1 h2 hb h4
  exact ⟨by have:=Int.mul_nonneg (show 0 ≤ A by omega) hB; omega,h6⟩
 ·obtain ⟨h5, h6⟩ := mulB (b := -b) (B := B) h1 h2 (by omega) (by omega)
  rw [Int.mul_neg] at h5 h6
  exact ⟨by omega,by have:=Int.mul_nonneg (show 0 ≤ A by omega) hB; omega⟩
def momL (g : T_Load → Int) (p : Int) (ls : List T_Load) : Int:=(ls.map fun l => g l * (l.At - p)).sum
def momR (g : T_Load → Int) (p : Int) (ls : List T_Load) : Int:=(ls.map fun l => g l * (p - l.At)).sum
def talL (ts : List Int) (h : Int) : Int:=ts.foldl (fun n x => if x > n then x else n) h
theorem talL_le : ∀ (ts : List Int) (h c : Int),h ≤ c → (∀ t ∈ ts,t ≤ c) → h ≤ talL ts h ∧ talL ts h ≤ c
 | [],h,c,h1,_ => ⟨Int.le_refl _,h1⟩
 | t :: ts,h,c,h1,h2 => by
  have ht:=h2 t (by simp)
  have hm : h ≤ (if t > h then t else h) ∧ (if t > h then t else h) ≤ c:=by split <;> omega
  obtain ⟨a,b⟩:=talL_le ts (if t > h then t else h) c hm.2 fun x hx => h2 x (by simp [hx])
  exact ⟨Int.le_trans hm.1 a,b⟩
theorem talL_mono : ∀ (ls : List T_Load) (h k : Int),h ≤ k → (∀ l ∈ ls,l.Top.Lo ≤ l.Top.Hi) → talL (ls.map fun l => l.Top.Lo) h ≤ talL (ls.map fun l => l.Top.Hi) k
 | [],h,k,h1,_ => h1
 | l :: ls,h,k,h1,h2 => by
  have hl:=h2 l (by simp)
  exact talL_mono ls (if l.Top.Lo > h then l.Top.Lo else h) (if l.Top.Hi > k then l.Top.Hi else k) (by split <;> split <;> omega) fun x hx => h2 x (by simp [hx])
end Go.Proofs.Ythfpmjnmaifgaaa
end
section
namespace Go.Proofs.Ythfpmjnmaifgaaa
open Go.RowKit

theorem pwithin_p (N : Nat) (n lo hi : Int) : p_within N n lo hi = some (decide (lo ≤ n) && decide (n ≤ hi)):=by
 unfold p_within
 by_cases h : n ≥ lo
 ·have h' : lo ≤ n:=h
  simp [h,h']
 ·have h' : ¬ lo ≤ n:=h
  simp [h,h']
theorem pwithin_t (N : Nat) (n lo hi : Int) (h1 : lo ≤ n) (h2 : n ≤ hi) : p_within N n lo hi = some true:=by
 rw [pwithin_p]; simp [h1,h2]
theorem pcheckSpan_t (N : Nat) (x : T_Span) (m : Int) (h1 : 0 ≤ x.Lo) (h2 : x.Lo ≤ x.Hi) (h3 : x.Hi ≤ m) : p_checkSpan N x m = some 0:=by
 unfold p_checkSpan
 rw [letJ_eq,pwithin_t N _ _ _ h1 (by omega),Option.bind_some]
 simp only [Bool.not_true,cond_false]
 rw [pwithin_t N _ _ _ (by omega) h3]
 simp [show ¬ x.Lo > x.Hi by omega]
theorem pcheckLoad_t (N : Nat) (f : T_Float) (l : T_Load) (h : LdOk f.Front f.Rear l) : p_checkLoad N f l = some 0:=by
 obtain ⟨a1,a2,k1,k2,k3,t1,t2,t3,d1,d2,w1,w2,w3⟩:=h
 unfold p_checkLoad
 simp only [letJ_eq,pwithin_t N _ _ _ a1 a2,pcheckSpan_t N _ _ k1 k2 k3,pcheckSpan_t N _ _ t1 t2 t3,pwithin_t N _ _ _ d1 d2,pwithin_t N _ _ _ w1 w2,Option.bind_some,Bool.not_true,cond_false,bne_self_eq_false]
 by_cases hw : l.Watts > 0
 ·rcases w3 with h0 | h0 | h0
  ·omega
  ·simp [hw,h0]
  ·simp [hw,h0]
 ·simp [hw]
theorem pcheckFrame_t (N : Nat) (f : T_Float) (h : FlOk f) : p_checkFrame N f = some 0:=by
 have:=h.f1; have:=h.f2; have:=h.f3
 unfold p_checkFrame
 simp only [letJ_eq,pwithin_t N _ _ _ h.l1 h.l2,pwithin_t N _ _ _ h.w1 h.w2,pwithin_t N _ _ _ h.f1 (show f.Front ≤ f.Length by omega),pwithin_t N _ _ _ (show 0 ≤ f.Rear by omega) h.f3,pwithin_t N _ _ _ h.t1 h.t2,pwithin_t N _ _ _ h.k1 h.k2,pwithin_t N _ _ _ h.m1 h.m2,pwithin_t N _ _ _ h.h1 h.h2,Option.bind_some,Bool.not_true,cond_false,show decide (f.Front ≥ f.Rear) = false from decide_eq_false (by omega)]
theorem pCheck_t (N : Nat) (f : T_Float) (h : FlOk f) (hn : f.Loads.length ≤ 20) (hN : 30 < N) : p_Check N f = some 0:=by
 unfold p_Check
 simp only [letJ_eq,pcheckFrame_t N f h,Option.bind_some,bne_self_eq_false,cond_false,show decide (((f.Loads.length : Nat) : Int) > 20) = false from decide_eq_false (by omega)]
 refine for1 f.Loads _ (some 0) ?_ ?_ N 0 (by omega) (by omega)
 ·intro rec
  rw [len_dec,cond_false]
 ·intro rec i x hx
  obtain ⟨e1,e2,e3,e4⟩:=lt_dec hx
  rw [e1,cond_true,e2,Option.bind_some,pcheckLoad_t N f x (h.all x e3),Option.bind_some,nat_add1 i (by omega)]
  rfl
def HuOk (h : T_Hurdle) : Prop :=
 (h.Kind = 1 ∧ 0 ≤ h.A ∧ h.A < h.B ∧ h.B ≤ 20000) ∨ (h.Kind = 2 ∧ 0 ≤ h.A ∧ h.A ≤ 2000 ∧ h.B = 0) ∨ (h.Kind = 3 ∧ 0 ≤ h.A ∧ h.A ≤ 10000000 ∧ 0 ≤ h.B ∧ h.B ≤ 10000000)
theorem pcheckHurdle_t (N : Nat) (h : T_Hurdle) (hh : HuOk h) : p_checkHurdle N h = some 0:=by
 unfold p_checkHurdle
 rcases hh with ⟨k,a,b,c⟩ | ⟨k,a,b,c⟩ | ⟨k,a,b,c,e⟩
 ·rw [k,show ((1 : Int) == 1) = true from rfl,cond_true]
  unfold p_checkBend
  simp only [letJ_eq,pwithin_t N _ _ _ a (show h.A ≤ 20000 by omega),pwithin_t N _ _ _ (show 0 ≤ h.B by omega) c,Option.bind_some,Bool.not_true,cond_false,show decide (h.A ≥ h.B) = false from decide_eq_false (by omega)]
 ·rw [k,show ((2 : Int) == 1) = false from rfl,cond_false,show ((2 : Int) == 2) = true from rfl,cond_true]
  unfold p_checkWire
  simp only [c,pwithin_t N _ _ _ a b,Option.bind_some,Bool.not_true,cond_false,bne_self_eq_false]
 ·rw [k,show ((3 : Int) == 1) = false from rfl,cond_false,show ((3 : Int) == 2) = false from rfl,cond_false,show ((3 : Int) == 3) = true from rfl,cond_true]
  unfold p_checkBridge
  simp only [letJ_eq,pwithin_t N _ _ _ a b,pwithin_t N _ _ _ c e,Option.bind_some,Bool.not_true,cond_false]
theorem pCheckRoute_t (N : Nat) (hs : List T_Hurdle) (hn : hs.length ≤ 40) (hh : ∀ h ∈ hs,HuOk h) (hN : 50 < N) : p_CheckRoute N hs = some 0:=by
 unfold p_CheckRoute
 simp only [letJ_eq,show decide (((hs.length : Nat) : Int) > 40) = false from decide_eq_false (by omega),cond_false]
 refine for1 hs _ (some 0) ?_ ?_ N 0 (by omega) (by omega)
 ·intro rec
  rw [len_dec,cond_false]
 ·intro rec i x hx
  obtain ⟨e1,e2,e3,e4⟩:=lt_dec hx
  rw [e1,cond_true,e2,Option.bind_some,pcheckHurdle_t N x (hh x e3),Option.bind_some,nat_add1 i (by omega)]
  rfl
theorem pcheckBoth_t (N : Nat) (f : T_Float) (hf : FlOk f) (h20 : f.Loads.length ≤ 20) (hs : List T_Hurdle) (hn : hs.length ≤ 40) (hh : ∀ h ∈ hs,HuOk h) (hN : 50 < N) : p_checkBoth N f hs = some 0:=by
 unfold p_checkBoth
 rw [pCheck_t N f hf h20 (by omega),Option.bind_some,pCheckRoute_t N hs hn hh hN]
 rfl
end Go.Proofs.Ythfpmjnmaifgaaa
end
section
namespace Go.Proofs.Ythfpmjnmaifgaaa
open Go.RowKit

theorem idxI_ok {i : Int} {m : Nat} (h0 : 0 ≤ i) (h1 : i < (m : Int)) : idxI i m = some ():=if_pos ⟨h0,h1⟩
structure TrIs (t : T_truth) (f : T_Float) (g k : T_Load → Int) (n : Nat) : Prop where
 e : t.Float = f
 hk : ∀ (j : Nat) (x : T_Load),j < n → f.Loads[j]? = some x → t.kilos_.l[j]? = some (g x)
 ht : ∀ (j : Nat) (x : T_Load),j < n → f.Loads[j]? = some x → t.tops_.l[j]? = some (k x)
theorem v21_len (x : T_V21_i64) : x.l.length = 21:=rfl
theorem set21 (x : T_V21_i64) (i : Nat) (v : Int) : (T_V21_i64.ofl (x.l.set i v)).l = x.l.set i v:=T_V21_i64.l_ofl _ (by rw [List.length_set,v21_len])
theorem TrIs.set {t : T_truth} {f : T_Float} {g k : T_Load → Int} {n : Nat} (h : TrIs t f g k n) (hn : n < 21) (x : T_Load) (hx : f.Loads[n]? = some x) : TrIs ⟨t.Float,T_V21_i64.ofl (t.kilos_.l.set n (g x)),T_V21_i64.ofl (t.tops_.l.set n (k x))⟩ f g k (n + 1):=by
 refine ⟨h.e,?_,?_⟩
 ·intro j y hj hy
  show (T_V21_i64.ofl _).l[j]? = _
  rw [set21]
  by_cases hjn : j = n
  ·subst hjn
   rw [hx] at hy
   rw [List.getElem?_set_self (by rw [v21_len]; exact hn),Option.some.inj hy]
  ·rw [List.getElem?_set_ne (by omega)]
   exact h.hk j y (by omega) hy
 ·intro j y hj hy
  show (T_V21_i64.ofl _).l[j]? = _
  rw [set21]
  by_cases hjn : j = n
  ·subst hjn
   rw [hx] at hy
   rw [List.getElem?_set_self (by rw [v21_len]; exact hn),Option.some.inj hy]
  ·rw [List.getElem?_set_ne (by omega)]
   exact h.ht j y (by omega) hy
theorem endsOf_p (N : Nat) (f : T_Float) (hn : f.Loads.length ≤ 21) (hN : 30 < N) : ∃ z,p_endsOf N f = some z ∧ TrIs z.a0 f (fun l => l.Kilos.Lo) (fun l => l.Top.Lo) f.Loads.length ∧ TrIs z.a1 f (fun l => l.Kilos.Hi) (fun l => l.Top.Hi) f.Loads.length:=by
 unfold p_endsOf
 rw [letJ_eq]
 refine loop2_T (fun (r : Option T_V2_truth) => ∃ z,r = some z ∧ TrIs z.a0 f (fun l => l.Kilos.Lo) (fun l => l.Top.Lo) f.Loads.length ∧ TrIs z.a1 f (fun l => l.Kilos.Hi) (fun l => l.Top.Hi) f.Loads.length) (fun i z => ∃ j : Nat,i = (j : Int) ∧ j ≤ f.Loads.length ∧ TrIs z.a0 f (fun l => l.Kilos.Lo) (fun l => l.Top.Lo) j ∧ TrIs z.a1 f (fun l => l.Kilos.Hi) (fun l => l.Top.Hi) j) (fun i z => f.Loads.length - i.toNat) ?_ N 0 _ ⟨0,rfl,by omega,⟨rfl,fun j x hj => absurd hj (Nat.not_lt_zero _),fun j x hj => absurd hj (Nat.not_lt_zero _)⟩,⟨rfl,fun j x hj => absurd hj (Nat.not_lt_zero _),fun j x hj => absurd hj (Nat.not_lt_zero _)⟩⟩ (by simp; omega)
 rintro rec i z ⟨j,rfl,hj,h0,h1⟩ ih
 by_cases hlt : j < f.Loads.length
 ·have hx : f.Loads[j]? = some f.Loads[j]:=List.getElem?_eq_getElem hlt
  obtain ⟨e1,e2,e3,e4⟩:=lt_dec hx
  simp only [e1,cond_true,e2,Option.bind_some,idxI_ok (show 0 ≤ (j : Int) by omega) (show (j : Int) < ((21 : Nat) : Int) by omega),nat_add1 j (by omega),Int.toNat_natCast]
  exact ih _ _ ⟨j + 1,rfl,hlt,h0.set (by omega) _ hx,h1.set (by omega) _ hx⟩ (by omega)
 ·have : j = f.Loads.length := by omega
  subst this
  rw [len_dec,cond_false]
  exact ⟨z,rfl,h0,h1⟩
def wsF (f : T_Float) (g : T_Load → Int) (ls : List T_Load) : List T_weight:=⟨f.Kilos,f.Middle⟩ :: ls.map fun l => ⟨g l,l.At⟩
theorem weights_p (N : Nat) (t : T_truth) (f : T_Float) (g k : T_Load → Int) (h : TrIs t f g k f.Loads.length) (hn : f.Loads.length ≤ 21) (hN : 30 < N) : p_t_weights N t = some (wsF f g f.Loads):=by
 unfold p_t_weights
 rw [letJ_eq,h.e]
 refine loop2_T (fun (r : Option (List T_weight)) => r = some (wsF f g f.Loads)) (fun a i => ∃ j : Nat,i = (j : Int) ∧ j ≤ f.Loads.length ∧ a = wsF f g (f.Loads.take j)) (fun a i => f.Loads.length - i.toNat) ?_ N _ 0 ⟨0,rfl,by omega,rfl⟩ (by simp; omega)
 rintro rec a i ⟨j,rfl,hj,rfl⟩ ih
 by_cases hlt : j < f.Loads.length
 ·have hx : f.Loads[j]? = some f.Loads[j]:=List.getElem?_eq_getElem hlt
  obtain ⟨e1,e2,e3,e4⟩:=lt_dec hx
  simp only [e1,cond_true,e2,Option.bind_some,idxI_ok (show 0 ≤ (j : Int) by omega) (show (j : Int) < ((21 : Nat) : Int) by omega),nat_add1 j (by omega),Int.toNat_natCast,h.hk j _ hlt hx]
  rw [pushI_ok (by simp [wsF]; omega),Option.bind_some]
  refine ih _ _ ⟨j + 1,rfl,hlt,?_⟩ (by omega)
  rw [List.take_succ_eq_append_getElem hlt]
  simp only [wsF,List.map_append,List.map_cons,List.map_nil,List.cons_append]
 ·have : j = f.Loads.length := by omega
  subst this
  rw [len_dec,cond_false,List.take_length]
def momW (p : Int) (ws : List T_weight) : Int:=(ws.map fun w => w.kilos_ * (w.at_ - p)).sum
theorem moment_p (N : Nat) (p : Int) (ws : List T_weight) (hw : ∀ w ∈ ws,0 ≤ w.kilos_ ∧ w.kilos_ ≤ 100000 ∧ -3000 ≤ w.at_ - p ∧ w.at_ - p ≤ 3000) (hn : ws.length ≤ 22) (hN : 30 < N) : p_moment N p ws = some (momW p ws) ∧ -6600000000 ≤ momW p ws ∧ momW p ws ≤ 6600000000:=by
 have hb : ∀ (j : Nat),j ≤ ws.length → -(300000000 * (j : Int)) ≤ momW p (ws.take j) ∧ momW p (ws.take j) ≤ 300000000 * (j : Int):=by
  intro j
  induction j with
  | zero => intro _; simp [momW]
  | succ j ih =>
   intro hj
   have ih:=ih (by omega)
   have hlt : j < ws.length:=by omega
   obtain ⟨a,b,c,d⟩:=hw _ (List.getElem_mem hlt)
   have m:=mulS (A:=100000) (B:=3000) a b c d
   rw [List.take_succ_eq_append_getElem hlt]
   simp only [momW,List.map_append,List.sum_append,List.map_cons,List.map_nil,List.sum_cons,List.sum_nil] at ih ⊢
   omega
 have hall:=hb ws.length (Nat.le_refl _)
 rw [List.take_length] at hall
 refine ⟨?_,by omega,by omega⟩
 unfold p_moment
 rw [letJ_eq]
 refine loop2_T (fun (r : Option Int) => r = some (momW p ws)) (fun a i => ∃ j : Nat,i = (j : Int) ∧ j ≤ ws.length ∧ a = momW p (ws.take j)) (fun a i => ws.length - i.toNat) ?_ N 0 0 ⟨0,rfl,by omega,by simp [momW]⟩ (by simp; omega)
 rintro rec a i ⟨j,rfl,hj,rfl⟩ ih
 by_cases hlt : j < ws.length
 ·have hx : ws[j]? = some ws[j]:=List.getElem?_eq_getElem hlt
  obtain ⟨e1,e2,e3,e4⟩:=lt_dec hx
  obtain ⟨a,b,c,d⟩:=hw _ e3
  have m:=mulS (A:=100000) (B:=3000) a b c d
  have b1:=hb j hj
  have s1 : momW p (ws.take (j + 1)) = momW p (ws.take j) + ws[j].kilos_ * (ws[j].at_ - p):=by
   rw [List.take_succ_eq_append_getElem hlt]
   simp only [momW,List.map_append,List.sum_append,List.map_cons,List.map_nil,List.sum_cons,List.sum_nil]
   omega
  simp only [e1,cond_true,e2,Option.bind_some]
  rw [nat_add1 j (by omega),w64 (x:=ws[j].at_ - p) (by omega) (by omega),w64 (x:=ws[j].kilos_ * (ws[j].at_ - p)) (by omega) (by omega),w64 (x:=momW p (ws.take j) + ws[j].kilos_ * (ws[j].at_ - p)) (by omega) (by omega)]
  exact ih _ _ ⟨j + 1,rfl,hlt,s1.symm⟩ (by omega)
 ·have : j = ws.length := by omega
  subst this
  rw [len_dec,cond_false,List.take_length]
end Go.Proofs.Ythfpmjnmaifgaaa
end
section
namespace Go.Proofs.Ythfpmjnmaifgaaa
open Go.RowKit

def GOk (g : T_Load → Int) (f : T_Float) : Prop:=∀ l ∈ f.Loads,0 ≤ g l ∧ g l ≤ 100000
theorem gLo (f : T_Float) (h : FlOk f) : GOk (fun l => l.Kilos.Lo) f:=fun l hl => by
 have a:=h.all l hl
 exact ⟨a.k1,by have h2:=a.k2; have h3:=a.k3; show l.Kilos.Lo ≤ 100000; omega⟩
theorem gHi (f : T_Float) (h : FlOk f) : GOk (fun l => l.Kilos.Hi) f:=fun l hl => by
 have:=h.all l hl
 exact ⟨by have h1:=this.k1; have h2:=this.k2; show 0 ≤ l.Kilos.Hi; omega,this.k3⟩
theorem ws_ok (f : T_Float) (h : FlOk f) (g : T_Load → Int) (hg : GOk g f) (q : Int) (q1 : f.Front ≤ q) (q2 : q ≤ f.Rear) : ∀ w ∈ wsF f g f.Loads,0 ≤ w.kilos_ ∧ w.kilos_ ≤ 100000 ∧ -3000 ≤ w.at_ - q ∧ w.at_ - q ≤ 3000:=by
 have:=h.l2; have:=h.f1; have:=h.f2; have:=h.f3; have:=h.m1; have:=h.m2; have:=h.k1; have:=h.k2
 intro w hw
 rcases List.mem_cons.1 hw with rfl | hw
 ·exact ⟨h.k1,h.k2,by show -3000 ≤ f.Middle - q; omega,by show f.Middle - q ≤ 3000; omega⟩
 ·obtain ⟨l,hl,rfl⟩:=List.mem_map.1 hw
  have a1:=(h.all l hl).a1; have a2:=(h.all l hl).a2
  exact ⟨(hg l hl).1,(hg l hl).2,by show -3000 ≤ l.At - q; omega,by show l.At - q ≤ 3000; omega⟩
theorem ws_len (f : T_Float) (h : FlOk f) (g : T_Load → Int) : (wsF f g f.Loads).length ≤ 22:=by
 have:=h.n
 simp [wsF]; omega
section
variable (N : Nat) (hN : 30 < N) (t : T_truth) (f : T_Float) (hf : FlOk f) (g k : T_Load → Int) (hg : GOk g f) (ht : TrIs t f g k f.Loads.length)
include hN hf hg ht
theorem onFront_p : p_t_onFront N t = some (-(momW f.Rear (wsF f g f.Loads))) ∧ -6600000000 ≤ momW f.Rear (wsF f g f.Loads) ∧ momW f.Rear (wsF f g f.Loads) ≤ 6600000000:=by
 obtain ⟨e,b1,b2⟩:=moment_p N f.Rear (wsF f g f.Loads) (ws_ok f hf g hg f.Rear (by have:=hf.f2; omega) (Int.le_refl _)) (ws_len f hf g) hN
 refine ⟨?_,b1,b2⟩
 unfold p_t_onFront
 rw [weights_p N t f g k ht hf.n hN,Option.bind_some,ht.e,e,Option.bind_some,w64 (x:=0 - momW f.Rear (wsF f g f.Loads)) (by omega) (by omega)]
 congr 1
 omega
theorem onRear_p : p_t_onRear N t = some (momW f.Front (wsF f g f.Loads)) ∧ -6600000000 ≤ momW f.Front (wsF f g f.Loads) ∧ momW f.Front (wsF f g f.Loads) ≤ 6600000000:=by
 obtain ⟨e,b1,b2⟩:=moment_p N f.Front (wsF f g f.Loads) (ws_ok f hf g hg f.Front (Int.le_refl _) (by have:=hf.f2; omega)) (ws_len f hf g) hN
 refine ⟨?_,b1,b2⟩
 unfold p_t_onRear
 rw [weights_p N t f g k ht hf.n hN,Option.bind_some,ht.e,e,Option.bind_some]
omit hg in
theorem height_p : p_t_height N t = some (talL (f.Loads.map k) f.High):=by
 have hn:=hf.n
 unfold p_t_height
 rw [letJ_eq,ht.e]
 refine loop2_T (fun (r : Option Int) => r = some (talL (f.Loads.map k) f.High)) (fun a i => ∃ j : Nat,i = (j : Int) ∧ j ≤ f.Loads.length ∧ a = talL ((f.Loads.take j).map k) f.High) (fun a i => f.Loads.length - i.toNat) ?_ N _ 0 ⟨0,rfl,by omega,by simp [talL]⟩ (by simp; omega)
 rintro rec a i ⟨j,rfl,hj,rfl⟩ ih
 by_cases hlt : j < f.Loads.length
 ·have hx : f.Loads[j]? = some f.Loads[j]:=List.getElem?_eq_getElem hlt
  obtain ⟨e1,e2,e3,e4⟩:=lt_dec hx
  simp only [e1,cond_true,Option.bind_some,idxI_ok (show 0 ≤ (j : Int) by omega) (show (j : Int) < ((21 : Nat) : Int) by omega),nat_add1 j (by omega),Int.toNat_natCast,ht.ht j _ hlt hx]
  refine ih _ _ ⟨j + 1,rfl,hlt,?_⟩ (by omega)
  rw [List.take_succ_eq_append_getElem hlt]
  simp only [talL,List.map_append,List.map_cons,List.map_nil,List.foldl_append,List.foldl_cons,List.foldl_nil]
  rfl
 ·have : j = f.Loads.length := by omega
  subst this
  rw [len_dec,cond_false,List.take_length]
theorem total_p : p_t_total N t = some (((wsF f g f.Loads).map fun w => w.kilos_).sum) ∧ 0 ≤ ((wsF f g f.Loads).map fun w => w.kilos_).sum ∧ ((wsF f g f.Loads).map fun w => w.kilos_).sum ≤ 2200000:=by
 have hw:=ws_ok f hf g hg f.Rear (by have:=hf.f2; omega) (Int.le_refl _)
 have hn:=ws_len f hf g
 unfold p_t_total
 rw [weights_p N t f g k ht hf.n hN,Option.bind_some,letJ_eq]
 generalize wsF f g f.Loads = ws at hw hn
 have hb : ∀ (j : Nat),j ≤ ws.length → 0 ≤ (((ws.take j).map fun w => w.kilos_).sum) ∧ (((ws.take j).map fun w => w.kilos_).sum) ≤ 100000 * (j : Int):=by
  intro j
  induction j with
  | zero => intro _; simp
  | succ j ih =>
   intro hj
   have ih:=ih (by omega)
   have hlt : j < ws.length:=by omega
   obtain ⟨a,b,_,_⟩:=hw _ (List.getElem_mem hlt)
   rw [List.take_succ_eq_append_getElem hlt]
   simp only [List.map_append,List.sum_append,List.map_cons,List.map_nil,List.sum_cons,List.sum_nil] at ih ⊢
   omega
 have hall:=hb ws.length (Nat.le_refl _)
 rw [List.take_length] at hall
 refine ⟨?_,by omega,by omega⟩
 refine loop2_T (fun (r : Option Int) => r = some ((ws.map fun w => w.kilos_).sum)) (fun a i => ∃ j : Nat,i = (j : Int) ∧ j ≤ ws.length ∧ a = ((ws.take j).map fun w => w.kilos_).sum) (fun a i => ws.length - i.toNat) ?_ N 0 0 ⟨0,rfl,by omega,by simp⟩ (by simp; omega)
 rintro rec a i ⟨j,rfl,hj,rfl⟩ ih
 by_cases hlt : j < ws.length
 ·have hx : ws[j]? = some ws[j]:=List.getElem?_eq_getElem hlt
  obtain ⟨e1,e2,e3,e4⟩:=lt_dec hx
  obtain ⟨a,b,_,_⟩:=hw _ e3
  have b1:=hb j hj
  have s1 : (((ws.take (j + 1)).map fun w => w.kilos_).sum) = (((ws.take j).map fun w => w.kilos_).sum) + ws[j].kilos_:=by
   rw [List.take_succ_eq_append_getElem hlt]
   simp only [List.map_append,List.sum_append,List.map_cons,List.map_nil,List.sum_cons,List.sum_nil]
   omega
  rw [e1,cond_true,e2,Option.bind_some,nat_add1 j (by omega),w64 (x:=(((ws.take j).map fun w => w.kilos_).sum) + ws[j].kilos_) (by omega) (by omega)]
  exact ih _ _ ⟨j + 1,rfl,hlt,s1.symm⟩ (by omega)
 ·have : j = ws.length := by omega
  subst this
  rw [len_dec,cond_false,List.take_length]
theorem bridge_p (a b : Int) (b0 : 0 ≤ b) (b1 : b ≤ 10000000) : p_t_passesBridge N t a b = some (decide (((wsF f g f.Loads).map fun w => w.kilos_).sum ≤ a) && (decide (-(momW f.Rear (wsF f g f.Loads)) ≤ b * (f.Rear - f.Front)) && decide (momW f.Front (wsF f g f.Loads) ≤ b * (f.Rear - f.Front)))):=by
 have:=hf.l2; have:=hf.f1; have:=hf.f2; have:=hf.f3
 have m:=mulB (A:=10000000) (B:=3000) b0 b1 (show 0 ≤ f.Rear - f.Front by omega) (by omega)
 unfold p_t_passesBridge
 rw [ht.e,w64 (x:=f.Rear - f.Front) (by omega) (by omega),w64 (x:=b * (f.Rear - f.Front)) (by omega) (by omega),(total_p N hN t f hf g k hg ht).1,Option.bind_some,(onFront_p N hN t f hf g k hg ht).1,Option.bind_some,(onRear_p N hN t f hf g k hg ht).1,Option.bind_some]
 generalize ((wsF f g f.Loads).map fun w => w.kilos_).sum = x
 generalize momW f.Rear (wsF f g f.Loads) = y
 generalize momW f.Front (wsF f g f.Loads) = z
 by_cases h1 : x ≤ a
 ·rw [show decide (x ≤ a) = true from decide_eq_true h1,cond_true,Bool.true_and]
  by_cases h2 : -y ≤ b * (f.Rear - f.Front)
  ·rw [show decide (-y ≤ b * (f.Rear - f.Front)) = true from decide_eq_true h2,cond_true,Bool.true_and]
  ·rw [show decide (-y ≤ b * (f.Rear - f.Front)) = false from decide_eq_false h2,cond_false,Bool.false_and]
 ·rw [show decide (x ≤ a) = false from decide_eq_false h1,cond_false,Bool.false_and]
end
theorem srch (F : Int → Option Bool) (n : Int) (h0 : 0 ≤ n) (hn : n ≤ 1000000) (b : Int → Bool) (hF : ∀ k,0 ≤ k → k < n → F k = some (b k))
  (body : (Int → Int → Option Int) → Int → Int → Option Int)
  (hbody : ∀ rec i_8 j_9,body rec i_8 j_9 = (bif (decide (i_8 < j_9)) then (((some (Int.fdiv (IntKind.u64.wrap (IntKind.i64.wrap (i_8 + j_9))) ((2 : Int) ^ (min (Int.toNat 1) (IntKind.bits .u64))))).bind fun n_19 => ((F (IntKind.i64.wrap n_19)).bind fun r_20 => (bif (!r_20) then (rec (IntKind.i64.wrap ((IntKind.i64.wrap n_19) + 1)) j_9) else (rec i_8 (IntKind.i64.wrap n_19)))))) else some i_8))
  (N : Nat) (hN : n.toNat < N) : ∃ r,loop2 body N 0 n = some r ∧ 0 ≤ r ∧ r ≤ n ∧ ((∀ x y,0 ≤ x → x ≤ y → y < n → b x = true → b y = true) → ∀ k,0 ≤ k → k < n → (b k = true ↔ r ≤ k)):=by
 refine loop2_T (fun (o : Option Int) => ∃ r,o = some r ∧ 0 ≤ r ∧ r ≤ n ∧ ((∀ x y,0 ≤ x → x ≤ y → y < n → b x = true → b y = true) → ∀ k,0 ≤ k → k < n → (b k = true ↔ r ≤ k)))
  (fun i j => 0 ≤ i ∧ i ≤ j ∧ j ≤ n ∧ ((∀ x y,0 ≤ x → x ≤ y → y < n → b x = true → b y = true) → (∀ k,0 ≤ k → k < i → b k = false) ∧ ∀ k,j ≤ k → k < n → b k = true)) (fun i j => (j - i).toNat) ?_ N 0 n ⟨Int.le_refl _,h0,Int.le_refl _,fun _ => ⟨fun k a c => by omega,fun k a c => by omega⟩⟩ (by simpa using hN)
 rintro rec i j ⟨i0,ij,jn,hm⟩ ih
 rw [hbody]
 by_cases hlt : i < j
 ·have e2 : (2 : Int) ^ (min (Int.toNat 1) (IntKind.bits .u64)) = 2:=rfl
  rw [show decide (i < j) = true from decide_eq_true hlt,cond_true,Option.bind_some,w64 (x:=i + j) (by omega) (by omega),wu64_id (x:=i + j) (by omega) (by omega),e2,Int.fdiv_eq_ediv_of_nonneg _ (by omega),w64 (x:=(i + j) / 2) (by omega) (by omega),w64 (x:=(i + j) / 2 + 1) (by omega) (by omega),hF _ (by omega) (by omega),Option.bind_some]
  generalize hc : (i + j) / 2 = c
  have hc1 : i ≤ c ∧ c < j:=by omega
  cases hb : b c with
  | false =>
   rw [Bool.not_false,cond_true]
   refine ih _ _ ⟨by omega,by omega,jn,fun mono => ⟨fun k k0 k1 => ?_,(hm mono).2⟩⟩ (by omega)
   cases hk : b k with
   | false => rfl
   | true =>
    have:=mono k c k0 (by omega) (by omega) hk
    rw [hb] at this
    exact this.symm
  | true =>
   rw [Bool.not_true,cond_false]
   refine ih _ _ ⟨i0,by omega,by omega,fun mono => ⟨(hm mono).1,fun k k0 k1 => mono c k (by omega) k0 k1 hb⟩⟩ (by omega)
 ·rw [show decide (i < j) = false from decide_eq_false hlt,cond_false]
  refine ⟨i,rfl,i0,by omega,fun mono k k0 k1 => ⟨fun hk => ?_,fun hk => (hm mono).2 k (by omega) k1⟩⟩
  have q:=(hm mono).1 k k0
  by_cases hki : k < i
  ·rw [q hki] at hk
   exact absurd hk (by simp)
  ·omega
end Go.Proofs.Ythfpmjnmaifgaaa
end
section
namespace Go.Proofs.Ythfpmjnmaifgaaa
open Go.RowKit

theorem search1_p (N : Nat) (hN : 22000 < N) (t : T_truth) (a : Int) : ∃ r,p_sort_Search_t_passesBend_1 N 21000 t a = some r:=by
 obtain ⟨r,e,_⟩:=srch (fun m => p_t_passesBend_1 N m t a) 21000 (by omega) (by omega) _ (fun k _ _ => rfl) _ (fun rec i j => rfl) N (by omega)
 exact ⟨r,e⟩
theorem bend_p (N : Nat) (hN : 22000 < N) (t : T_truth) (a b : Int) : ∃ r,p_t_passesBend N t a b = some r:=by
 obtain ⟨r,e⟩:=search1_p N hN t a
 unfold p_t_passesBend
 rw [e]
 exact ⟨_,rfl⟩
theorem passes_any (N : Nat) (hN : 22000 < N) (f : T_Float) (hf : FlOk f) (g k : T_Load → Int) (hg : GOk g f) (t : T_truth) (ht : TrIs t f g k f.Loads.length) (h : T_Hurdle) (hh : HuOk h) : ∃ b,p_t_passes N t h = some b:=by
 unfold p_t_passes
 rcases hh with ⟨e,a,b,c⟩ | ⟨e,a,b,c⟩ | ⟨e,a,b,c,d⟩
 ·rw [e,show ((1 : Int) == 1) = true from rfl,cond_true]
  obtain ⟨r,hr⟩:=bend_p N hN t h.A h.B
  rw [hr]
  exact ⟨r,rfl⟩
 ·rw [e, show ((2 : Int) == 1) = false from rfl, cond_false, show ((2 : Int) == 2) = true from rfl, cond_true, height_p N (by omega) t f hf g k ht]
  exact ⟨_,rfl⟩
 ·rw [e, show ((3 : Int) == 1) = false from rfl, cond_false, show ((3 : Int) == 2) = false from rfl, cond_false, bridge_p N (by omega) t f hf g k hg ht h.A h.B c d]
  exact ⟨_,rfl⟩
theorem verdict_p (N : Nat) (a b : Bool) : ∃ v,p_verdict N a b = some v ∧ (v = 1 ↔ a = true):=by
 unfold p_verdict
 cases a <;> cases b <;> simp
end Go.Proofs.Ythfpmjnmaifgaaa
end
section
namespace Go.Proofs.Ythfpmjnmaifgaaa
open Go.RowKit

theorem verdicts_map (N : Nat) (hN : 22000 < N) (f : T_Float) (hf : FlOk f) : ∃ V : T_Hurdle → Int,∀ hs : List T_Hurdle,hs.length ≤ 40 → (∀ h ∈ hs,HuOk h) → p_verdicts N f hs = some (hs.map V):=by
 obtain ⟨z,ez,h0,h1⟩:=endsOf_p N f hf.n (by omega)
 have hv : ∀ h : T_Hurdle,∃ v : Int,HuOk h → ∃ a b,p_t_passes N z.a1 h = some a ∧ p_t_passes N z.a0 h = some b ∧ p_verdict N a b = some v:=by
  intro h
  by_cases hu : HuOk h
  ·obtain ⟨a,ea⟩:=passes_any N hN f hf _ _ (gHi f hf) z.a1 h1 h hu
   obtain ⟨b,eb⟩:=passes_any N hN f hf _ _ (gLo f hf) z.a0 h0 h hu
   obtain ⟨v,ev,_⟩:=verdict_p N a b
   exact ⟨v,fun _ => ⟨a,b,ea,eb,ev⟩⟩
  ·exact ⟨0,fun h => absurd h hu⟩
 obtain ⟨V,hV⟩:=Classical.axiomOfChoice hv
 refine ⟨V,fun hs hn hh => ?_⟩
 unfold p_verdicts
 rw [ez,Option.bind_some,letJ_eq]
 refine loop2_T (fun (r : Option (List Int)) => r = some (hs.map V)) (fun a i => ∃ j : Nat,i = (j : Int) ∧ j ≤ hs.length ∧ a = (hs.take j).map V) (fun a i => hs.length - i.toNat) ?_ N [] 0 ⟨0,rfl,by omega,rfl⟩ (by simp; omega)
 rintro rec a i ⟨j,rfl,hj,rfl⟩ ih
 by_cases hlt : j < hs.length
 ·have hx : hs[j]? = some hs[j]:=List.getElem?_eq_getElem hlt
  obtain ⟨e1,e2,e3,e4⟩:=lt_dec hx
  obtain ⟨x,y,ex,ey,ev⟩:=hV hs[j] (hh _ e3)
  simp only [e1,cond_true,e2,Option.bind_some,ex,ey,ev]
  rw [pushI_ok (by simp; omega),Option.bind_some,nat_add1 j (by omega)]
  refine ih _ _ ⟨j + 1,rfl,hlt,?_⟩ (by omega)
  rw [List.take_succ_eq_append_getElem hlt,List.map_append]
  rfl
 ·have : j = hs.length := by omega
  subst this
  rw [len_dec,cond_false,List.take_length]
theorem index_first (N : Nat) (vs : List Int) (hN : vs.length < N) (hn : vs.length ≤ 1000) : ∃ r,p_slices_IndexFunc_int_int_firstStop_1 N vs = some r ∧ -1 ≤ r ∧ r < (vs.length : Int) ∧ (∀ (i : Nat) v,(r < 0 ∨ (i : Int) < r) → vs[i]? = some v → v = 1) ∧ (0 ≤ r → ∃ v,vs[r.toNat]? = some v ∧ v ≠ 1):=by
 unfold p_slices_IndexFunc_int_int_firstStop_1
 rw [letJ_eq]
 refine loop1_T (fun (o : Option Int) => ∃ r,o = some r ∧ -1 ≤ r ∧ r < (vs.length : Int) ∧ (∀ (i : Nat) v,(r < 0 ∨ (i : Int) < r) → vs[i]? = some v → v = 1) ∧ (0 ≤ r → ∃ v,vs[r.toNat]? = some v ∧ v ≠ 1)) (fun i => ∃ j : Nat,i = (j : Int) ∧ j ≤ vs.length ∧ ∀ (k : Nat) v,k < j → vs[k]? = some v → v = 1) (fun i => vs.length - i.toNat) ?_ N 0 ⟨0,rfl,by omega,fun k v h => absurd h (Nat.not_lt_zero _)⟩ (by simpa using hN)
 rintro rec i ⟨j,rfl,hj,ha⟩ ih
 by_cases hlt : j < vs.length
 ·have hx : vs[j]? = some vs[j]:=List.getElem?_eq_getElem hlt
  obtain ⟨e1,e2,e3,e4⟩:=lt_dec hx
  rw [e1,cond_true,e2,Option.bind_some,show p_firstStop_1 N vs[j] = some (vs[j] != 1) from rfl,Option.bind_some]
  cases hc : (vs[j] == 1) with
  | true =>
   rw [show (vs[j] != 1) = false by simp [bne,hc],cond_false,nat_add1 j (by omega)]
   refine ih _ ⟨j + 1,rfl,hlt,fun k v hk hv => ?_⟩ (by omega)
   by_cases hkj : k = j
   ·subst hkj
    rw [hx] at hv
    rw [← Option.some.inj hv]
    simpa using hc
   ·exact ha k v (by omega) hv
  | false =>
   rw [show (vs[j] != 1) = true by simp [bne,hc],cond_true]
   refine ⟨(j : Int),rfl,by omega,by omega,fun k v hk hv => ha k v (by omega) hv,fun _ => ⟨vs[j],by rw [Int.toNat_natCast]; exact hx,by simpa using hc⟩⟩
 ·have : j = vs.length := by omega
  subst this
  rw [len_dec,cond_false]
  refine ⟨-1,rfl,Int.le_refl _,by omega,fun k v _ hv => ha k v (List.getElem?_eq_some_iff.1 hv).1 hv,fun h => by omega⟩
end Go.Proofs.Ythfpmjnmaifgaaa
end
section
namespace Go.Proofs.Ythfpmjnmaifgaaa
open Go.RowKit

theorem rwithin_p (N : Nat) (n lo hi : Int) : p_br2_within N n lo hi = some (decide (lo ≤ n) && decide (n ≤ hi)):=by
 unfold p_br2_within
 by_cases h : n ≥ lo
 ·have h' : lo ≤ n:=h
  simp [h,h']
 ·have h' : ¬ lo ≤ n:=h
  simp [h,h']
theorem rwithin_t (N : Nat) (n lo hi : Int) (h1 : lo ≤ n) (h2 : n ≤ hi) : p_br2_within N n lo hi = some true:=by
 rw [rwithin_p]; simp [h1,h2]
theorem rcheckSpan_t (N : Nat) (x : T_Span) (m : Int) (h1 : 0 ≤ x.Lo) (h2 : x.Lo ≤ x.Hi) (h3 : x.Hi ≤ m) : p_br2_checkSpan N x m = some 0:=by
 unfold p_br2_checkSpan
 rw [letJ_eq,rwithin_t N _ _ _ h1 (by omega),Option.bind_some]
 simp only [Bool.not_true,cond_false]
 rw [rwithin_t N _ _ _ (by omega) h3]
 simp [show ¬ x.Lo > x.Hi by omega]
theorem rcheckLoad_t (N : Nat) (f : T_Float) (l : T_Load) (h : LdOk f.Front f.Rear l) : p_br2_checkLoad N f l = some 0:=by
 obtain ⟨a1,a2,k1,k2,k3,t1,t2,t3,d1,d2,w1,w2,w3⟩:=h
 unfold p_br2_checkLoad
 rw [rwithin_t N _ _ _ a1 a2,Option.bind_some,rcheckSpan_t N _ _ k1 k2 k3,Option.bind_some,rcheckSpan_t N _ _ t1 t2 t3,Option.bind_some,rwithin_t N _ _ _ d1 d2,Option.bind_some,rwithin_t N _ _ _ w1 w2,Option.bind_some,letJ_eq]
 by_cases hw : l.Watts > 0
 ·rcases w3 with h0 | h0 | h0
  ·omega
  ·simp [hw,h0]
  ·simp [hw,h0]
 ·simp [hw]
theorem rCheck_t (N : Nat) (f : T_Float) (h : FlOk f) (hn : f.Loads.length ≤ 20) (hN : 30 < N) : p_br2_Check N f = some 0:=by
 unfold p_br2_Check
 simp only [letJ_eq,rwithin_t N _ _ _ h.l1 h.l2,rwithin_t N _ _ _ h.w1 h.w2,rwithin_t N _ _ _ h.f1 (show f.Front ≤ f.Length by have:=h.f2; have:=h.f3; omega),rwithin_t N _ _ _ (show 0 ≤ f.Rear by have:=h.f2; have:=h.f1; omega) h.f3,rwithin_t N _ _ _ h.t1 h.t2,rwithin_t N _ _ _ h.k1 h.k2,rwithin_t N _ _ _ h.m1 h.m2,rwithin_t N _ _ _ h.h1 h.h2,Option.bind_some,Bool.not_true,cond_false,show decide (f.Front ≥ f.Rear) = false from decide_eq_false (by have:=h.f2; omega),show decide (((f.Loads.length : Nat) : Int) > 20) = false from decide_eq_false (by omega)]
 refine for1 f.Loads _ (some 0) ?_ ?_ N 0 (by omega) (by omega)
 ·intro rec
  rw [len_dec,cond_false]
 ·intro rec i x hx
  obtain ⟨e1,e2,e3,e4⟩:=lt_dec hx
  rw [e1,cond_true,e2,Option.bind_some,rcheckLoad_t N f x (h.all x e3),Option.bind_some,nat_add1 i (by omega)]
  rfl

def los (f : T_Float) : List Int:=f.Loads.map fun l => l.Kilos.Lo
def his (f : T_Float) : List Int:=f.Loads.map fun l => l.Kilos.Hi
def tlos (f : T_Float) : List Int:=f.Loads.map fun l => l.Top.Lo
def this (f : T_Float) : List Int:=f.Loads.map fun l => l.Top.Hi
theorem truth_p (N : Nat) (f : T_Float) (hn : f.Loads.length ≤ 21) (hN : 30 < N) : p_br2_Least N f = some ⟨los f,tlos f⟩ ∧ p_br2_Greatest N f = some ⟨his f,this f⟩:=by
 have key : ∀ (g k : T_Load → Int) (body : (Int → List Int → List Int → Option T_br2_Truth) → Int → List Int → List Int → Option T_br2_Truth),
   (∀ rec i a b,body rec i a b = (bif (decide (i < ((f.Loads.length : Nat) : Int))) then ((getI f.Loads i).bind fun x_14 => ((pushI a ([g x_14] : List Int)).bind fun l_15 => ((getI f.Loads i).bind fun x_16 => ((pushI b ([k x_16] : List Int)).bind fun l_17 => (rec (IntKind.i64.wrap (i + 1)) l_15 l_17))))) else some (⟨a,b⟩ : T_br2_Truth))) →
   loop3 body N 0 [] [] = some ⟨f.Loads.map g,f.Loads.map k⟩:=by
  intro g k body hb
  refine loop3_T (fun (x : Option T_br2_Truth) => x = some (⟨f.Loads.map g,f.Loads.map k⟩ : T_br2_Truth)) (fun i a b => ∃ j : Nat,i = (j : Int) ∧ j ≤ f.Loads.length ∧ a = (f.Loads.take j).map g ∧ b = (f.Loads.take j).map k) (fun i a b => f.Loads.length - i.toNat) ?_ N 0 [] [] ⟨0,rfl,by omega,by simp,by simp⟩ (by simp; omega)
  rintro rec i a b ⟨j,rfl,hj,rfl,rfl⟩ ih
  rw [hb]
  by_cases hlt : j < f.Loads.length
  ·have hx : f.Loads[j]? = some f.Loads[j]:=List.getElem?_eq_getElem hlt
   obtain ⟨e1,e2,e3,e4⟩:=lt_dec hx
   rw [e1,cond_true,e2,Option.bind_some,pushI_ok (by simp; omega),Option.bind_some,Option.bind_some,pushI_ok (by simp; omega),Option.bind_some,nat_add1 j (by omega)]
   refine ih _ _ _ ⟨j + 1,rfl,by omega,?_,?_⟩ (by omega)
   ·rw [List.take_succ_eq_append_getElem hlt,List.map_append]; rfl
   ·rw [List.take_succ_eq_append_getElem hlt,List.map_append]; rfl
  ·have : j = f.Loads.length := by omega
   subst this
   rw [len_dec,cond_false,List.take_length]
 constructor
 ·unfold p_br2_Least
  rw [letJ_eq]
  exact key _ _ _ fun rec i a b => rfl
 ·unfold p_br2_Greatest
  rw [letJ_eq]
  exact key _ _ _ fun rec i a b => rfl
theorem weighs_p (N : Nat) (f : T_Float) (t : T_br2_Truth) (c : Int) (hc : c ≤ 100000) (hk0 : 0 ≤ f.Kilos) (hk1 : f.Kilos ≤ 100000) (hall : ∀ x ∈ t.Kilos,0 ≤ x ∧ x ≤ c) (hn : t.Kilos.length ≤ 30) (hN : 40 < N) : p_br2_Weighs N f t = some (f.Kilos + t.Kilos.sum):=by
 unfold p_br2_Weighs
 rw [letJ_eq]
 have h := for2 t.Kilos (fun rec_9 (sum_7 : Int) (i_8 : Int) => (bif (decide (i_8 < ((t.Kilos.length : Nat) : Int))) then ((getI t.Kilos i_8).bind fun x_13 => (rec_9 (IntKind.i64.wrap (sum_7 + x_13)) (IntKind.i64.wrap (i_8 + 1)))) else some sum_7)) (fun a x => a + x) some (fun i a => 0 ≤ a ∧ a ≤ 100000 + 100000 * (i : Int)) (fun rec a _ => by simp only [len_dec, cond_false]) (fun rec a i x hx ha => by
  obtain ⟨e1,e2,e3,e4⟩:=lt_dec hx
  have:=hall x e3
  simp only [e1,cond_true,e2,Option.bind_some]
  rw [nat_add1 i (by omega),w64 (x:=a + x) (by omega) (by omega)]
  exact ⟨rfl, by omega, by omega⟩) N 0 f.Kilos ⟨hk0, by omega⟩ (by omega) (by omega)
 have hs : ∀ (l : List Int) (a : Int),l.foldl (fun a x => a + x) a = a + l.sum:=by
  intro l
  induction l with
  | nil => intro a; simp
  | cons x l ih => intro a; rw [List.foldl_cons,ih,List.sum_cons]; omega
 rw [List.drop_zero,hs] at h
 exact h

theorem carries_p (N : Nat) (f : T_Float) (h : FlOk f) (g : T_Load → Int) (hg : ∀ l ∈ f.Loads,0 ≤ g l ∧ g l ≤ 100000) (ts : List Int) (hN : 40 < N) : p_br2_Carries N f ⟨f.Loads.map g,ts⟩ = some (f.Kilos * (f.Rear - f.Middle) + momR g f.Rear f.Loads,f.Kilos * (f.Middle - f.Front) + momL g f.Front f.Loads):=by
 have hn:=h.n
 have:=h.l2; have:=h.f1; have:=h.f2; have:=h.f3; have:=h.m1; have:=h.m2; have:=h.k1; have:=h.k2
 have q1:=mulS (A:=100000) (B:=3000) h.k1 h.k2 (show -3000 ≤ f.Rear - f.Middle by omega) (show f.Rear - f.Middle ≤ 3000 by omega)
 have q2:=mulS (A:=100000) (B:=3000) h.k1 h.k2 (show -3000 ≤ f.Middle - f.Front by omega) (show f.Middle - f.Front ≤ 3000 by omega)
 unfold p_br2_Carries
 rw [letJ_eq,w64 (x:=f.Rear - f.Middle) (by omega) (by omega),w64 (x:=f.Middle - f.Front) (by omega) (by omega),w64 (x:=f.Kilos * (f.Rear - f.Middle)) (by omega) (by omega),w64 (x:=f.Kilos * (f.Middle - f.Front)) (by omega) (by omega)]
 generalize f.Kilos * (f.Rear - f.Middle) = c1 at q1
 generalize f.Kilos * (f.Middle - f.Front) = c2 at q2
 have hb : ∀ (j : Nat),j ≤ f.Loads.length → (0 ≤ momR g f.Rear (f.Loads.take j) ∧ momR g f.Rear (f.Loads.take j) ≤ 300000000 * (j : Int)) ∧ (0 ≤ momL g f.Front (f.Loads.take j) ∧ momL g f.Front (f.Loads.take j) ≤ 300000000 * (j : Int)):=by
  intro j
  induction j with
  | zero => intro _; simp [momR,momL]
  | succ j ih =>
   intro hj
   have ih:=ih (by omega)
   have hlt : j < f.Loads.length:=by omega
   have hl:=List.getElem_mem hlt
   have hg':=hg _ hl
   have ho:=h.all _ hl
   have a1:=ho.a1; have a2:=ho.a2
   have m1:=mulB (A:=100000) (B:=3000) hg'.1 hg'.2 (show 0 ≤ f.Rear - (f.Loads[j]).At by omega) (by omega)
   have m2:=mulB (A:=100000) (B:=3000) hg'.1 hg'.2 (show 0 ≤ (f.Loads[j]).At - f.Front by omega) (by omega)
   rw [List.take_succ_eq_append_getElem hlt]
   simp only [momR,momL,List.map_append,List.sum_append,List.map_cons,List.map_nil,List.sum_cons,List.sum_nil] at ih ⊢
   omega
 refine loop3_T (fun (x : Option (Int × Int)) => x = some (c1 + momR g f.Rear f.Loads,c2 + momL g f.Front f.Loads)) (fun a b i => ∃ j : Nat,i = (j : Int) ∧ j ≤ f.Loads.length ∧ a = c1 + momR g f.Rear (f.Loads.take j) ∧ b = c2 + momL g f.Front (f.Loads.take j)) (fun a b i => f.Loads.length - i.toNat) ?_ N c1 c2 0 ⟨0,rfl,by omega,by simp [momR],by simp [momL]⟩ (by simp; omega)
 rintro rec a b i ⟨j,rfl,hj,rfl,rfl⟩ ih
 dsimp only
 rw [List.length_map]
 by_cases hlt : j < f.Loads.length
 ·have hx : f.Loads[j]? = some f.Loads[j]:=List.getElem?_eq_getElem hlt
  obtain ⟨e1,e2,e3,e4⟩:=lt_dec hx
  have e5 : getI (f.Loads.map g) (j : Int) = some (g f.Loads[j]):=by rw [getI_nat,List.getElem?_map,hx]; rfl
  have hg':=hg _ e3
  have ho:=h.all _ e3
  have a1:=ho.a1; have a2:=ho.a2
  have b1:=hb j hj
  have b2:=hb (j + 1) hlt
  have m1:=mulB (A:=100000) (B:=3000) hg'.1 hg'.2 (show 0 ≤ f.Rear - (f.Loads[j]).At by omega) (by omega)
  have m2:=mulB (A:=100000) (B:=3000) hg'.1 hg'.2 (show 0 ≤ (f.Loads[j]).At - f.Front by omega) (by omega)
  have s1 : momR g f.Rear (f.Loads.take (j + 1)) = momR g f.Rear (f.Loads.take j) + g f.Loads[j] * (f.Rear - (f.Loads[j]).At):=by
   rw [List.take_succ_eq_append_getElem hlt]
   simp only [momR,List.map_append,List.sum_append,List.map_cons,List.map_nil,List.sum_cons,List.sum_nil]
   omega
  have s2 : momL g f.Front (f.Loads.take (j + 1)) = momL g f.Front (f.Loads.take j) + g f.Loads[j] * ((f.Loads[j]).At - f.Front):=by
   rw [List.take_succ_eq_append_getElem hlt]
   simp only [momL,List.map_append,List.sum_append,List.map_cons,List.map_nil,List.sum_cons,List.sum_nil]
   omega
  rw [e1,cond_true,e2,Option.bind_some,e5,Option.bind_some,Option.bind_some,w64 (x:=f.Rear - (f.Loads[j]).At) (by omega) (by omega),w64 (x:=(f.Loads[j]).At - f.Front) (by omega) (by omega),w64 (x:=g f.Loads[j] * (f.Rear - (f.Loads[j]).At)) (by omega) (by omega),w64 (x:=g f.Loads[j] * ((f.Loads[j]).At - f.Front)) (by omega) (by omega),nat_add1 j (by omega),w64 (x:=c1 + momR g f.Rear (f.Loads.take j) + g f.Loads[j] * (f.Rear - (f.Loads[j]).At)) (by omega) (by omega),w64 (x:=c2 + momL g f.Front (f.Loads.take j) + g f.Loads[j] * ((f.Loads[j]).At - f.Front)) (by omega) (by omega)]
  exact ih _ _ _ ⟨j + 1,rfl,hlt,by rw [s1]; omega,by rw [s2]; omega⟩ (by omega)
 ·have : j = f.Loads.length := by omega
  subst this
  rw [len_dec,cond_false,List.take_length]
theorem down_p (N : Nat) (n d : Int) (hd : 0 < d) (h1 : -1000000000000 ≤ n) (h2 : n ≤ 1000000000000) : p_br2_Down N n d = some (n / d):=by
 have e:=Int.mul_tdiv_add_tmod n d
 have l1:=Int.tmod_lt_of_pos n hd
 have l2:=Int.lt_tmod_of_pos n hd
 have hq : -1000000000000 ≤ n.tdiv d ∧ n.tdiv d ≤ 1000000000000:=by
  have:=Int.natAbs_tdiv_le_natAbs n d
  omega
 have hnz : d ≠ 0:=by omega
 unfold p_br2_Down
 simp only [nzI,hnz,if_false,Option.bind_some]
 rw [w64 (x:=n.tdiv d) (by omega) (by omega)]
 by_cases hr : n.tmod d < 0
 ·rw [show decide (n.tmod d < 0) = true from decide_eq_true hr, cond_true, w64 (x := n.tdiv d - 1) (by omega) (by omega)]
  have:=(Int.ediv_emod_unique (a:=n) (r:=n.tmod d + d) (q:=n.tdiv d - 1) hd).2 ⟨by rw [Int.mul_sub,Int.mul_one]; omega,by omega,by omega⟩
  rw [this.1]
 ·rw [show decide (n.tmod d < 0) = false from decide_eq_false hr,cond_false]
  have:=(Int.ediv_emod_unique (a:=n) (r:=n.tmod d) (q:=n.tdiv d) hd).2 ⟨by omega,by omega,by omega⟩
  rw [this.1]
theorem up_p (N : Nat) (n d : Int) (hd : 0 < d) (h1 : -1000000000000 ≤ n) (h2 : n ≤ 1000000000000) : p_br2_Up N n d = some (-(-n / d)):=by
 have hq : -1000000000000 ≤ -n / d ∧ -n / d ≤ 1000000000000:=by
  have:=Int.natAbs_ediv_le_natAbs (-n) d
  omega
 unfold p_br2_Up
 rw [w64 (x:=0 - n) (by omega) (by omega),show (0 - n) = -n by omega,down_p N (-n) d hd (by omega) (by omega),Option.bind_some,w64 (x:=0 - -n / d) (by omega) (by omega)]
 congr 1
 omega
theorem tall_p (N : Nat) (f : T_Float) (t : T_br2_Truth) (hn : t.Tops.length ≤ 30) (hN : 40 < N) : p_br2_Tall N f t = some (talL t.Tops f.High):=by
 unfold p_br2_Tall
 rw [letJ_eq]
 have h := for2 t.Tops (fun rec_9 (n_7 : Int) (i_8 : Int) => (bif (decide (i_8 < ((t.Tops.length : Nat) : Int))) then ((getI t.Tops i_8).bind fun x_13 => (rec_9 (if x_13 > n_7 then x_13 else n_7) (IntKind.i64.wrap (i_8 + 1)))) else some n_7)) (fun n x => if x > n then x else n) some (fun i a => True) (fun rec a _ => by simp only [len_dec, cond_false]) (fun rec a i x hx _ => by
  obtain ⟨e1,e2,e3,e4⟩:=lt_dec hx
  simp only [e1,cond_true,e2,Option.bind_some]
  rw [nat_add1 i (by omega)]
  exact ⟨rfl, trivial⟩) N 0 f.High trivial (by omega) (by omega)
 rw [List.drop_zero] at h
 exact h
end Go.Proofs.Ythfpmjnmaifgaaa
end
section
namespace Go.Proofs.Ythfpmjnmaifgaaa
open Go.RowKit

theorem sumsB : ∀ (ls : List T_Load),(∀ l ∈ ls,0 ≤ l.Kilos.Lo ∧ l.Kilos.Lo ≤ l.Kilos.Hi ∧ l.Kilos.Hi ≤ 900) → 0 ≤ (ls.map fun l => l.Kilos.Lo).sum ∧ (ls.map fun l => l.Kilos.Lo).sum ≤ (ls.map fun l => l.Kilos.Hi).sum ∧ (ls.map fun l => l.Kilos.Hi).sum ≤ 900 * (ls.length : Int)
 | [],_ => by simp
 | l :: ls,h => by
  have a:=h l (by simp)
  have b:=sumsB ls fun x hx => h x (by simp [hx])
  simp only [List.map_cons,List.sum_cons,List.length_cons]
  omega
theorem momLB (g : T_Load → Int) (p d : Int) : ∀ (ls : List T_Load),(∀ l ∈ ls,0 ≤ g l ∧ g l ≤ 900 ∧ 0 ≤ l.At - p ∧ l.At - p ≤ d) → 0 ≤ momL g p ls ∧ momL g p ls ≤ 900 * d * (ls.length : Int)
 | [],_ => by simp [momL]
 | l :: ls,h => by
  obtain ⟨a,b,c,e⟩:=h l (by simp)
  have i:=momLB g p d ls fun x hx => h x (by simp [hx])
  have m:=mulB a b c e
  simp only [momL,List.map_cons,List.sum_cons,List.length_cons] at i ⊢
  rw [show ((ls.length + 1 : Nat) : Int) = (ls.length : Int) + 1 from rfl,Int.mul_add,Int.mul_one]
  omega
theorem momRB (g : T_Load → Int) (p d : Int) : ∀ (ls : List T_Load),(∀ l ∈ ls,0 ≤ g l ∧ g l ≤ 900 ∧ 0 ≤ p - l.At ∧ p - l.At ≤ d) → 0 ≤ momR g p ls ∧ momR g p ls ≤ 900 * d * (ls.length : Int)
 | [],_ => by simp [momR]
 | l :: ls,h => by
  obtain ⟨a,b,c,e⟩:=h l (by simp)
  have i:=momRB g p d ls fun x hx => h x (by simp [hx])
  have m:=mulB a b c e
  simp only [momR,List.map_cons,List.sum_cons,List.length_cons] at i ⊢
  rw [show ((ls.length + 1 : Nat) : Int) = (ls.length : Int) + 1 from rfl,Int.mul_add,Int.mul_one]
  omega
theorem momL_le (g k : T_Load → Int) (p : Int) : ∀ (ls : List T_Load),(∀ l ∈ ls,g l ≤ k l ∧ 0 ≤ l.At - p) → momL g p ls ≤ momL k p ls
 | [],_ => Int.le_refl _
 | l :: ls,h => by
  obtain ⟨a,b⟩:=h l (by simp)
  have i:=momL_le g k p ls fun x hx => h x (by simp [hx])
  have m:=Int.mul_le_mul_of_nonneg_right a b
  simp only [momL,List.map_cons,List.sum_cons] at i ⊢
  omega
theorem du {a b d : Int} (hd : 0 < d) (h : a ≤ b) : a / d ≤ -(-b / d):=by
 have h1:=Int.ediv_mul_le a (show d ≠ 0 by omega)
 have h2:=Int.ediv_mul_le (-b) (show d ≠ 0 by omega)
 have q : a / d * d ≤ -(-b / d) * d:=by
  rw [Int.neg_mul]
  omega
 exact Int.le_of_mul_le_mul_right q hd
section
variable (N : Nat) (hN : 50 < N) (f : T_Float) (h : FlMade f 5)
include hN h
theorem total_r : ∃ x,p_br2_Total N f = some (x,0) ∧ 0 ≤ x.Lo ∧ x.Lo ≤ x.Hi ∧ x.Hi ≤ 9500:=by
 have hk:=h.k; have hk0:=h.ok.k1; have hk1:=h.ok.k2; have hn:=h.n
 have hs:=sumsB f.Loads fun l hl => ⟨(h.ok.all l hl).k1,(h.ok.all l hl).k2,h.a l hl⟩
 obtain ⟨e1,e2⟩:=truth_p N f h.ok.n (by omega)
 refine ⟨⟨f.Kilos + (los f).sum,f.Kilos + (his f).sum⟩,?_,?_,?_,?_⟩
 ·unfold p_br2_Total
  rw [rCheck_t N f h.ok (by have := h.n; omega) (by omega), Option.bind_some, bne_self_eq_false, cond_false, e1, Option.bind_some, weighs_p N f _ 100000 (Int.le_refl _) hk0 hk1 (fun x hx => by
   obtain ⟨l,hl,rfl⟩:=List.mem_map.1 hx
   have a:=h.ok.all l hl
   exact ⟨a.k1,Int.le_trans a.k2 a.k3⟩) (by simp [los]; omega) (by omega),Option.bind_some,e2,Option.bind_some,weighs_p N f _ 100000 (Int.le_refl _) hk0 hk1 (fun x hx => by
   obtain ⟨l,hl,rfl⟩:=List.mem_map.1 hx
   have a:=h.ok.all l hl
   exact ⟨Int.le_trans a.k1 a.k2, a.k3⟩) (by simp [his]; omega) (by omega), Option.bind_some]
 ·show 0 ≤ f.Kilos + (los f).sum
  unfold los; omega
 ·show f.Kilos + (los f).sum ≤ f.Kilos + (his f).sum
  unfold los his; omega
 ·show f.Kilos + (his f).sum ≤ 9500
  unfold his; omega
theorem height_r : ∃ x,p_br2_Height N f = some (x,0) ∧ 0 ≤ x.Lo ∧ x.Lo ≤ x.Hi ∧ x.Hi ≤ 2000:=by
 have hn:=h.n
 obtain ⟨e1,e2⟩:=truth_p N f h.ok.n (by omega)
 have b1:=talL_le (tlos f) f.High 2000 h.ok.h2 fun x hx => by
  obtain ⟨l,hl,rfl⟩:=List.mem_map.1 hx
  have a:=h.ok.all l hl
  exact Int.le_trans a.t2 a.t3
 have b2:=talL_le (this f) f.High 2000 h.ok.h2 fun x hx => by
  obtain ⟨l,hl,rfl⟩:=List.mem_map.1 hx
  exact (h.ok.all l hl).t3
 have h0:=h.ok.h1
 refine ⟨⟨talL (tlos f) f.High,talL (this f) f.High⟩,?_,?_,talL_mono f.Loads _ _ (Int.le_refl _) fun l hl => (h.ok.all l hl).t2,b2.2⟩
 ·unfold p_br2_Height
  rw [rCheck_t N f h.ok (by have:=h.n; omega) (by omega),Option.bind_some,bne_self_eq_false,cond_false,e1,Option.bind_some,tall_p N f _ (by simp [tlos]; omega) (by omega),Option.bind_some,e2,Option.bind_some,tall_p N f _ (by simp [this]; omega) (by omega),Option.bind_some]
 ·show 0 ≤ talL (tlos f) f.High
  omega
theorem axles_r : ∃ x y,p_br2_Axles N f = some (x,y,0) ∧ -6000000 ≤ y.Lo ∧ y.Lo ≤ y.Hi ∧ y.Hi ≤ 6004500:=by
 have hn:=h.n
 have hk:=h.k; have hk0:=h.ok.k1; have hl:=h.l; have:=h.ok.f1; have:=h.ok.f2; have:=h.ok.f3; have:=h.ok.m1; have:=h.ok.m2
 obtain ⟨e1,e2⟩:=truth_p N f h.ok.n (by omega)
 have gl : ∀ l ∈ f.Loads,0 ≤ l.Kilos.Lo ∧ l.Kilos.Lo ≤ 900 ∧ 0 ≤ l.Kilos.Hi ∧ l.Kilos.Hi ≤ 900 ∧ l.Kilos.Lo ≤ l.Kilos.Hi ∧ 0 ≤ l.At - f.Front ∧ l.At - f.Front ≤ f.Rear - f.Front ∧ 0 ≤ f.Rear - l.At ∧ f.Rear - l.At ≤ f.Rear - f.Front:=fun l hl => by
  have a:=h.ok.all l hl
  have:=a.k1; have:=a.k2; have:=h.a l hl; have:=a.a1; have:=a.a2
  omega
 have c1:=carries_p N f h.ok (fun l => l.Kilos.Lo) (fun l hl => by have:=gl l hl; show 0 ≤ l.Kilos.Lo ∧ l.Kilos.Lo ≤ 100000; omega) (tlos f) (by omega)
 have c2:=carries_p N f h.ok (fun l => l.Kilos.Hi) (fun l hl => by have:=gl l hl; show 0 ≤ l.Kilos.Hi ∧ l.Kilos.Hi ≤ 100000; omega) (Go.Proofs.Ythfpmjnmaifgaaa.this f) (by omega)
 have q1:=mulS (A:=5000) (B:=1200) hk0 hk (show -1200 ≤ f.Rear - f.Middle by omega) (show f.Rear - f.Middle ≤ 1200 by omega)
 have q2:=mulS (A:=5000) (B:=1200) hk0 hk (show -1200 ≤ f.Middle - f.Front by omega) (show f.Middle - f.Front ≤ 1200 by omega)
 have r1:=momRB (fun l => l.Kilos.Lo) f.Rear (f.Rear - f.Front) f.Loads fun l hl => by have:=gl l hl; show 0 ≤ l.Kilos.Lo ∧ l.Kilos.Lo ≤ 900 ∧ _; omega
 have r2:=momRB (fun l => l.Kilos.Hi) f.Rear (f.Rear - f.Front) f.Loads fun l hl => by have:=gl l hl; show 0 ≤ l.Kilos.Hi ∧ l.Kilos.Hi ≤ 900 ∧ _; omega
 have l1:=momLB (fun l => l.Kilos.Lo) f.Front (f.Rear - f.Front) f.Loads fun l hl => by have:=gl l hl; show 0 ≤ l.Kilos.Lo ∧ l.Kilos.Lo ≤ 900 ∧ _; omega
 have l2:=momLB (fun l => l.Kilos.Hi) f.Front (f.Rear - f.Front) f.Loads fun l hl => by have:=gl l hl; show 0 ≤ l.Kilos.Hi ∧ l.Kilos.Hi ≤ 900 ∧ _; omega
 have ll:=momL_le (fun l => l.Kilos.Lo) (fun l => l.Kilos.Hi) f.Front f.Loads fun l hl => by have:=gl l hl; show l.Kilos.Lo ≤ l.Kilos.Hi ∧ _; omega
 have md : 900 * (f.Rear - f.Front) * (f.Loads.length : Int) ≤ 4500 * (f.Rear - f.Front):=by
  have:=Int.mul_le_mul_of_nonneg_left hn (show 0 ≤ 900 * (f.Rear - f.Front) by omega)
  omega
 have hw : IntKind.i64.wrap (f.Rear - f.Front) = f.Rear - f.Front:=w64 (by omega) (by omega)
 have hd : 0 < f.Rear - f.Front:=by omega
 unfold p_br2_Axles
 rw [rCheck_t N f h.ok (by have:=h.n; omega) (by omega),Option.bind_some,bne_self_eq_false,cond_false,e1,Option.bind_some,show los f = f.Loads.map (fun l => l.Kilos.Lo) from rfl,c1,Option.bind_some,e2,Option.bind_some,show his f = f.Loads.map (fun l => l.Kilos.Hi) from rfl,c2,Option.bind_some,hw]
 dsimp only
 generalize f.Kilos * (f.Rear - f.Middle) = k1 at q1
 generalize f.Kilos * (f.Middle - f.Front) = k2 at q2
 generalize momR (fun l => l.Kilos.Lo) f.Rear f.Loads = a1 at r1
 generalize momR (fun l => l.Kilos.Hi) f.Rear f.Loads = a2 at r2
 generalize momL (fun l => l.Kilos.Lo) f.Front f.Loads = b1 at l1 ll
 generalize momL (fun l => l.Kilos.Hi) f.Front f.Loads = b2 at l2 ll
 generalize hD : f.Rear - f.Front = d at *
 rw [down_p N _ d hd (by omega) (by omega),Option.bind_some,up_p N _ d hd (by omega) (by omega),Option.bind_some,down_p N _ d hd (by omega) (by omega),Option.bind_some,up_p N _ d hd (by omega) (by omega),Option.bind_some]
 refine ⟨_,_,rfl,?_,du hd (by omega),?_⟩
 ·show -6000000 ≤ (k2 + b1) / d
  exact Int.le_ediv_of_mul_le hd (by omega)
 ·show -(-(k2 + b2) / d) ≤ 6004500
  have : -6004500 ≤ -(k2 + b2) / d:=Int.le_ediv_of_mul_le hd (by omega)
  omega
end
theorem any4 {r : Int} {a b c d : Int} (h : r ∈ [a,b,c,d]) : r = a ∨ r = b ∨ r = c ∨ r = d:=by simpa using h
theorem routeOf_p (N : Nat) (hN : 50 < N) (d : T_bk_Drum) (f : T_Float) (h : FlMade f 5) (n : Int) (n0 : 1 ≤ n) (n1 : n ≤ 30) : ∃ hs d',p_bk_RouteOf N d f n = some (hs,d') ∧ hs.length ≤ 40 ∧ ∀ x ∈ hs,HuOk x:=by
 obtain ⟨x4,e4,a4,b4,c4⟩:=total_r N hN f h
 obtain ⟨x5,y5,e5,a5,b5,c5⟩:=axles_r N hN f h
 obtain ⟨x6,e6,a6,b6,c6⟩:=height_r N hN f h
 unfold p_bk_RouteOf
 rw [e4,Option.bind_some,e5,Option.bind_some,e6,Option.bind_some,w64 (x:=n + 1) (by omega) (by omega)]
 obtain ⟨r7,d7,e,a7,c7,b7⟩:=roll_p N d (n + 1) (by omega)
 rw [e,Option.bind_some,letJ_eq]; clear e
 have b7:=b7 (by omega)
 refine loop3_T (fun (x : Option ((List T_Hurdle) × T_bk_Drum)) => ∃ hs d',x = some (hs,d') ∧ hs.length ≤ 40 ∧ ∀ x ∈ hs,HuOk x) (fun ls i b => 0 ≤ i ∧ (ls.length : Int) + i ≤ n ∧ ∀ l ∈ ls,HuOk l) (fun ls i b => i.toNat) ?_ N [] r7 _ ⟨a7,by simp; omega,by simp⟩ (by omega)
 rintro rec ls i b ⟨hi0,hi1,hall⟩ ih
 by_cases hc : i > 0
 ·rw [show decide (i > 0) = true from decide_eq_true hc,cond_true]
  obtain ⟨r20,d20,e,a20,b20,_⟩:=mid_p N ⟨b⟩ 1 3 (by omega) (by omega) (by omega) (by omega)
  rw [e,Option.bind_some]; clear e
  have b20:=b20 (by omega)
  have key : ∀ (b' x y : Int),HuOk ⟨r20,x,y⟩ → ∃ hs d',((pushI ls ([(⟨r20,x,y⟩ : T_Hurdle)] : List T_Hurdle)).bind fun l_42 => (rec l_42 (IntKind.i64.wrap (i - 1)) b')) = some (hs,d') ∧ hs.length ≤ 40 ∧ ∀ x ∈ hs,HuOk x:=by
   intro b' x y hu
   rw [pushI_ok (by simp; omega),Option.bind_some,w64 (x:=i - 1) (by omega) (by omega)]
   refine ih _ _ _ ⟨by omega,by simp; omega,?_⟩ (by omega)
   intro l hl
   rcases List.mem_append.1 hl with hl | hl
   ·exact hall l hl
   ·have : l = ⟨r20, x, y⟩ := by simpa using hl
    subst this
    exact hu
  rw [letJ_eq]
  dsimp only
  by_cases h1 : r20 = 1
  ·rw [show (r20 == 1) = true by simp [h1], cond_true]
   obtain ⟨r28,d28,e,a28,_,b28⟩:=roll_p N d20 2000 (by omega)
   rw [e,Option.bind_some]; clear e
   have b28:=b28 (by omega)
   obtain ⟨r29,d29,e,m29⟩:=any_p N d28 [0,r28] (by simp) (by simp)
   rw [e,Option.bind_some]; clear e
   have m29 : r29 = 0 ∨ r29 = r28:=by simpa using m29
   obtain ⟨r30,d30,e,m30⟩:=any_p N d29 [300,2500] (by simp) (by simp)
   rw [e,Option.bind_some]; clear e
   have m30 : r30 = 300 ∨ r30 = 2500:=by simpa using m30
   obtain ⟨r31,d31,e,a31,b31,_⟩:=mid_p N d30 1 r30 (by omega) (by omega) (by omega) (by omega)
   rw [e,Option.bind_some]; clear e
   have b31:=b31 (by omega)
   dsimp only
   rw [w64 (x:=r29 + r31) (by omega) (by omega)]
   exact key _ _ _ (.inl ⟨h1,by show 0 ≤ r29; omega,by show r29 < r29 + r31; omega,by show r29 + r31 ≤ 20000; omega⟩)
  ·rw [show (r20 == 1) = false by simp [h1], cond_false]
   by_cases h2 : r20 = 2
   ·rw [show (r20 == 2) = true by simp [h2], cond_true]
    obtain ⟨r34,d34,e,a34,b34⟩:=of_p N d20 x6 b6 (by omega) (by omega)
    rw [e,Option.bind_some]; clear e
    obtain ⟨r35,d35,e,m35⟩:=any_p N d34 [(-1),0,1,50] (by simp) (by simp)
    rw [e,Option.bind_some]; clear e
    have m35:=any4 m35
    dsimp only
    rw [w64 (x:=r34 + r35) (by omega) (by omega)]
    have hx : 0 ≤ (if (if r34 + r35 > 0 then r34 + r35 else 0) < 2000 then (if r34 + r35 > 0 then r34 + r35 else 0) else 2000) ∧ (if (if r34 + r35 > 0 then r34 + r35 else 0) < 2000 then (if r34 + r35 > 0 then r34 + r35 else 0) else 2000) ≤ 2000:=by
     split <;> (try split) <;> omega
    exact key _ _ _ (.inr (.inl ⟨h2,hx.1,hx.2,rfl⟩))
   ·rw [show (r20 == 2) = false by simp [h2], cond_false]
    obtain ⟨r36,d36,e,a36,b36⟩:=of_p N d20 x4 b4 (by omega) (by omega)
    rw [e,Option.bind_some]; clear e
    obtain ⟨r37,d37,e,m37⟩:=any_p N d36 [(-1),0,1,300] (by simp) (by simp)
    rw [e,Option.bind_some]; clear e
    have m37:=any4 m37
    obtain ⟨r38,d38,e,a38,b38⟩:=of_p N d37 y5 b5 (by omega) (by omega)
    rw [e,Option.bind_some]; clear e
    obtain ⟨r39,d39,e,m39⟩:=any_p N d38 [(-1),0,1] (by simp) (by simp)
    rw [e,Option.bind_some]; clear e
    have m39 : r39 = -1 ∨ r39 = 0 ∨ r39 = 1:=by simpa using m39
    dsimp only
    rw [w64 (x:=r38 + r39) (by omega) (by omega)]
    obtain ⟨r40,d40,e,m40⟩:=any_p N d39 [x4.Hi,r38 + r39] (by simp) (by simp)
    rw [e,Option.bind_some]; clear e
    have m40 : r40 = x4.Hi ∨ r40 = r38 + r39:=by simpa using m40
    dsimp only
    rw [w64 (x:=r36 + r37) (by omega) (by omega)]
    have hx : 0 ≤ (if r36 + r37 > 0 then r36 + r37 else 0) ∧ (if r36 + r37 > 0 then r36 + r37 else 0) ≤ 10000000:=by split <;> omega
    have hy : 0 ≤ (if r40 > 0 then r40 else 0) ∧ (if r40 > 0 then r40 else 0) ≤ 10000000:=by split <;> omega
    exact key _ _ _ (.inr (.inr ⟨by show r20 = 3; omega,hx.1,hx.2,hy.1,hy.2⟩))
 ·rw [show decide (i > 0) = false from decide_eq_false hc,cond_false]
  exact ⟨_,_,rfl,by omega,hall⟩
end Go.Proofs.Ythfpmjnmaifgaaa
end
section
namespace Go.Proofs.Ythfpmjnmaifgaaa
open Go.RowKit

theorem letJ_gn {κ ρ : Type} {T : Option ρ → Prop} (K : κ) (f : κ → Option ρ) (h : ∀ k,k = K → T (f k)) : T (letJ K f):=h K rfl
theorem idxI_in {i : Int} {m : Nat} (h0 : 0 ≤ i) (h1 : i < (m : Int)) : idxI i m = some ():=if_pos ⟨h0,h1⟩
theorem swap_perm {l : List Int} {i k : Nat} {x y : Int} (hi : l[i]? = some x) (hk : l[k]? = some y) : ((l.set i y).set k x).Perm l:=by
 have hil:=(List.getElem?_eq_some_iff.1 hi).1
 have hkl:=(List.getElem?_eq_some_iff.1 hk).1
 rw [List.perm_iff_count]
 intro a
 have c1:=List.count_set (l:=l) (i:=i) (a:=y) (b:=a) hil
 have c2:=List.count_set (l:=l.set i y) (i:=k) (a:=x) (b:=a) (by simpa using hkl)
 have e1 : l[i] = x:=(List.getElem?_eq_some_iff.1 hi).2
 have e2 : l[k] = y:=(List.getElem?_eq_some_iff.1 hk).2
 have e3 : (l.set i y)[k]'(by simpa using hkl) = y := by
  rw [List.getElem_set]
  split
  ·rfl
  ·exact e2
 rw [e3] at c2
 rw [c2,c1,e1]
 have hx : 0 < List.count x l:=List.count_pos_iff.2 (List.mem_of_getElem? hi)
 by_cases hxa : x = a
 ·subst hxa
  by_cases hya : y = x
  ·subst hya; simp; omega
  ·simp [hya]; omega
 ·by_cases hya : y = a
  ·subst hya; simp [hxa]
  ·simp [hxa,hya]
theorem order_p (N : Nat) (d : T_bk_Drum) (n : Int) (hn0 : 0 ≤ n) (hn : n ≤ 60000) (hN : 60000 < N) : ∃ l d',p_bk_Drum_Order N d n = some (l,d') ∧ l.Perm ((List.range n.toNat).map fun (i : Nat) => (i : Int)):=by
 unfold p_bk_Drum_Order
 rw [letJ_eq]
 refine loop3_T (fun (r : Option (List Int × T_bk_Drum)) => ∃ l d',r = some (l,d') ∧ l.Perm ((List.range n.toNat).map fun (i : Nat) => (i : Int))) (fun i b w => ∃ j : Nat,i = (j : Int) ∧ (j : Int) ≤ n ∧ w.Perm ((List.range j).map fun (i : Nat) => (i : Int))) (fun i b w => n.toNat - i.toNat) ?_ N 0 d.beat_ [] ⟨0,rfl,by simpa using hn0,by simp⟩ (by simp; omega)
 rintro rec i b w ⟨j,rfl,hj,hw⟩ ih
 have hwl : w.length = j:=by rw [hw.length_eq]; simp
 by_cases hlt : (j : Int) < n
 ·rw [show decide ((j : Int) < n) = true from decide_eq_true hlt, cond_true, w64 (x := (j : Int) + 1) (by omega) (by omega)]
  obtain ⟨r,d',e,r0,r1,r2⟩:=roll_p N ⟨b⟩ ((j : Int) + 1) (by omega)
  rw [e,Option.bind_some]; clear e
  dsimp only
  have hr : r < (j : Int) + 1:=by
   rcases Nat.eq_zero_or_pos j with h | h
   ·subst h; have:=r1 (by omega); omega
   ·exact r2 (by omega)
  rw [pushI_ok (by simp; omega),Option.bind_some]
  have hl : (w ++ [(j : Int)]).length = j + 1:=by simp [hwl]
  rw [idxI_in r0 (by rw [hl]; omega),Option.bind_some]
  have hrl : r.toNat < (w ++ [(j : Int)]).length:=by rw [hl]; omega
  have hjl : j < (w ++ [(j : Int)]).length:=by rw [hl]; omega
  have hx:=List.getElem?_eq_getElem hrl
  have hy:=List.getElem?_eq_getElem hjl
  generalize (w ++ [(j : Int)])[r.toNat] = x at hx
  generalize (w ++ [(j : Int)])[j] = y at hy
  rw [hx,Option.bind_some,idxI_in (by omega) (by rw [hl]; omega),Option.bind_some,show ((j : Int)).toNat = j from Int.toNat_natCast j,hy,Option.bind_some]
  have hs1 : setI (w ++ [(j : Int)]) (j : Int) (fun _ => x) = some ((w ++ [(j : Int)]).set j x):=by
   unfold setI
   rw [show ((j : Int)).toNat = j from Int.toNat_natCast j,hy]; rfl
  obtain ⟨z,hz⟩ : ∃ z,((w ++ [(j : Int)]).set j x)[r.toNat]? = some z:=⟨_,List.getElem?_eq_getElem (by simpa using hrl)⟩
  have hs2 : setI ((w ++ [(j : Int)]).set j x) r (fun _ => y) = some (((w ++ [(j : Int)]).set j x).set r.toNat y):=by
   unfold setI
   rw [hz]; rfl
  simp only [Option.bind_some,hs1,hs2]
  refine ih _ _ _ ⟨j + 1,rfl,by omega,?_⟩ (by omega)
  refine (swap_perm hy hx).trans ?_
  rw [List.range_succ,List.map_append]
  exact List.Perm.append_right _ hw
 ·have : n.toNat = j := by omega
  rw [show decide ((j : Int) < n) = false from decide_eq_false hlt,cond_false]
  dsimp only
  rw [show lenI w w.length = some () from if_pos rfl,Option.bind_some]
  exact ⟨w,⟨b⟩,rfl,by rw [this]; exact hw⟩
theorem order_in {l : List Int} {n : Nat} (h : l.Perm ((List.range n).map fun (i : Nat) => (i : Int))) : l.length = n ∧ ∀ x ∈ l,0 ≤ x ∧ x < (n : Int):=by
 refine ⟨by rw [h.length_eq]; simp,fun x hx => ?_⟩
 have:=h.mem_iff.1 hx
 simp only [List.mem_map,List.mem_range] at this
 obtain ⟨a,h1,rfl⟩:=this
 omega
end Go.Proofs.Ythfpmjnmaifgaaa
end
section
namespace Go.Proofs.Ythfpmjnmaifgaaa
open Go.RowKit

theorem routes_p (N : Nat) (nums : List Int) (hA : p_bl2_awake N = some true) (hN : nums.length + 200000 ≤ N) (hnum : nums.length < 9223372036854775808) : p_bl2_FloatRoutes N nums = some true:=by
 unfold p_bl2_FloatRoutes
 obtain ⟨d2,e⟩:=drumOf_p N nums (by omega) (by omega)
 rw [e,Option.bind_some]; clear e
 obtain ⟨f,d3,e,hf⟩:=floatOf_p N d2 5 (by omega) (by omega) (by omega)
 rw [e,Option.bind_some]; clear e
 obtain ⟨hs,d4,e,hlen,hall⟩:=routeOf_p N (by omega) d3 f hf 6 (by omega) (by omega)
 dsimp only
 rw [e,Option.bind_some]; clear e
 dsimp only
 obtain ⟨ord,d5,e,hperm⟩:=order_p N d4 ((hs.length : Nat) : Int) (by omega) (by omega) (by omega)
 rw [Int.toNat_natCast] at hperm
 rw [e,Option.bind_some]; clear e
 dsimp only
 obtain ⟨hol,hoin⟩:=order_in hperm
 have hfl : f.Loads.length ≤ 20:=by have:=hf.n; omega
 obtain ⟨V,hV⟩:=verdicts_map N (by omega) f hf.ok
 have hpass : ∀ l : List T_Hurdle,l.length ≤ 40 → (∀ h ∈ l,HuOk h) → p_Passes N f l = some (l.map V,0) ∧ ∃ r,p_Stops N f l = some (r,0) ∧ -1 ≤ r ∧ r < (l.length : Int) ∧ (∀ (i : Nat) v,(r < 0 ∨ (i : Int) < r) → (l.map V)[i]? = some v → v = 1) ∧ (0 ≤ r → ∃ v,(l.map V)[r.toNat]? = some v ∧ v ≠ 1):=by
  intro l hl hh
  have hc:=pcheckBoth_t N f hf.ok hfl l hl hh (by omega)
  have hv:=hV l hl hh
  obtain ⟨r,e1,e2,e3,e4,e5⟩:=index_first N (l.map V) (by simp; omega) (by simp; omega)
  refine ⟨?_,r,?_,e2,by simpa using e3,e4,e5⟩
  ·unfold p_Passes
   rw [hc,Option.bind_some,show ((0 : Int) != 0) = false from rfl,cond_false,hv]; rfl
  ·unfold p_Stops p_firstStop
   rw [hc,Option.bind_some,show ((0 : Int) != 0) = false from rfl,cond_false,hv,Option.bind_some,e1]; rfl
 -- the other route
 have hg : ∀ o ∈ ord,∃ h,getI hs o = some h ∧ h ∈ hs:=fun o ho => by
  obtain ⟨h1,h2⟩:=hoin o ho
  obtain ⟨x,g1,_,g2⟩:=getI_lt h1 h2
  exact ⟨x,g1,g2⟩
 obtain ⟨P,hP⟩ : ∃ P : Int → T_Hurdle,∀ o ∈ ord,getI hs o = some (P o) ∧ P o ∈ hs:=by
  obtain ⟨P, hP⟩ := Classical.axiomOfChoice (r := fun o h => o ∈ ord → getI hs o = some h ∧ h ∈ hs) (fun o => by
   by_cases ho : o ∈ ord
   ·obtain ⟨h,h1,h2⟩:=hg o ho
    exact ⟨h,fun _ => ⟨h1,h2⟩⟩
   ·exact ⟨⟨0, 0, 0⟩, fun h => absurd h ho⟩)
  exact ⟨P,hP⟩
 obtain ⟨eP,r,eS,r1,r2,r3,r4⟩:=hpass hs hlen hall
 obtain ⟨eQ, _⟩ := hpass (ord.map P) (by simp; omega) (fun h hh => by
  obtain ⟨o,ho,rfl⟩:=List.mem_map.1 hh
  exact hall _ (hP o ho).2)
 refine letJ_gn (T:=fun x => x = some true) _ _ fun k7 hk7 => ?_
 have hend : k7 (ord.map P) = some true:=by
  rw [hk7]
  dsimp only
  rw [eP,Option.bind_some,eQ,Option.bind_some,eS,Option.bind_some]
  dsimp only
  refine letJ_gn (T:=fun x => x = some true) _ _ fun k23 hk23 => ?_
  have h23 : k23 false = some true:=by
   rw [hk23]
   dsimp only
   rw [cond_false]
   refine letJ_gn (T:=fun x => x = some true) _ _ fun k33 hk33 => ?_
   have h33 : k33 () = some true:=by
    rw [hk33]
    dsimp only
    by_cases hr : r < 0
    ·rw [show decide (r < 0) = true from decide_eq_true hr,cond_true,hA]; rfl
    ·rw [show decide (r < 0) = false from decide_eq_false hr,cond_false]
     obtain ⟨v,g1,g2⟩:=r4 (by omega)
     rw [show getI (hs.map V) r = some v by rw [← g1]; unfold getI; rw [if_pos (by omega)],Option.bind_some,show (v != 1) = true by simpa [bne] using g2,cond_true,hA]; rfl
   clear hk33
   refine loop1_T (fun x => x = some true) (fun i => ∃ j : Nat,i = (j : Int) ∧ j ≤ ord.length) (fun i => ord.length - i.toNat) ?_ N 0 ⟨0,rfl,by omega⟩ (by simp; omega)
   rintro rec i ⟨j,rfl,hj⟩ ih
   by_cases hlt : j < ord.length
   ·rw [show decide ((j : Int) < ((ord.length : Nat) : Int)) = true from decide_eq_true (by omega), cond_true]
    refine letJ_gn (T:=fun x => x = some true) _ _ fun k42 hk42 => ?_
    have h42 : k42 false = some true:=by
     rw [hk42]
     dsimp only
     rw [cond_false,w64 (by omega) (by omega)]
     exact ih _ ⟨j + 1,rfl,by omega⟩ (by omega)
    clear hk42
    have ho:=List.getElem?_eq_getElem hlt
    have hmem:=List.getElem_mem hlt
    generalize ord[j] = o at ho hmem
    obtain ⟨p1,p2⟩:=hP o hmem
    have p3 : hs[o.toNat]? = some (P o):=by
     have:=(hoin o hmem).1
     unfold getI at p1
     rw [if_pos this] at p1
     exact p1
    have q1 : getI ((ord.map P).map V) (j : Int) = some (V (P o)):=by rw [getI_nat]; simp [ho]
    have q2 : getI (hs.map V) o = some (V (P o)):=by
     unfold getI
     rw [if_pos (hoin o hmem).1,List.getElem?_map,p3]; rfl
    have hjs : j < hs.length:=by omega
    have q3 : getI (hs.map V) (j : Int) = some (V hs[j]):=by rw [getI_nat,List.getElem?_map,List.getElem?_eq_getElem hjs]; rfl
    have q4 : (hs.map V)[j]? = some (V hs[j]):=by rw [List.getElem?_map,List.getElem?_eq_getElem hjs]; rfl
    rw [q1,Option.bind_some,getI_nat,ho,Option.bind_some,q2,Option.bind_some,show (V (P o) != V (P o)) = false by simp [bne],cond_false]
    by_cases hr : r < 0
    ·rw [show decide (r < 0) = true from decide_eq_true hr,cond_true,q3,Option.bind_some,r3 j _ (.inl hr) q4]
     exact h42
    ·rw [show decide (r < 0) = false from decide_eq_false hr,cond_false]
     by_cases hjr : (j : Int) < r
     ·rw [show decide ((j : Int) < r) = true from decide_eq_true hjr,cond_true,q3,Option.bind_some,r3 j _ (.inr hjr) q4]
      exact h42
     ·rw [show decide ((j : Int) < r) = false from decide_eq_false hjr,cond_false]
      exact h42
   ·rw [show decide ((j : Int) < ((ord.length : Nat) : Int)) = false from decide_eq_false (by omega), cond_false]
    exact h33
  clear hk23
  rw [show ((0 : Int) != 0) = false from rfl]
  simp only [cond_false,List.length_map,hol]
  rw [show (((hs.length : Nat) : Int) != ((hs.length : Nat) : Int)) = false by simp [bne],cond_false,show decide (r < -1) = false from decide_eq_false (by omega),cond_false,show decide (r ≥ ((hs.length : Nat) : Int)) = false from decide_eq_false (by omega)]
  exact h23
 clear hk7
 refine loop2_T (fun x => x = some true) (fun w i => ∃ j : Nat,i = (j : Int) ∧ j ≤ ord.length ∧ w = (ord.take j).map P) (fun w i => ord.length - i.toNat) ?_ N [] 0 ⟨0,rfl,by omega,rfl⟩ (by simp; omega)
 rintro rec w i ⟨j,rfl,hj,rfl⟩ ih
 by_cases hlt : j < ord.length
 ·rw [show decide ((j : Int) < ((ord.length : Nat) : Int)) = true from decide_eq_true (by omega), cond_true]
  have ho:=List.getElem?_eq_getElem hlt
  have hmem:=List.getElem_mem hlt
  rw [getI_nat,ho,Option.bind_some,(hP _ hmem).1,Option.bind_some,pushI_ok (by simp; omega),Option.bind_some,w64 (by omega) (by omega)]
  refine ih _ _ ⟨j + 1,rfl,by omega,?_⟩ (by omega)
  rw [List.take_succ_eq_append_getElem hlt,List.map_append]
  rfl
 ·have : j = ord.length := by omega
  subst this
  rw [show decide (((ord.length : Nat) : Int) < ((ord.length : Nat) : Int)) = false from decide_eq_false (by omega),cond_false,List.take_length]
  exact hend

theorem routes_awake : p_bl2_awake 18446744073709551616 = some true:=by kernel_rfl
theorem routes_m (zs : List Int) (h : zs.length < 9223372036854775808) : Does Try.prog 3 [.sl (zs.map (AV.int .i64)) none] [] fun v _ => v = .bool true :=
 (d_bl2_FloatRoutes 18446744073709551616 zs true (routes_p _ zs routes_awake (by omega) h)).mono fun v c hv => hv.1
end Go.Proofs.Ythfpmjnmaifgaaa
end
section
namespace Go.Proofs.Ythfpmjnmaifgaaa
open Go.RowKit Go.ChangeShapes Go.WideShapes Go.ChangeAt

def nums (zs : List Int) : AV:=.sl (zs.map fun z => .int .i64 z) none
theorem prog_own : ownKnob Try.prog.godebug = none:=by kernel_rfl
theorem prog_laid : laidOutB Try.prog = true:=by kernel_rfl

namespace floatRoutes
set_option maxRecDepth 100000 in
theorem lifted (hM : ∀ zs : List Int,(∀ z ∈ zs,(Lit.int .i64 z).wf = true) → zs.length ≤ maxLen → Does Try.prog 3 [nums zs] [] fun v _ => v = .bool true) (os : Os) (started : os.Started) (H : Type) (enc : TypeId × Value → H) :
  ReturnsInHanded {} Try.checked os 3 .any (Rows.floatRoutesSpec.pre6 enc Try.prog Try.f3 Rows.floatRoutesRow.domain false) (Rows.floatRoutesSpec.post enc Try.prog Try.f3 false true false false):=by
 refine returnsInHanded_of_change (C := Try.checked) prog_own started (by kernel_rfl) Try.func3
  (ChangeSpec.witness6 (enc:=enc) (C:=Try.checked) false ⟨#[],#[.slice none 0 0],[]⟩ 8 (by kernel_rfl) (by kernel_rfl) (by kernel_rfl) (by kernel_rfl)) ?_
 intro W base args ds gs before hval0 hW hcnd _
 have hval : ∀ (j : Nat) t v,Try.f3.params[j]? = some t → args[j]? = some v → Value.okWide Try.prog W .any base t v:=hval0
 have hW':=hW
 obtain ⟨p,q,hA0,hV,rfl,hfz,hnd⟩:=hW
 have hA : DataW.TrodAll enc Try.prog W 0 (fun _ => true) true Try.f3.params.toList args.toList ds p:=hA0
 rw [Try.params3] at hA hval
 obtain ⟨v0,vs0,d0,ds0,p0,q0,hargs,rfl,rfl,h0,r0⟩:=trodAll_cons hA
 obtain ⟨rfl,rfl,rfl⟩:=trodAll_nil r0
 obtain rfl : args = #[v0]:=by cases args; simp_all
 obtain ⟨rfl,rfl⟩:=trodVars_none hV
 obtain ⟨a0,len0,cap0,rfl⟩:=okWide_slice Try.underlying22 (hval 0 22 v0 rfl rfl)
 have k0:=h0
 have lt0 : ∀ x ∈ p0,x.block < W.heap.size:=by obtain ⟨m,hm⟩:=k0; exact DataW.trod_lt m _ _ _ hm
 obtain ⟨zs,hwf,hlen,hvr⟩:=ints_vr Try.underlying22 Try.underlying3 (by kernel_rfl) h0
 clear hA0 hval0
 refine ((hM zs hwf hlen).law (us:=#[.slice a0 len0 cap0]) ⟨rfl,fun i x u hx hu => ?_⟩).mono fun e W' ⟨he,bel⟩ => ?_
 ·cases i with
  | zero => simp at hx hu; subst hx; subst hu; exact hvr
  | succ i => simp at hx
 subst he
 exact ⟨_,rfl,_,_,_,[],_,[],hW',trodAll_mk1 (shut_bool Try.underlying4 _),(trodAll_cons_mk (Below.trod prog_laid (by kernel_rfl) (of_decide_eq_true (by kernel_rfl)) k0 bel lt0) trodAll_mk0),rfl,bel.frame _,fun h => by cases h⟩

theorem frame (hM : ∀ zs : List Int,(∀ z ∈ zs,(Lit.int .i64 z).wf = true) → zs.length ≤ maxLen → Does Try.prog 3 [nums zs] [] fun v _ => v = .bool true) : Rows.FloatRoutesSaid :=
 OpenClaim.holds_of_wide 3 Try.f3 rfl rfl rfl rfl rfl rfl rfl ⟨rfl, rfl, rfl, rfl, rfl⟩ rfl rfl rfl rfl rfl (by kernel_rfl) Try.func3 (by kernel_rfl)
  (of_decide_eq_true (by kernel_rfl)) (by unfold Func.isWrapper; first | (rw [if_pos (by decide +kernel)]; kernel_rfl) | (rw [if_neg (by decide +kernel)]; exact ⟨rfl,rfl⟩))
  (fun os started H enc _ => lifted hM os started H enc)
end floatRoutes
end Go.Proofs.Ythfpmjnmaifgaaa
end
