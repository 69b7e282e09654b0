/- Part 7 of what the law needs: own work, put together. -/
import Derived.ProofKit
import Derived.LaidMore
import Derived.LaidLaws
import Derived.LaidHandle
import Derived.Lib.LaidTab
import Derived.Stop.LaidErr
import Derived.OpenShut
import Derived.Stop.Joined
import Derived.Test.YtkchfjblcfbajaaDoorRows
import Derived.Test.YtkchfjblcfbajaaDoorTie
import Derived.Test.YtkchfjblcfbajaaDoorCards
import Derived.SevenTiedAt
import Derived.Test.YtkchfjblcfbajaaDoorBsZq5
set_option linter.unusedVariables false
set_option linter.unusedSimpArgs false
set_option maxRecDepth 10000
set_option maxHeartbeats 4000000
section
namespace Go.Proofs.YtkchfjblcfbajaaDoor
open Go.RowKit
attribute [local simp] ren ren1 AV.plain AV.plain1 AV.clean cleanL cleanI cleanBo cleanSt cleanII plFB clFB faFB KL_bk_Drum KL_Span KL_Street KL_Group KL_Town KL_City KL_Band KL_band_tour KL_band_visit KL_band_requests KL_band_request KL_V12_bool A_bk_Drum C_bk_Drum A_Span C_Span A_Street C_Street A_Group C_Group A_Town C_Town A_City C_City A_Band C_Band A_band_tour C_band_tour A_band_visit C_band_visit A_band_requests C_band_requests A_band_request C_band_request A_V12_bool C_V12_bool back back1 re re1 List.idxOf? List.findIdx? List.findIdx?.go KB_bk_Drum KB_Span KB_Street KB_Group KB_Town KB_City KB_Band KB_band_tour KB_band_visit KB_band_requests KB_band_request KB_V12_bool fadeS fadeV
def p_bl7_granted (N : Nat) (l_1 : (List T_Band)) (errors_2 : (List Int)) : Option ((List T_Band)) := (letJ (fun (out_3 : List T_Band) => some out_3) (fun k_4 => (loop2 (fun rec_9 (out_7 : List T_Band) (i_8 : Int) => (letJ (fun (y_12 : Bool) => (bif y_12 then (letJ (fun (out_18 : List T_Band) => (rec_9 out_18 (IntKind.i64.wrap (i_8 + 1)))) (fun k_19 => ((getI errors_2 i_8).bind fun x_22 => (bif (x_22 == 0) then ((getI l_1 i_8).bind fun x_24 => ((pushI out_7 ([x_24] : List T_Band)).bind fun l_25 => (k_19 l_25))) else (k_19 out_7))))) else (k_4 out_7))) (fun k_13 => (bif (decide (i_8 < ((l_1.length : Nat) : Int))) then (k_13 (decide (i_8 < ((errors_2.length : Nat) : Int)))) else (k_13 false))))) N [] 0)))
def v_bl7_granted (r : (List T_Band)) : AV := .sl (r.map A_Band) none
attribute [local simp] v_bl7_granted
theorem a_bl7_granted (l_1 : (List T_Band)) (errors_2 : (List Int)) : [.sl (l_1.map A_Band) none, .sl (errors_2.map (AV.int .i64)) none].mapM (ren []) = some [.sl (l_1.map A_Band) none, .sl (errors_2.map (AV.int .i64)) none] := by simp
theorem b_bl7_granted (r : (List T_Band)) (n n2 m : Nat) : back n n2 m (v_bl7_granted r) = some (v_bl7_granted r) := by simp
theorem d_bl7_granted (N : Nat) (l_1 : (List T_Band)) (errors_2 : (List Int)) (r : (List T_Band)) (h : p_bl7_granted N l_1 errors_2 = some r) : Does Tryd.prog 40 [.sl (l_1.map A_Band) none, .sl (errors_2.map (AV.int .i64)) none] [] fun v c => v = v_bl7_granted r ∧ c = [] := by
 unfold p_bl7_granted at h
 refine Does.ofL comp40 _ _ rfl rfl ?_
 refine Ex.seq (rg 1 [0, 1] (mkS 32 [(0, .sl (l_1.map A_Band) none), (1, .sl (errors_2.map (AV.int .i64)) none)]) ⟨[], []⟩ ?_)
 refine Ex.seq (rg 1 [0, 1, 5] (mkS 32 [(0, .sl (l_1.map A_Band) none), (1, .sl (errors_2.map (AV.int .i64)) none), (5, .nils)]) ⟨[], []⟩ ?_)
 refine Ex.seq (Ex.seq ?_)
 refine rg 1 [0, 1, 5, 6] (mkS 32 [(0, .sl (l_1.map A_Band) none), (1, .sl (errors_2.map (AV.int .i64)) none), (5, .nils), (6, i6 0)]) ⟨[], []⟩ ?_
 obtain ⟨K_5, hK_6, h⟩ := letE h
 refine Ex.blockJ (fun a S => ∃ (out_3 : List T_Band), K_5 out_3 = some r ∧ a = mkS 32 [(5, .sl (out_3.map A_Band) (some 0))] ∧ S = ⟨[], [(out_3.length, 6)]⟩) ?_ ?_
 ·refine Ex.forget (nilK 5 6 rfl) ?_
  refine Ex.castA (a2 := mkS 32 [(0, .sl (l_1.map A_Band) none), (1, .sl (errors_2.map (AV.int .i64)) none), (5, .sl (([] : List T_Band).map A_Band) (some 0)), (6, i6 0)]) (S2 := ⟨[], [(0, 6)]⟩) (by kernel_rfl) (by kernel_rfl) ?_
  obtain ⟨B_10, hB_11, h⟩ := loop2I h
  refine Ex.loopF (fun k a S => ∃ (out_7 : List T_Band), ∃ (i_8 : Int), loop2 B_10 k out_7 i_8 = some r ∧ a = mkS 32 [(0, .sl (l_1.map A_Band) none), (1, .sl (errors_2.map (AV.int .i64)) none), (5, .sl (out_7.map A_Band) (some 0)), (6, i6 i_8)] ∧ S = ⟨[], [(out_7.length, 6)]⟩) N ⟨_, _, Forgets.refl _ _ _, [], 0, h, rfl, rfl⟩ ?_
  rintro k a S ⟨out_7, i_8, h, rfl, rfl⟩
  cases k with
  | zero => exact (loop2Z h).elim
  | succ k =>
   replace h := loop2S h hB_11
   refine Ex.seq ?_
   obtain ⟨K_14, hK_15, h⟩ := letE h
   refine Ex.seqJ (fun a S => ∃ (y_12 : Bool), K_14 y_12 = some r ∧ a = mkS 32 [(0, .sl (l_1.map A_Band) none), (1, .sl (errors_2.map (AV.int .i64)) none), (5, .sl (out_7.map A_Band) (some 0)), (6, i6 i_8), (16, .bool y_12)] ∧ S = ⟨[], [(out_7.length, 6)]⟩) ?_ ?_
   ·rcases condI h with ⟨hc_16, h⟩ | ⟨hc_16, h⟩
    ·refine regH 10 [(2, .eq (i6 ((l_1.length : Nat) : Int))), (4, .eq (.bool true)), (7, .eq (i6 ((errors_2.length : Nat) : Int)))] [0, 1, 5, 6, 16] [AV.int .i64 (((l_1.map A_Band).length : Nat) : Int) = AV.int .i64 ((l_1.length : Nat) : Int), AV.bool (decide (i_8 < ((l_1.length : Nat) : Int))) = AV.bool true, AV.int .i64 (((errors_2.map (AV.int .i64)).length : Nat) : Int) = AV.int .i64 ((errors_2.length : Nat) : Int)] (mkS 32 [(0, .sl (l_1.map A_Band) none), (1, .sl (errors_2.map (AV.int .i64)) none), (5, .sl (out_7.map A_Band) (some 0)), (6, i6 i_8), (16, .bool (decide (i_8 < ((errors_2.length : Nat) : Int))))]) (⟨[], [(out_7.length, 6)]⟩) (by kernel_rfl) ⟨lenM _ _, congrArg AV.bool hc_16, lenM _ _, trivial⟩ rfl ?_
     (try simp only [reduceCtorEq, AEx.ex.injEq, Nat.reduceEqDiff, if_true, if_false])
     exact ⟨_, _, Forgets.refl _ _ _, (decide (i_8 < ((errors_2.length : Nat) : Int))), h, rfl, rfl⟩
    ·refine regH 10 [(2, .eq (i6 ((l_1.length : Nat) : Int))), (4, .eq (.bool false))] [0, 1, 5, 6, 16] [AV.int .i64 (((l_1.map A_Band).length : Nat) : Int) = AV.int .i64 ((l_1.length : Nat) : Int), AV.bool (decide (i_8 < ((l_1.length : Nat) : Int))) = AV.bool false] (mkS 32 [(0, .sl (l_1.map A_Band) none), (1, .sl (errors_2.map (AV.int .i64)) none), (5, .sl (out_7.map A_Band) (some 0)), (6, i6 i_8), (16, .bool false)]) (⟨[], [(out_7.length, 6)]⟩) (by kernel_rfl) ⟨lenM _ _, congrArg AV.bool hc_16, trivial⟩ rfl ?_
     (try simp only [reduceCtorEq, AEx.ex.injEq, Nat.reduceEqDiff, if_true, if_false])
     exact ⟨_, _, Forgets.refl _ _ _, false, h, rfl, rfl⟩
   ·rintro a S ⟨y_12, h, rfl, rfl⟩
    subst hK_15
    rcases condI h with ⟨hc_17, h⟩ | ⟨hc_17, h⟩
    ·refine Ex.condT _ rfl hc_17 ?_
     refine Ex.skip ?_
     refine Ex.seq ?_
     obtain ⟨K_20, hK_21, h⟩ := letE h
     refine Ex.blockJ (fun a S => ∃ (out_18 : List T_Band), K_20 out_18 = some r ∧ a = mkS 32 [(0, .sl (l_1.map A_Band) none), (1, .sl (errors_2.map (AV.int .i64)) none), (5, .sl (out_18.map A_Band) (some 0)), (6, i6 i_8)] ∧ S = ⟨[], [(out_18.length, 6)]⟩) ?_ ?_
     ·refine Ex.seq ?_
      obtain ⟨x_22, hx_22, h⟩ := bE h
      refine regH 5 [(2, .rop [i6 x_22])] [0, 1, 5, 6, 23] [LGet (errors_2.map (AV.int .i64)) i_8 1 [i6 x_22]] (mkS 32 [(0, .sl (l_1.map A_Band) none), (1, .sl (errors_2.map (AV.int .i64)) none), (5, .sl (out_7.map A_Band) (some 0)), (6, i6 i_8), (23, .bool (x_22 == 0))]) (⟨[], [(out_7.length, 6)]⟩) (by kernel_rfl) ⟨LGet.of hx_22 rfl, trivial⟩ rfl ?_
      rcases condI h with ⟨hc_23, h⟩ | ⟨hc_23, h⟩
      ·refine Ex.condT _ rfl hc_23 ?_
       refine Ex.postF ?_
       obtain ⟨x_24, hx_24, h⟩ := bE h
       obtain ⟨l_25, hl_25, h⟩ := bE h
       refine regH 8 [(3, .rop (C_Band x_24)), (6, .app (l_25.map A_Band) l_25.length)] [0, 1, 5, 6] [LGet (l_1.map A_Band) i_8 6 (C_Band x_24), LApp out_7.length (out_7.map A_Band) (([x_24] : List T_Band).map A_Band) 6 (l_25.map A_Band) l_25.length] (mkS 32 [(0, .sl (l_1.map A_Band) none), (1, .sl (errors_2.map (AV.int .i64)) none), (5, .sl (l_25.map A_Band) (some 0)), (6, i6 i_8)]) (⟨[], [(l_25.length, 6), (1, 6)]⟩) (by kernel_rfl) ⟨LGet.of hx_24 rfl, LApp.of hl_25 (fun _ => rfl), trivial⟩ rfl ?_
       refine ⟨mkS 32 [(0, .sl (l_1.map A_Band) none), (1, .sl (errors_2.map (AV.int .i64)) none), (5, .sl (l_25.map A_Band) (some 0)), (6, i6 i_8)], ⟨[], [(l_25.length, 6), (1, 6)]⟩, Forgets.refl _ _ _, ?_⟩
       (try simp only [reduceCtorEq, AEx.ex.injEq, Nat.reduceEqDiff, if_true, if_false])
       exact ⟨_, _, forgetA (m := 32) 0 [0] [(0, .sl (l_1.map A_Band) none), (1, .sl (errors_2.map (AV.int .i64)) none), (5, .sl (l_25.map A_Band) (some 0)), (6, i6 i_8)] [] [(l_25.length, 6)] (by simp [setAll]) (by simp) ⟨(reN (KL_Band _)), (reN (cleanI _ _)), (reT (KL_Band _) rfl), rfl, trivial⟩ (by simp) rfl (by decide), l_25, h, rfl, rfl⟩
      ·refine Ex.condF _ rfl hc_23 ?_
       refine Ex.skip ?_
       (try simp only [reduceCtorEq, AEx.ex.injEq, Nat.reduceEqDiff, if_true, if_false])
       exact ⟨_, _, forgetK [0, 1, 5, 6], out_7, h, rfl, rfl⟩
     ·rintro a S ⟨out_18, h, rfl, rfl⟩
      subst hK_21
      refine rg 3 [0, 1, 5, 6] (mkS 32 [(0, .sl (l_1.map A_Band) none), (1, .sl (errors_2.map (AV.int .i64)) none), (5, .sl (out_18.map A_Band) (some 0)), (6, i6 (IntKind.i64.wrap (i_8 + 1)))]) ⟨[], [(out_18.length, 6)]⟩ ?_
      dsimp only
      exact ⟨_, _, Forgets.refl _ _ _, k, Nat.lt_succ_self k, out_18, (IntKind.i64.wrap (i_8 + 1)), h, rfl, rfl⟩
    ·refine Ex.condF _ rfl hc_17 ?_
     refine Ex.exit ?_
     (try simp only [reduceCtorEq, AEx.ex.injEq, Nat.reduceEqDiff, if_true, if_false])
     exact ⟨_, _, forgetK [5], out_7, h, rfl, rfl⟩
 ·rintro a S ⟨out_3, h, rfl, rfl⟩
  subst hK_6
  refine Ex.seq (rg 2 [4] (mkS 32 [(4, .sl (out_3.map A_Band) (some 0))]) ⟨[], [(out_3.length, 6)]⟩ ?_)
  refine Ex.ret ?_
  obtain rfl := sJ h
  exact rt (.sl (out_3.map A_Band) (some 0))
def p_bl7_BandAsleep (N : Nat) (nums_1 : (List Int)) : Option (Bool) := ((p_bk_DrumOf N nums_1).bind fun r_2 => ((p_bk_CityOf N r_2).bind fun r_3 => ((p_bk_BandsOf N r_3.2 r_3.1 4).bind fun r_4 => ((p_band_Grant N r_3.1 r_4.1).bind fun r_5 => (bif (r_5.2 != 0) then some false else ((p_bl7_granted N r_4.1 r_5.1).bind fun r_7 => (letJ (fun (_ : Unit) => ((p_bl7_awake N).bind fun r_102 => some r_102)) (fun k_8 => (loop2 (fun rec_13 (square_11 : Int) (b_12 : Int) => (bif (decide (square_11 < ((r_3.1.Sleep.length : Nat) : Int))) then ((p_band_Sleep N r_3.1 r_4.1 square_11).bind fun r_17 => ((p_band_Sleep N r_3.1 r_7 square_11).bind fun r_18 => (letJ (fun (y_19 : Bool) => (bif y_19 then some false else (letJ (fun (b_31 : Int) => (rec_13 (IntKind.i64.wrap (square_11 + 1)) b_31)) (fun k_32 => (loop3 (fun rec_38 (run_35 : Int) (minute_36 : Int) (b_37 : Int) => (bif (decide (minute_36 < 720)) then (letJ (fun (heard_42 : Bool) (there_43 : Bool) (b_44 : Int) => (letJ (fun (run_78 : Int) => (letJ (fun (in_83 : Bool) => (letJ (fun (y_88 : Bool) => (bif y_88 then some false else (rec_38 run_78 (IntKind.i64.wrap (minute_36 + 1)) b_44))) (fun k_89 => (bif in_83 then (bif heard_42 then (k_89 true) else (bif there_43 then (k_89 true) else (bif (decide (run_78 > r_17.2.1)) then (k_89 true) else (bif (run_78 == r_17.2.1) then (bif (decide (r_17.2.1 > 0)) then (k_89 (decide (minute_36 < (IntKind.i64.wrap ((IntKind.i64.wrap (r_17.1 + r_17.2.1)) - 1))))) else (k_89 false)) else (k_89 false))))) else (bif (decide (run_78 > r_17.2.1)) then (k_89 true) else (bif (run_78 == r_17.2.1) then (bif (decide (r_17.2.1 > 0)) then (k_89 (decide (minute_36 < (IntKind.i64.wrap ((IntKind.i64.wrap (r_17.1 + r_17.2.1)) - 1))))) else (k_89 false)) else (k_89 false))))))) (fun k_84 => (bif (decide (r_17.1 ≤ minute_36)) then (k_84 (decide (minute_36 < (IntKind.i64.wrap (r_17.1 + r_17.2.1))))) else (k_84 false))))) (fun k_79 => (bif heard_42 then (k_79 0) else (k_79 (IntKind.i64.wrap (run_35 + 1))))))) (fun k_45 => (loop4 (fun rec_52 (heard_48 : Bool) (there_49 : Bool) (i_50 : Int) (b_51 : Int) => (bif (decide (i_50 < ((r_4.1.length : Nat) : Int))) then (letJ (fun (heard_56 : Bool) (there_57 : Bool) (b_58 : Int) => (rec_52 heard_56 there_57 (IntKind.i64.wrap (i_50 + 1)) b_58)) (fun k_59 => ((getI r_4.1 i_50).bind fun x_62 => ((p_band_Where N r_3.1 x_62 minute_36).bind fun r_63 => (letJ (fun (heard_65 : Bool) => (bif there_49 then (k_59 heard_65 true b_51) else ((getI r_4.1 i_50).bind fun x_73 => ((getI r_4.1 i_50).bind fun x_74 => ((p_bk_Drum_Of N (⟨b_51⟩ : T_bk_Drum) x_74.Start).bind fun r_75 => ((p_br7_At N r_3.1 x_73 r_75.1 minute_36).bind fun r_76 => (k_59 heard_65 (r_76 == square_11) r_75.2.beat_))))))) (fun k_66 => (bif heard_48 then (k_66 true) else (bif (r_63.2.2 != 0) then (k_66 true) else ((p_bk_Has N r_63.1 square_11).bind fun r_71 => (k_66 r_71)))))))))) else (k_45 heard_48 there_49 b_51))) N false false 0 b_37))) else (k_32 b_37))) N 0 0 b_12))))) (fun k_20 => (bif (r_17.2.2 != 0) then (k_20 true) else (bif (r_18.2.2 != 0) then (k_20 true) else ((getI r_3.1.Sleep square_11).bind fun x_25 => (bif (decide (r_18.2.1 < x_25)) then (k_20 true) else (bif (decide (r_18.2.1 < r_17.2.1)) then (k_20 true) else (bif (decide (r_17.1 < 0)) then (k_20 true) else (bif (decide (r_17.2.1 < 0)) then (k_20 true) else (k_20 (decide ((IntKind.i64.wrap (r_17.1 + r_17.2.1)) > 720)))))))))))))) else (k_8 ()))) N 0 r_4.2.beat_)))))))))
def v_bl7_BandAsleep (r : Bool) : AV := .bool r
attribute [local simp] v_bl7_BandAsleep
theorem d_bl7_BandAsleep (N : Nat) (nums_1 : (List Int)) (r : Bool) (h : p_bl7_BandAsleep N nums_1 = some r) : Does Tryd.prog 8 [.sl (nums_1.map (AV.int .i64)) none] [] fun v c => v = v_bl7_BandAsleep r ∧ c = [] := by
 unfold p_bl7_BandAsleep at h
 refine Does.ofL comp8 _ _ rfl rfl ?_
 refine Ex.seq (rg 1 [0] (mkS 193 [(0, .sl (nums_1.map (AV.int .i64)) none)]) ⟨[], []⟩ ?_)
 refine Ex.seq ?_
 obtain ⟨r_2, hr_2, h⟩ := bE h
 refine Ex.reg (rn 1 [25] (mkS 193 [(25, .sl (nums_1.map (AV.int .i64)) none)]) ⟨[], []⟩ ?_)
 refine ExO.callL (v' := .ptr 0 0) [] [.sl (nums_1.map (AV.int .i64)) none] rfl rfl (a_bk_DrumOf nums_1) rfl rfl (d_bk_DrumOf N nums_1 r_2 hr_2) rfl (by simp) ?_
 refine rn 1 [3] (mkS 193 [(3, .ptr 0 0)]) ⟨[(C_bk_Drum r_2)], []⟩ ?_
 refine ExO.nil ?_
 refine Ex.seq ?_
 obtain ⟨r_3, hr_3, h⟩ := bE h
 refine Ex.reg (rn 1 [3, 27] (mkS 193 [(3, .ptr 0 0), (27, .ptr 0 0)]) ⟨[(C_bk_Drum r_2)], []⟩ ?_)
 refine ExO.callL [0] [.ptr 0 0] rfl rfl (by simp; try rfl) rfl (by simp) (d_bk_CityOf N r_2 r_3 hr_3) (b_bk_CityOf _ _ _ _) (by simp) ?_
 refine rn 2 [3, 4] (mkS 193 [(3, .ptr 0 0), (4, .ptr 1 0)]) ⟨[(C_bk_Drum r_3.2), (C_City r_3.1)], []⟩ ?_
 refine ExO.nil ?_
 refine Ex.seq ?_
 obtain ⟨r_4, hr_4, h⟩ := bE h
 refine Ex.reg (rn 2 [3, 4, 29, 30] (mkS 193 [(3, .ptr 0 0), (4, .ptr 1 0), (29, .ptr 0 0), (30, (A_City r_3.1))]) ⟨[(C_bk_Drum r_3.2), (C_City r_3.1)], []⟩ ?_)
 refine ExO.callL [0] [.ptr 0 0, (A_City r_3.1), i6 4] rfl rfl (by simp; try rfl) rfl (by simp) (d_bk_BandsOf N r_3.2 r_3.1 4 r_4 hr_4) (b_bk_BandsOf _ _ _ _) (by simp) ?_
 refine rn 1 [3, 4, 5] (mkS 193 [(3, .ptr 0 0), (4, .ptr 1 0), (5, .sl (r_4.1.map A_Band) none)]) ⟨[(C_bk_Drum r_4.2), (C_City r_3.1)], []⟩ ?_
 refine ExO.nil ?_
 refine Ex.seq ?_
 obtain ⟨r_5, hr_5, h⟩ := bE h
 refine Ex.reg (rn 2 [3, 4, 5, 33, 34] (mkS 193 [(3, .ptr 0 0), (4, .ptr 1 0), (5, .sl (r_4.1.map A_Band) none), (33, (A_City r_3.1)), (34, .sl (r_4.1.map A_Band) none)]) ⟨[(C_bk_Drum r_4.2), (C_City r_3.1)], []⟩ ?_)
 refine ExO.callL [] [(A_City r_3.1), .sl (r_4.1.map A_Band) none] rfl rfl (a_band_Grant r_3.1 r_4.1) rfl rfl (d_band_Grant N r_3.1 r_4.1 r_5 hr_5) (b_band_Grant _ _ _ _) rfl ?_
 refine rn 5 [3, 4, 5, 6, 7] (mkS 193 [(3, .ptr 0 0), (4, .ptr 1 0), (5, .sl (r_4.1.map A_Band) none), (6, .sl (r_5.1.map (AV.int .i64)) none), (7, i6 r_5.2)]) ⟨[(C_bk_Drum r_4.2), (C_City r_3.1)], []⟩ ?_
 refine ExO.nil ?_
 refine Ex.seq (Ex.seq ?_)
 refine rg 2 [3, 4, 5, 6, 39] (mkS 193 [(3, .ptr 0 0), (4, .ptr 1 0), (5, .sl (r_4.1.map A_Band) none), (6, .sl (r_5.1.map (AV.int .i64)) none), (39, .bool (r_5.2 != 0))]) ⟨[(C_bk_Drum r_4.2), (C_City r_3.1)], []⟩ ?_
 rcases condI h with ⟨hc_6, h⟩ | ⟨hc_6, h⟩
 ·refine Ex.condT _ rfl hc_6 ?_
  refine Ex.seq (rg 1 [2] (mkS 193 [(2, .bool false)]) ⟨[(C_bk_Drum r_4.2), (C_City r_3.1)], []⟩ ?_)
  refine Ex.ret ?_
  obtain rfl := sJ h
  exact rt (.bool false)
 ·refine Ex.condF _ rfl hc_6 ?_
  refine Ex.skip ?_
  refine Ex.seq ?_
  obtain ⟨r_7, hr_7, h⟩ := bE h
  refine Ex.reg (rn 2 [3, 4, 5, 40, 41] (mkS 193 [(3, .ptr 0 0), (4, .ptr 1 0), (5, .sl (r_4.1.map A_Band) none), (40, .sl (r_4.1.map A_Band) none), (41, .sl (r_5.1.map (AV.int .i64)) none)]) ⟨[(C_bk_Drum r_4.2), (C_City r_3.1)], []⟩ ?_)
  refine ExO.callL [] [.sl (r_4.1.map A_Band) none, .sl (r_5.1.map (AV.int .i64)) none] rfl rfl (a_bl7_granted r_4.1 r_5.1) rfl rfl (d_bl7_granted N r_4.1 r_5.1 r_7 hr_7) (b_bl7_granted _ _ _ _) rfl ?_
  refine rn 1 [3, 4, 5, 8] (mkS 193 [(3, .ptr 0 0), (4, .ptr 1 0), (5, .sl (r_4.1.map A_Band) none), (8, .sl (r_7.map A_Band) none)]) ⟨[(C_bk_Drum r_4.2), (C_City r_3.1)], []⟩ ?_
  refine ExO.nil ?_
  refine Ex.seq (Ex.seq ?_)
  refine rg 1 [3, 4, 5, 8, 9] (mkS 193 [(3, .ptr 0 0), (4, .ptr 1 0), (5, .sl (r_4.1.map A_Band) none), (8, .sl (r_7.map A_Band) none), (9, i6 0)]) ⟨[(C_bk_Drum r_4.2), (C_City r_3.1)], []⟩ ?_
  obtain ⟨K_9, hK_10, h⟩ := letE h
  refine Ex.blockJ (fun a S => K_9 () = some r ∧ a = mkS 193 [] ∧ S = ⟨[], []⟩) ?_ ?_
  ·obtain ⟨B_14, hB_15, h⟩ := loop2I h
   refine Ex.loopF (fun k a S => ∃ (square_11 : Int), ∃ (b_12 : Int), loop2 B_14 k square_11 b_12 = some r ∧ a = mkS 193 [(3, .ptr 0 0), (4, .ptr 1 0), (5, .sl (r_4.1.map A_Band) none), (8, .sl (r_7.map A_Band) none), (9, i6 square_11)] ∧ S = ⟨[[.int .u64 b_12], (C_City r_3.1)], []⟩) N ⟨_, _, Forgets.refl _ _ _, 0, r_4.2.beat_, h, rfl, rfl⟩ ?_
   rintro k a S ⟨square_11, b_12, h, rfl, rfl⟩
   cases k with
   | zero => exact (loop2Z h).elim
   | succ k =>
    replace h := loop2S h hB_15
    refine Ex.seq (Ex.seq ?_)
    refine regH 5 [(3, .eq (i6 ((r_3.1.Sleep.length : Nat) : Int)))] [3, 4, 5, 8, 9, 47] [AV.int .i64 (((r_3.1.Sleep.map (AV.int .i64)).length : Nat) : Int) = AV.int .i64 ((r_3.1.Sleep.length : Nat) : Int)] (mkS 193 [(3, .ptr 0 0), (4, .ptr 1 0), (5, .sl (r_4.1.map A_Band) none), (8, .sl (r_7.map A_Band) none), (9, i6 square_11), (47, .bool (decide (square_11 < ((r_3.1.Sleep.length : Nat) : Int))))]) (⟨[[.int .u64 b_12], (C_City r_3.1)], []⟩) (by kernel_rfl) ⟨lenM _ _, trivial⟩ rfl ?_
    rcases condI h with ⟨hc_16, h⟩ | ⟨hc_16, h⟩
    ·refine Ex.condT _ rfl hc_16 ?_
     refine Ex.skip ?_
     refine Ex.seq ?_
     refine Ex.blockK ?_
     refine Ex.seq ?_
     obtain ⟨r_17, hr_17, h⟩ := bE h
     refine Ex.reg (rn 3 [3, 4, 5, 8, 9, 51, 52, 53] (mkS 193 [(3, .ptr 0 0), (4, .ptr 1 0), (5, .sl (r_4.1.map A_Band) none), (8, .sl (r_7.map A_Band) none), (9, i6 square_11), (51, (A_City r_3.1)), (52, .sl (r_4.1.map A_Band) none), (53, i6 square_11)]) ⟨[[.int .u64 b_12], (C_City r_3.1)], []⟩ ?_)
     refine ExO.callL [] [(A_City r_3.1), .sl (r_4.1.map A_Band) none, i6 square_11] rfl rfl (a_band_Sleep r_3.1 r_4.1 square_11) rfl rfl (d_band_Sleep N r_3.1 r_4.1 square_11 r_17 hr_17) (b_band_Sleep _ _ _ _) rfl ?_
     refine rn 7 [3, 4, 5, 8, 9, 10, 11, 12] (mkS 193 [(3, .ptr 0 0), (4, .ptr 1 0), (5, .sl (r_4.1.map A_Band) none), (8, .sl (r_7.map A_Band) none), (9, i6 square_11), (10, i6 r_17.1), (11, i6 r_17.2.1), (12, i6 r_17.2.2)]) ⟨[[.int .u64 b_12], (C_City r_3.1)], []⟩ ?_
     refine ExO.nil ?_
     refine Ex.seq ?_
     obtain ⟨r_18, hr_18, h⟩ := bE h
     refine Ex.reg (rn 3 [3, 4, 5, 8, 9, 10, 11, 12, 59, 60, 61] (mkS 193 [(3, .ptr 0 0), (4, .ptr 1 0), (5, .sl (r_4.1.map A_Band) none), (8, .sl (r_7.map A_Band) none), (9, i6 square_11), (10, i6 r_17.1), (11, i6 r_17.2.1), (12, i6 r_17.2.2), (59, (A_City r_3.1)), (60, .sl (r_7.map A_Band) none), (61, i6 square_11)]) ⟨[[.int .u64 b_12], (C_City r_3.1)], []⟩ ?_)
     refine ExO.callL [] [(A_City r_3.1), .sl (r_7.map A_Band) none, i6 square_11] rfl rfl (a_band_Sleep r_3.1 r_7 square_11) rfl rfl (d_band_Sleep N r_3.1 r_7 square_11 r_18 hr_18) (b_band_Sleep _ _ _ _) rfl ?_
     refine rn 7 [3, 4, 5, 8, 9, 10, 11, 12, 14, 15] (mkS 193 [(3, .ptr 0 0), (4, .ptr 1 0), (5, .sl (r_4.1.map A_Band) none), (8, .sl (r_7.map A_Band) none), (9, i6 square_11), (10, i6 r_17.1), (11, i6 r_17.2.1), (12, i6 r_17.2.2), (14, i6 r_18.2.1), (15, i6 r_18.2.2)]) ⟨[[.int .u64 b_12], (C_City r_3.1)], []⟩ ?_
     refine ExO.nil ?_
     refine Ex.seq ?_
     obtain ⟨K_21, hK_22, h⟩ := letE h
     refine Ex.seqJ (fun a S => ∃ (y_19 : Bool), K_21 y_19 = some r ∧ a = mkS 193 [(3, .ptr 0 0), (4, .ptr 1 0), (5, .sl (r_4.1.map A_Band) none), (8, .sl (r_7.map A_Band) none), (9, i6 square_11), (10, i6 r_17.1), (11, i6 r_17.2.1), (99, .bool y_19)] ∧ S = ⟨[[.int .u64 b_12], (C_City r_3.1)], []⟩) ?_ ?_
     ·rcases condI h with ⟨hc_23, h⟩ | ⟨hc_23, h⟩
      ·refine regH 34 [(2, .eq (.bool true))] [3, 4, 5, 8, 9, 10, 11, 99] [AV.bool (r_17.2.2 != 0) = AV.bool true] (mkS 193 [(3, .ptr 0 0), (4, .ptr 1 0), (5, .sl (r_4.1.map A_Band) none), (8, .sl (r_7.map A_Band) none), (9, i6 square_11), (10, i6 r_17.1), (11, i6 r_17.2.1), (99, .bool true)]) (⟨[[.int .u64 b_12], (C_City r_3.1)], []⟩) (by kernel_rfl) ⟨congrArg AV.bool hc_23, trivial⟩ rfl ?_
       (try simp only [reduceCtorEq, AEx.ex.injEq, Nat.reduceEqDiff, if_true, if_false])
       exact ⟨_, _, Forgets.refl _ _ _, true, h, rfl, rfl⟩
      ·rcases condI h with ⟨hc_24, h⟩ | ⟨hc_24, h⟩
       ·refine regH 34 [(2, .eq (.bool false)), (6, .eq (.bool true))] [3, 4, 5, 8, 9, 10, 11, 99] [AV.bool (r_17.2.2 != 0) = AV.bool false, AV.bool (r_18.2.2 != 0) = AV.bool true] (mkS 193 [(3, .ptr 0 0), (4, .ptr 1 0), (5, .sl (r_4.1.map A_Band) none), (8, .sl (r_7.map A_Band) none), (9, i6 square_11), (10, i6 r_17.1), (11, i6 r_17.2.1), (99, .bool true)]) (⟨[[.int .u64 b_12], (C_City r_3.1)], []⟩) (by kernel_rfl) ⟨congrArg AV.bool hc_23, congrArg AV.bool hc_24, trivial⟩ rfl ?_
        (try simp only [reduceCtorEq, AEx.ex.injEq, Nat.reduceEqDiff, if_true, if_false])
        exact ⟨_, _, Forgets.refl _ _ _, true, h, rfl, rfl⟩
       ·obtain ⟨x_25, hx_25, h⟩ := bE h
        rcases condI h with ⟨hc_26, h⟩ | ⟨hc_26, h⟩
        ·refine regH 34 [(2, .eq (.bool false)), (6, .eq (.bool false)), (11, .rop [i6 x_25]), (15, .eq (.bool true))] [3, 4, 5, 8, 9, 10, 11, 99] [AV.bool (r_17.2.2 != 0) = AV.bool false, AV.bool (r_18.2.2 != 0) = AV.bool false, LGet (r_3.1.Sleep.map (AV.int .i64)) square_11 1 [i6 x_25], AV.bool (decide (r_18.2.1 < x_25)) = AV.bool true] (mkS 193 [(3, .ptr 0 0), (4, .ptr 1 0), (5, .sl (r_4.1.map A_Band) none), (8, .sl (r_7.map A_Band) none), (9, i6 square_11), (10, i6 r_17.1), (11, i6 r_17.2.1), (99, .bool true)]) (⟨[[.int .u64 b_12], (C_City r_3.1)], []⟩) (by kernel_rfl) ⟨congrArg AV.bool hc_23, congrArg AV.bool hc_24, LGet.of hx_25 rfl, congrArg AV.bool hc_26, trivial⟩ rfl ?_
         (try simp only [reduceCtorEq, AEx.ex.injEq, Nat.reduceEqDiff, if_true, if_false])
         exact ⟨_, _, Forgets.refl _ _ _, true, h, rfl, rfl⟩
        ·rcases condI h with ⟨hc_27, h⟩ | ⟨hc_27, h⟩
         ·refine regH 34 [(2, .eq (.bool false)), (6, .eq (.bool false)), (11, .rop [i6 x_25]), (15, .eq (.bool false)), (20, .eq (.bool true))] [3, 4, 5, 8, 9, 10, 11, 99] [AV.bool (r_17.2.2 != 0) = AV.bool false, AV.bool (r_18.2.2 != 0) = AV.bool false, LGet (r_3.1.Sleep.map (AV.int .i64)) square_11 1 [i6 x_25], AV.bool (decide (r_18.2.1 < x_25)) = AV.bool false, AV.bool (decide (r_18.2.1 < r_17.2.1)) = AV.bool true] (mkS 193 [(3, .ptr 0 0), (4, .ptr 1 0), (5, .sl (r_4.1.map A_Band) none), (8, .sl (r_7.map A_Band) none), (9, i6 square_11), (10, i6 r_17.1), (11, i6 r_17.2.1), (99, .bool true)]) (⟨[[.int .u64 b_12], (C_City r_3.1)], []⟩) (by kernel_rfl) ⟨congrArg AV.bool hc_23, congrArg AV.bool hc_24, LGet.of hx_25 rfl, congrArg AV.bool hc_26, congrArg AV.bool hc_27, trivial⟩ rfl ?_
          (try simp only [reduceCtorEq, AEx.ex.injEq, Nat.reduceEqDiff, if_true, if_false])
          exact ⟨_, _, Forgets.refl _ _ _, true, h, rfl, rfl⟩
         ·rcases condI h with ⟨hc_28, h⟩ | ⟨hc_28, h⟩
          ·refine regH 34 [(2, .eq (.bool false)), (6, .eq (.bool false)), (11, .rop [i6 x_25]), (15, .eq (.bool false)), (20, .eq (.bool false)), (24, .eq (.bool true))] [3, 4, 5, 8, 9, 10, 11, 99] [AV.bool (r_17.2.2 != 0) = AV.bool false, AV.bool (r_18.2.2 != 0) = AV.bool false, LGet (r_3.1.Sleep.map (AV.int .i64)) square_11 1 [i6 x_25], AV.bool (decide (r_18.2.1 < x_25)) = AV.bool false, AV.bool (decide (r_18.2.1 < r_17.2.1)) = AV.bool false, AV.bool (decide (r_17.1 < 0)) = AV.bool true] (mkS 193 [(3, .ptr 0 0), (4, .ptr 1 0), (5, .sl (r_4.1.map A_Band) none), (8, .sl (r_7.map A_Band) none), (9, i6 square_11), (10, i6 r_17.1), (11, i6 r_17.2.1), (99, .bool true)]) (⟨[[.int .u64 b_12], (C_City r_3.1)], []⟩) (by kernel_rfl) ⟨congrArg AV.bool hc_23, congrArg AV.bool hc_24, LGet.of hx_25 rfl, congrArg AV.bool hc_26, congrArg AV.bool hc_27, congrArg AV.bool hc_28, trivial⟩ rfl ?_
           (try simp only [reduceCtorEq, AEx.ex.injEq, Nat.reduceEqDiff, if_true, if_false])
           exact ⟨_, _, Forgets.refl _ _ _, true, h, rfl, rfl⟩
          ·rcases condI h with ⟨hc_29, h⟩ | ⟨hc_29, h⟩
           ·refine regH 34 [(2, .eq (.bool false)), (6, .eq (.bool false)), (11, .rop [i6 x_25]), (15, .eq (.bool false)), (20, .eq (.bool false)), (24, .eq (.bool false)), (28, .eq (.bool true))] [3, 4, 5, 8, 9, 10, 11, 99] [AV.bool (r_17.2.2 != 0) = AV.bool false, AV.bool (r_18.2.2 != 0) = AV.bool false, LGet (r_3.1.Sleep.map (AV.int .i64)) square_11 1 [i6 x_25], AV.bool (decide (r_18.2.1 < x_25)) = AV.bool false, AV.bool (decide (r_18.2.1 < r_17.2.1)) = AV.bool false, AV.bool (decide (r_17.1 < 0)) = AV.bool false, AV.bool (decide (r_17.2.1 < 0)) = AV.bool true] (mkS 193 [(3, .ptr 0 0), (4, .ptr 1 0), (5, .sl (r_4.1.map A_Band) none), (8, .sl (r_7.map A_Band) none), (9, i6 square_11), (10, i6 r_17.1), (11, i6 r_17.2.1), (99, .bool true)]) (⟨[[.int .u64 b_12], (C_City r_3.1)], []⟩) (by kernel_rfl) ⟨congrArg AV.bool hc_23, congrArg AV.bool hc_24, LGet.of hx_25 rfl, congrArg AV.bool hc_26, congrArg AV.bool hc_27, congrArg AV.bool hc_28, congrArg AV.bool hc_29, trivial⟩ rfl ?_
            (try simp only [reduceCtorEq, AEx.ex.injEq, Nat.reduceEqDiff, if_true, if_false])
            exact ⟨_, _, Forgets.refl _ _ _, true, h, rfl, rfl⟩
           ·refine regH 34 [(2, .eq (.bool false)), (6, .eq (.bool false)), (11, .rop [i6 x_25]), (15, .eq (.bool false)), (20, .eq (.bool false)), (24, .eq (.bool false)), (28, .eq (.bool false))] [3, 4, 5, 8, 9, 10, 11, 99] [AV.bool (r_17.2.2 != 0) = AV.bool false, AV.bool (r_18.2.2 != 0) = AV.bool false, LGet (r_3.1.Sleep.map (AV.int .i64)) square_11 1 [i6 x_25], AV.bool (decide (r_18.2.1 < x_25)) = AV.bool false, AV.bool (decide (r_18.2.1 < r_17.2.1)) = AV.bool false, AV.bool (decide (r_17.1 < 0)) = AV.bool false, AV.bool (decide (r_17.2.1 < 0)) = AV.bool false] (mkS 193 [(3, .ptr 0 0), (4, .ptr 1 0), (5, .sl (r_4.1.map A_Band) none), (8, .sl (r_7.map A_Band) none), (9, i6 square_11), (10, i6 r_17.1), (11, i6 r_17.2.1), (99, .bool (decide ((IntKind.i64.wrap (r_17.1 + r_17.2.1)) > 720)))]) (⟨[[.int .u64 b_12], (C_City r_3.1)], []⟩) (by kernel_rfl) ⟨congrArg AV.bool hc_23, congrArg AV.bool hc_24, LGet.of hx_25 rfl, congrArg AV.bool hc_26, congrArg AV.bool hc_27, congrArg AV.bool hc_28, congrArg AV.bool hc_29, trivial⟩ rfl ?_
            (try simp only [reduceCtorEq, AEx.ex.injEq, Nat.reduceEqDiff, if_true, if_false])
            exact ⟨_, _, Forgets.refl _ _ _, (decide ((IntKind.i64.wrap (r_17.1 + r_17.2.1)) > 720)), h, rfl, rfl⟩
     ·rintro a S ⟨y_19, h, rfl, rfl⟩
      subst hK_22
      rcases condI h with ⟨hc_30, h⟩ | ⟨hc_30, h⟩
      ·refine Ex.condT _ rfl hc_30 ?_
       refine Ex.seq (rg 1 [2] (mkS 193 [(2, .bool false)]) ⟨[[.int .u64 b_12], (C_City r_3.1)], []⟩ ?_)
       refine Ex.ret ?_
       obtain rfl := sJ h
       exact rt (.bool false)
      ·refine Ex.condF _ rfl hc_30 ?_
       refine Ex.skip ?_
       refine Ex.seq (rg 1 [3, 4, 5, 8, 9, 10, 11, 16] (mkS 193 [(3, .ptr 0 0), (4, .ptr 1 0), (5, .sl (r_4.1.map A_Band) none), (8, .sl (r_7.map A_Band) none), (9, i6 square_11), (10, i6 r_17.1), (11, i6 r_17.2.1), (16, i6 0)]) ⟨[[.int .u64 b_12], (C_City r_3.1)], []⟩ ?_)
       refine Ex.seq (rg 1 [3, 4, 5, 8, 9, 10, 11, 16, 17] (mkS 193 [(3, .ptr 0 0), (4, .ptr 1 0), (5, .sl (r_4.1.map A_Band) none), (8, .sl (r_7.map A_Band) none), (9, i6 square_11), (10, i6 r_17.1), (11, i6 r_17.2.1), (16, i6 0), (17, i6 0)]) ⟨[[.int .u64 b_12], (C_City r_3.1)], []⟩ ?_)
       obtain ⟨K_33, hK_34, h⟩ := letE h
       refine Ex.blockJ (fun a S => ∃ (b_31 : Int), K_33 b_31 = some r ∧ a = mkS 193 [(3, .ptr 0 0), (4, .ptr 1 0), (5, .sl (r_4.1.map A_Band) none), (8, .sl (r_7.map A_Band) none), (9, i6 square_11)] ∧ S = ⟨[[.int .u64 b_31], (C_City r_3.1)], []⟩) ?_ ?_
       ·obtain ⟨B_39, hB_40, h⟩ := loop3I h
        refine Ex.loopF (fun k a S => ∃ (run_35 : Int), ∃ (minute_36 : Int), ∃ (b_37 : Int), loop3 B_39 k run_35 minute_36 b_37 = some r ∧ a = mkS 193 [(3, .ptr 0 0), (4, .ptr 1 0), (5, .sl (r_4.1.map A_Band) none), (8, .sl (r_7.map A_Band) none), (9, i6 square_11), (10, i6 r_17.1), (11, i6 r_17.2.1), (16, i6 run_35), (17, i6 minute_36)] ∧ S = ⟨[[.int .u64 b_37], (C_City r_3.1)], []⟩) N ⟨_, _, Forgets.refl _ _ _, 0, 0, b_12, h, rfl, rfl⟩ ?_
        rintro k a S ⟨run_35, minute_36, b_37, h, rfl, rfl⟩
        cases k with
        | zero => exact (loop3Z h).elim
        | succ k =>
         replace h := loop3S h hB_40
         refine Ex.seq (Ex.seq ?_)
         refine rg 2 [3, 4, 5, 8, 9, 10, 11, 16, 17, 101] (mkS 193 [(3, .ptr 0 0), (4, .ptr 1 0), (5, .sl (r_4.1.map A_Band) none), (8, .sl (r_7.map A_Band) none), (9, i6 square_11), (10, i6 r_17.1), (11, i6 r_17.2.1), (16, i6 run_35), (17, i6 minute_36), (101, .bool (decide (minute_36 < 720)))]) ⟨[[.int .u64 b_37], (C_City r_3.1)], []⟩ ?_
         rcases condI h with ⟨hc_41, h⟩ | ⟨hc_41, h⟩
         ·refine Ex.condT _ rfl hc_41 ?_
          refine Ex.skip ?_
          refine Ex.seq ?_
          refine Ex.blockK ?_
          refine Ex.seq (rg 2 [3, 4, 5, 8, 9, 10, 11, 16, 17, 18, 19] (mkS 193 [(3, .ptr 0 0), (4, .ptr 1 0), (5, .sl (r_4.1.map A_Band) none), (8, .sl (r_7.map A_Band) none), (9, i6 square_11), (10, i6 r_17.1), (11, i6 r_17.2.1), (16, i6 run_35), (17, i6 minute_36), (18, .bool false), (19, .bool false)]) ⟨[[.int .u64 b_37], (C_City r_3.1)], []⟩ ?_)
          refine Ex.seq (Ex.seq ?_)
          refine rg 1 [3, 4, 5, 8, 9, 10, 11, 16, 17, 18, 19, 20] (mkS 193 [(3, .ptr 0 0), (4, .ptr 1 0), (5, .sl (r_4.1.map A_Band) none), (8, .sl (r_7.map A_Band) none), (9, i6 square_11), (10, i6 r_17.1), (11, i6 r_17.2.1), (16, i6 run_35), (17, i6 minute_36), (18, .bool false), (19, .bool false), (20, i6 0)]) ⟨[[.int .u64 b_37], (C_City r_3.1)], []⟩ ?_
          obtain ⟨K_46, hK_47, h⟩ := letE h
          refine Ex.blockJ (fun a S => ∃ (heard_42 : Bool), ∃ (there_43 : Bool), ∃ (b_44 : Int), K_46 heard_42 there_43 b_44 = some r ∧ a = mkS 193 [(3, .ptr 0 0), (4, .ptr 1 0), (5, .sl (r_4.1.map A_Band) none), (8, .sl (r_7.map A_Band) none), (9, i6 square_11), (10, i6 r_17.1), (11, i6 r_17.2.1), (16, i6 run_35), (17, i6 minute_36), (18, .bool heard_42), (19, .bool there_43)] ∧ S = ⟨[[.int .u64 b_44], (C_City r_3.1)], []⟩) ?_ ?_
          ·obtain ⟨B_53, hB_54, h⟩ := loop4I h
           refine Ex.loopF (fun k a S => ∃ (heard_48 : Bool), ∃ (there_49 : Bool), ∃ (i_50 : Int), ∃ (b_51 : Int), loop4 B_53 k heard_48 there_49 i_50 b_51 = some r ∧ a = mkS 193 [(3, .ptr 0 0), (4, .ptr 1 0), (5, .sl (r_4.1.map A_Band) none), (8, .sl (r_7.map A_Band) none), (9, i6 square_11), (10, i6 r_17.1), (11, i6 r_17.2.1), (16, i6 run_35), (17, i6 minute_36), (18, .bool heard_48), (19, .bool there_49), (20, i6 i_50)] ∧ S = ⟨[[.int .u64 b_51], (C_City r_3.1)], []⟩) N ⟨_, _, Forgets.refl _ _ _, false, false, 0, b_37, h, rfl, rfl⟩ ?_
           rintro k a S ⟨heard_48, there_49, i_50, b_51, h, rfl, rfl⟩
           cases k with
           | zero => exact (loop4Z h).elim
           | succ k =>
            replace h := loop4S h hB_54
            refine Ex.seq (Ex.seq ?_)
            refine regH 4 [(2, .eq (i6 ((r_4.1.length : Nat) : Int)))] [3, 4, 5, 8, 9, 10, 11, 16, 17, 18, 19, 20, 107] [AV.int .i64 (((r_4.1.map A_Band).length : Nat) : Int) = AV.int .i64 ((r_4.1.length : Nat) : Int)] (mkS 193 [(3, .ptr 0 0), (4, .ptr 1 0), (5, .sl (r_4.1.map A_Band) none), (8, .sl (r_7.map A_Band) none), (9, i6 square_11), (10, i6 r_17.1), (11, i6 r_17.2.1), (16, i6 run_35), (17, i6 minute_36), (18, .bool heard_48), (19, .bool there_49), (20, i6 i_50), (107, .bool (decide (i_50 < ((r_4.1.length : Nat) : Int))))]) (⟨[[.int .u64 b_51], (C_City r_3.1)], []⟩) (by kernel_rfl) ⟨lenM _ _, trivial⟩ rfl ?_
            rcases condI h with ⟨hc_55, h⟩ | ⟨hc_55, h⟩
            ·refine Ex.condT _ rfl hc_55 ?_
             refine Ex.skip ?_
             refine Ex.seq ?_
             obtain ⟨K_60, hK_61, h⟩ := letE h
             refine Ex.blockJ (fun a S => ∃ (heard_56 : Bool), ∃ (there_57 : Bool), ∃ (b_58 : Int), K_60 heard_56 there_57 b_58 = some r ∧ a = mkS 193 [(3, .ptr 0 0), (4, .ptr 1 0), (5, .sl (r_4.1.map A_Band) none), (8, .sl (r_7.map A_Band) none), (9, i6 square_11), (10, i6 r_17.1), (11, i6 r_17.2.1), (16, i6 run_35), (17, i6 minute_36), (18, .bool heard_56), (19, .bool there_57), (20, i6 i_50)] ∧ S = ⟨[[.int .u64 b_58], (C_City r_3.1)], []⟩) ?_ ?_
             ·refine Ex.seq ?_
              obtain ⟨x_62, hx_62, h⟩ := bE h
              obtain ⟨r_63, hr_63, h⟩ := bE h
              have hT_64 : DoesA Tryd.prog [⟨23, [(A_City r_3.1), (A_Band x_62), i6 minute_36], [], (v_band_Where r_63), []⟩] ∧ ConsA [⟨23, [(A_City r_3.1), (A_Band x_62), i6 minute_36], [], (v_band_Where r_63), []⟩] := ⟨⟨(d_band_Where N r_3.1 x_62 minute_36 r_63 hr_63), rfl, trivial⟩, ⟨trivial, trivial⟩⟩
              refine Ex.drawE (a1 := mkS 193 [(3, .ptr 0 0), (4, .ptr 1 0), (5, .sl (r_4.1.map A_Band) none), (8, .sl (r_7.map A_Band) none), (9, i6 square_11), (10, i6 r_17.1), (11, i6 r_17.2.1), (16, i6 run_35), (17, i6 minute_36), (18, .bool heard_48), (19, .bool there_49), (20, i6 i_50), (21, .sl (r_63.1.map (AV.int .i64)) none), (22, .bool r_63.2.1), (107, .bool (decide (i_50 < ((r_4.1.length : Nat) : Int)))), (110, .tup [.sl (r_63.1.map (AV.int .i64)) none, .bool r_63.2.1, i6 r_63.2.2]), (111, (A_City r_3.1)), (112, .sl (r_4.1.map A_Band) none), (113, i6 i_50), (114, .rop (C_Band x_62)), (115, (A_Band x_62)), (116, i6 minute_36), (117, .tup [.sl (r_63.1.map (AV.int .i64)) none, .bool r_63.2.1, i6 r_63.2.2]), (118, .sl (r_63.1.map (AV.int .i64)) none), (119, .bool r_63.2.1), (120, i6 r_63.2.2)]) (tabO_ok hT_64.1) [] [] [] ?_ ?_
              ·refine drS [0, 1] 6 [(3, .rop (C_Band x_62))] [LGet (r_4.1.map A_Band) i_50 6 (C_Band x_62)] (mkS 193 [(3, .ptr 0 0), (4, .ptr 1 0), (5, .sl (r_4.1.map A_Band) none), (8, .sl (r_7.map A_Band) none), (9, i6 square_11), (10, i6 r_17.1), (11, i6 r_17.2.1), (16, i6 run_35), (17, i6 minute_36), (18, .bool heard_48), (19, .bool there_49), (20, i6 i_50), (107, .bool (decide (i_50 < ((r_4.1.length : Nat) : Int)))), (111, (A_City r_3.1)), (112, .sl (r_4.1.map A_Band) none), (113, i6 i_50), (114, .rop (C_Band x_62)), (115, (A_Band x_62)), (116, i6 minute_36)]) (by simp) (by kernel_rfl) ⟨LGet.of hx_62 rfl, trivial⟩ (by kernel_rfl) ?_
               refine drC hT_64.2 0 _ [(A_City r_3.1), (A_Band x_62), i6 minute_36] (v_band_Where r_63) rfl rfl rfl rfl rfl (fun _ => rfl) rfl (by simp; try rfl) (fun _ => b_band_Where _ _ _ _) ?_
               refine drS [0, 1] 6 [] [] (mkS 193 [(3, .ptr 0 0), (4, .ptr 1 0), (5, .sl (r_4.1.map A_Band) none), (8, .sl (r_7.map A_Band) none), (9, i6 square_11), (10, i6 r_17.1), (11, i6 r_17.2.1), (16, i6 run_35), (17, i6 minute_36), (18, .bool heard_48), (19, .bool there_49), (20, i6 i_50), (21, .sl (r_63.1.map (AV.int .i64)) none), (22, .bool r_63.2.1), (107, .bool (decide (i_50 < ((r_4.1.length : Nat) : Int)))), (110, .tup [.sl (r_63.1.map (AV.int .i64)) none, .bool r_63.2.1, i6 r_63.2.2]), (111, (A_City r_3.1)), (112, .sl (r_4.1.map A_Band) none), (113, i6 i_50), (114, .rop (C_Band x_62)), (115, (A_Band x_62)), (116, i6 minute_36), (117, .tup [.sl (r_63.1.map (AV.int .i64)) none, .bool r_63.2.1, i6 r_63.2.2]), (118, .sl (r_63.1.map (AV.int .i64)) none), (119, .bool r_63.2.1), (120, i6 r_63.2.2)]) (by simp) (by kernel_rfl) trivial (by kernel_rfl) ?_
               exact DrO.nil rfl
              ·dsimp only [List.getLastD_cons, List.getLastD_nil]
               refine rn 1 [3, 4, 5, 8, 9, 10, 11, 16, 17, 18, 19, 20, 21, 23] (mkS 193 [(3, .ptr 0 0), (4, .ptr 1 0), (5, .sl (r_4.1.map A_Band) none), (8, .sl (r_7.map A_Band) none), (9, i6 square_11), (10, i6 r_17.1), (11, i6 r_17.2.1), (16, i6 run_35), (17, i6 minute_36), (18, .bool heard_48), (19, .bool there_49), (20, i6 i_50), (21, .sl (r_63.1.map (AV.int .i64)) none), (23, i6 r_63.2.2)]) ⟨[[.int .u64 b_51], (C_City r_3.1)], []⟩ ?_
               refine ExO.nil ?_
               obtain ⟨K_67, hK_68, h⟩ := letE h
               refine Ex.seqJ (fun a S => ∃ (heard_65 : Bool), K_67 heard_65 = some r ∧ a = mkS 193 [(3, .ptr 0 0), (4, .ptr 1 0), (5, .sl (r_4.1.map A_Band) none), (8, .sl (r_7.map A_Band) none), (9, i6 square_11), (10, i6 r_17.1), (11, i6 r_17.2.1), (16, i6 run_35), (17, i6 minute_36), (18, .bool heard_65), (19, .bool there_49), (20, i6 i_50)] ∧ S = ⟨[[.int .u64 b_51], (C_City r_3.1)], []⟩) ?_ ?_
               ·rcases condI h with ⟨hc_69, h⟩ | ⟨hc_69, h⟩
                ·refine regH 11 [(1, .eq (.bool true))] [3, 4, 5, 8, 9, 10, 11, 16, 17, 18, 19, 20] [AV.bool heard_48 = AV.bool true] (mkS 193 [(3, .ptr 0 0), (4, .ptr 1 0), (5, .sl (r_4.1.map A_Band) none), (8, .sl (r_7.map A_Band) none), (9, i6 square_11), (10, i6 r_17.1), (11, i6 r_17.2.1), (16, i6 run_35), (17, i6 minute_36), (18, .bool true), (19, .bool there_49), (20, i6 i_50)]) (⟨[[.int .u64 b_51], (C_City r_3.1)], []⟩) (by kernel_rfl) ⟨congrArg AV.bool hc_69, trivial⟩ rfl ?_
                 (try simp only [reduceCtorEq, AEx.ex.injEq, Nat.reduceEqDiff, if_true, if_false])
                 exact ⟨_, _, Forgets.refl _ _ _, true, h, rfl, rfl⟩
                ·rcases condI h with ⟨hc_70, h⟩ | ⟨hc_70, h⟩
                 ·refine regH 11 [(1, .eq (.bool false)), (5, .eq (.bool true))] [3, 4, 5, 8, 9, 10, 11, 16, 17, 18, 19, 20] [AV.bool heard_48 = AV.bool false, AV.bool (r_63.2.2 != 0) = AV.bool true] (mkS 193 [(3, .ptr 0 0), (4, .ptr 1 0), (5, .sl (r_4.1.map A_Band) none), (8, .sl (r_7.map A_Band) none), (9, i6 square_11), (10, i6 r_17.1), (11, i6 r_17.2.1), (16, i6 run_35), (17, i6 minute_36), (18, .bool true), (19, .bool there_49), (20, i6 i_50)]) (⟨[[.int .u64 b_51], (C_City r_3.1)], []⟩) (by kernel_rfl) ⟨congrArg AV.bool hc_69, congrArg AV.bool hc_70, trivial⟩ rfl ?_
                  (try simp only [reduceCtorEq, AEx.ex.injEq, Nat.reduceEqDiff, if_true, if_false])
                  exact ⟨_, _, Forgets.refl _ _ _, true, h, rfl, rfl⟩
                 ·obtain ⟨r_71, hr_71, h⟩ := bE h
                  refine Ex.reg ?_
                  refine runH 8 [(1, .eq (.bool false)), (5, .eq (.bool false))] [3, 4, 5, 8, 9, 10, 11, 16, 17, 19, 20, 126, 127, 128] [AV.bool heard_48 = AV.bool false, AV.bool (r_63.2.2 != 0) = AV.bool false] (mkS 193 [(3, .ptr 0 0), (4, .ptr 1 0), (5, .sl (r_4.1.map A_Band) none), (8, .sl (r_7.map A_Band) none), (9, i6 square_11), (10, i6 r_17.1), (11, i6 r_17.2.1), (16, i6 run_35), (17, i6 minute_36), (19, .bool there_49), (20, i6 i_50), (126, .bool false), (127, .sl (r_63.1.map (AV.int .i64)) none), (128, i6 square_11)]) (⟨[[.int .u64 b_51], (C_City r_3.1)], []⟩) (by kernel_rfl) ⟨congrArg AV.bool hc_69, congrArg AV.bool hc_70, trivial⟩ ?_
                  refine ExO.callL [] [.sl (r_63.1.map (AV.int .i64)) none, i6 square_11] rfl rfl (a_bk_Has r_63.1 square_11) rfl rfl (d_bk_Has N r_63.1 square_11 r_71 hr_71) (b_bk_Has _ _ _ _) rfl ?_
                  refine rn 2 [3, 4, 5, 8, 9, 10, 11, 16, 17, 18, 19, 20] (mkS 193 [(3, .ptr 0 0), (4, .ptr 1 0), (5, .sl (r_4.1.map A_Band) none), (8, .sl (r_7.map A_Band) none), (9, i6 square_11), (10, i6 r_17.1), (11, i6 r_17.2.1), (16, i6 run_35), (17, i6 minute_36), (18, .bool r_71), (19, .bool there_49), (20, i6 i_50)]) ⟨[[.int .u64 b_51], (C_City r_3.1)], []⟩ ?_
                  refine ExO.nil ?_
                  (try simp only [reduceCtorEq, AEx.ex.injEq, Nat.reduceEqDiff, if_true, if_false])
                  exact ⟨_, _, Forgets.refl _ _ _, r_71, h, rfl, rfl⟩
               ·rintro a S ⟨heard_65, h, rfl, rfl⟩
                subst hK_68
                rcases condI h with ⟨hc_72, h⟩ | ⟨hc_72, h⟩
                ·refine dregX (noClr_ok _) [(1, .eq (.bool true))] [] [3, 4, 5, 8, 9, 10, 11, 16, 17, 18, 19, 20] [AV.bool there_49 = AV.bool true] [] (mkS 193 [(3, .ptr 0 0), (4, .ptr 1 0), (5, .sl (r_4.1.map A_Band) none), (8, .sl (r_7.map A_Band) none), (9, i6 square_11), (10, i6 r_17.1), (11, i6 r_17.2.1), (16, i6 run_35), (17, i6 minute_36), (18, .bool heard_65), (19, .bool there_49), (20, i6 i_50), (131, .bool there_49), (132, .bool true), (133, .tup []), (134, .tup []), (135, .tup []), (136, .tup []), (137, .tup []), (138, .tup []), (139, .tup []), (140, .tup []), (141, .tup []), (142, .tup []), (143, .tup []), (144, .tup []), (145, .tup []), (146, .tup []), (147, .tup [])]) (mkS 193 [(3, .ptr 0 0), (4, .ptr 1 0), (5, .sl (r_4.1.map A_Band) none), (8, .sl (r_7.map A_Band) none), (9, i6 square_11), (10, i6 r_17.1), (11, i6 r_17.2.1), (16, i6 run_35), (17, i6 minute_36), (18, .bool heard_65), (19, .bool true), (20, i6 i_50)]) (by kernel_rfl) (by kernel_rfl) ⟨congrArg AV.bool hc_72, trivial⟩ (by kernel_rfl) trivial ?_
                 (try simp only [reduceCtorEq, AEx.ex.injEq, Nat.reduceEqDiff, if_true, if_false])
                 exact ⟨_, _, Forgets.refl _ _ _, heard_65, true, b_51, h, rfl, rfl⟩
                ·obtain ⟨x_73, hx_73, h⟩ := bE h
                 obtain ⟨x_74, hx_74, h⟩ := bE h
                 obtain ⟨r_75, hr_75, h⟩ := bE h
                 obtain ⟨r_76, hr_76, h⟩ := bE h
                 have hT_77 : DoesA Tryd.prog [⟨42, [.ptr 0 0, (A_Span x_74.Start)], [[.int .u64 b_51]], (v_bk_Drum_Of r_75), [(C_bk_Drum r_75.2)]⟩, ⟨43, [(A_City r_3.1), (A_Band x_73), i6 r_75.1, i6 minute_36], [], (v_br7_At r_76), []⟩] ∧ ConsA [⟨42, [.ptr 0 0, (A_Span x_74.Start)], [[.int .u64 b_51]], (v_bk_Drum_Of r_75), [(C_bk_Drum r_75.2)]⟩, ⟨43, [(A_City r_3.1), (A_Band x_73), i6 r_75.1, i6 minute_36], [], (v_br7_At r_76), []⟩] := ⟨⟨(d_bk_Drum_Of N (⟨b_51⟩ : T_bk_Drum) x_74.Start r_75 hr_75), rfl, (d_br7_At N r_3.1 x_73 r_75.1 minute_36 r_76 hr_76), rfl, trivial⟩, ⟨⟨ConsR.ne rfl, trivial⟩, trivial, trivial⟩⟩
                 refine Ex.drawE (a1 := mkS 193 [(3, .ptr 0 0), (4, .ptr 1 0), (5, .sl (r_4.1.map A_Band) none), (8, .sl (r_7.map A_Band) none), (9, i6 square_11), (10, i6 r_17.1), (11, i6 r_17.2.1), (16, i6 run_35), (17, i6 minute_36), (18, .bool heard_65), (19, .bool there_49), (20, i6 i_50), (131, .bool there_49), (132, .bool false), (133, (A_City r_3.1)), (134, .sl (r_4.1.map A_Band) none), (135, i6 i_50), (136, .rop (C_Band x_73)), (137, (A_Band x_73)), (138, .ptr 0 0), (139, .sl (r_4.1.map A_Band) none), (140, i6 i_50), (141, .rop (C_Band x_74)), (142, .rop [i6 x_74.Start.Lo, i6 x_74.Start.Hi, i6 x_74.Stay, i6 x_74.People]), (143, (A_Span x_74.Start)), (144, i6 r_75.1), (145, i6 minute_36), (146, i6 r_76), (147, i6 square_11)]) (tabO_ok hT_77.1) [] [] [⟨[(C_bk_Drum r_75.2), (C_City r_3.1)], []⟩] ?_ ?_
                 ·refine drS [1] 13 [(1, .eq (.bool false)), (5, .rop (C_Band x_73)), (10, .rop (C_Band x_74))] [AV.bool there_49 = AV.bool false, LGet (r_4.1.map A_Band) i_50 6 (C_Band x_73), LGet (r_4.1.map A_Band) i_50 6 (C_Band x_74)] (mkS 193 [(3, .ptr 0 0), (4, .ptr 1 0), (5, .sl (r_4.1.map A_Band) none), (8, .sl (r_7.map A_Band) none), (9, i6 square_11), (10, i6 r_17.1), (11, i6 r_17.2.1), (16, i6 run_35), (17, i6 minute_36), (18, .bool heard_65), (19, .bool there_49), (20, i6 i_50), (131, .bool there_49), (132, .bool false), (133, (A_City r_3.1)), (134, .sl (r_4.1.map A_Band) none), (135, i6 i_50), (136, .rop (C_Band x_73)), (137, (A_Band x_73)), (138, .ptr 0 0), (139, .sl (r_4.1.map A_Band) none), (140, i6 i_50), (141, .rop (C_Band x_74)), (142, .rop [i6 x_74.Start.Lo, i6 x_74.Start.Hi, i6 x_74.Stay, i6 x_74.People]), (143, (A_Span x_74.Start))]) (by simp) (by kernel_rfl) ⟨congrArg AV.bool hc_72, LGet.of hx_73 rfl, LGet.of hx_74 rfl, trivial⟩ (by kernel_rfl) ?_
                  refine drB hT_77.2 0 _ [0] [.ptr 0 0, (A_Span x_74.Start)] (v_bk_Drum_Of r_75) _ _ rfl rfl rfl rfl rfl rfl rfl rfl (by simp; try rfl) rfl (by simp) (b_bk_Drum_Of _ _ _ _) (by simp) rfl ?_
                  refine drS [1] 1 [] [] (mkS 193 [(3, .ptr 0 0), (4, .ptr 1 0), (5, .sl (r_4.1.map A_Band) none), (8, .sl (r_7.map A_Band) none), (9, i6 square_11), (10, i6 r_17.1), (11, i6 r_17.2.1), (16, i6 run_35), (17, i6 minute_36), (18, .bool heard_65), (19, .bool there_49), (20, i6 i_50), (131, .bool there_49), (132, .bool false), (133, (A_City r_3.1)), (134, .sl (r_4.1.map A_Band) none), (135, i6 i_50), (136, .rop (C_Band x_73)), (137, (A_Band x_73)), (138, .ptr 0 0), (139, .sl (r_4.1.map A_Band) none), (140, i6 i_50), (141, .rop (C_Band x_74)), (142, .rop [i6 x_74.Start.Lo, i6 x_74.Start.Hi, i6 x_74.Stay, i6 x_74.People]), (143, (A_Span x_74.Start)), (144, i6 r_75.1), (145, i6 minute_36)]) (by simp) (by kernel_rfl) trivial (by kernel_rfl) ?_
                  refine drC hT_77.2 1 _ [(A_City r_3.1), (A_Band x_73), i6 r_75.1, i6 minute_36] (v_br7_At r_76) rfl rfl rfl rfl rfl (fun _ => rfl) rfl (by simp; try rfl) (fun _ => b_br7_At _ _ _ _) ?_
                  refine drS [1] 1 [] [] (mkS 193 [(3, .ptr 0 0), (4, .ptr 1 0), (5, .sl (r_4.1.map A_Band) none), (8, .sl (r_7.map A_Band) none), (9, i6 square_11), (10, i6 r_17.1), (11, i6 r_17.2.1), (16, i6 run_35), (17, i6 minute_36), (18, .bool heard_65), (19, .bool there_49), (20, i6 i_50), (131, .bool there_49), (132, .bool false), (133, (A_City r_3.1)), (134, .sl (r_4.1.map A_Band) none), (135, i6 i_50), (136, .rop (C_Band x_73)), (137, (A_Band x_73)), (138, .ptr 0 0), (139, .sl (r_4.1.map A_Band) none), (140, i6 i_50), (141, .rop (C_Band x_74)), (142, .rop [i6 x_74.Start.Lo, i6 x_74.Start.Hi, i6 x_74.Stay, i6 x_74.People]), (143, (A_Span x_74.Start)), (144, i6 r_75.1), (145, i6 minute_36), (146, i6 r_76), (147, i6 square_11)]) (by simp) (by kernel_rfl) trivial (by kernel_rfl) ?_
                  exact DrO.nil rfl
                 ·dsimp only [List.getLastD_cons, List.getLastD_nil]
                  refine rn 3 [3, 4, 5, 8, 9, 10, 11, 16, 17, 18, 19, 20] (mkS 193 [(3, .ptr 0 0), (4, .ptr 1 0), (5, .sl (r_4.1.map A_Band) none), (8, .sl (r_7.map A_Band) none), (9, i6 square_11), (10, i6 r_17.1), (11, i6 r_17.2.1), (16, i6 run_35), (17, i6 minute_36), (18, .bool heard_65), (19, .bool (r_76 == square_11)), (20, i6 i_50)]) ⟨[(C_bk_Drum r_75.2), (C_City r_3.1)], []⟩ ?_
                  refine ExO.nil ?_
                  (try simp only [reduceCtorEq, AEx.ex.injEq, Nat.reduceEqDiff, if_true, if_false])
                  exact ⟨_, _, Forgets.refl _ _ _, heard_65, (r_76 == square_11), r_75.2.beat_, h, rfl, rfl⟩
             ·rintro a S ⟨heard_56, there_57, b_58, h, rfl, rfl⟩
              subst hK_61
              refine rg 3 [3, 4, 5, 8, 9, 10, 11, 16, 17, 18, 19, 20] (mkS 193 [(3, .ptr 0 0), (4, .ptr 1 0), (5, .sl (r_4.1.map A_Band) none), (8, .sl (r_7.map A_Band) none), (9, i6 square_11), (10, i6 r_17.1), (11, i6 r_17.2.1), (16, i6 run_35), (17, i6 minute_36), (18, .bool heard_56), (19, .bool there_57), (20, i6 (IntKind.i64.wrap (i_50 + 1)))]) ⟨[[.int .u64 b_58], (C_City r_3.1)], []⟩ ?_
              dsimp only
              exact ⟨_, _, Forgets.refl _ _ _, k, Nat.lt_succ_self k, heard_56, there_57, (IntKind.i64.wrap (i_50 + 1)), b_58, h, rfl, rfl⟩
            ·refine Ex.condF _ rfl hc_55 ?_
             refine Ex.exit ?_
             (try simp only [reduceCtorEq, AEx.ex.injEq, Nat.reduceEqDiff, if_true, if_false])
             exact ⟨_, _, forgetK [3, 4, 5, 8, 9, 10, 11, 16, 17, 18, 19], heard_48, there_49, b_51, h, rfl, rfl⟩
          ·rintro a S ⟨heard_42, there_43, b_44, h, rfl, rfl⟩
           subst hK_47
           refine Ex.seq (rg 3 [3, 4, 5, 8, 9, 10, 11, 16, 17, 18, 19] (mkS 193 [(3, .ptr 0 0), (4, .ptr 1 0), (5, .sl (r_4.1.map A_Band) none), (8, .sl (r_7.map A_Band) none), (9, i6 square_11), (10, i6 r_17.1), (11, i6 r_17.2.1), (16, i6 (IntKind.i64.wrap (run_35 + 1))), (17, i6 minute_36), (18, .bool heard_42), (19, .bool there_43)]) ⟨[[.int .u64 b_44], (C_City r_3.1)], []⟩ ?_)
           obtain ⟨K_80, hK_81, h⟩ := letE h
           refine Ex.seqJ (fun a S => ∃ (run_78 : Int), K_80 run_78 = some r ∧ a = mkS 193 [(3, .ptr 0 0), (4, .ptr 1 0), (5, .sl (r_4.1.map A_Band) none), (8, .sl (r_7.map A_Band) none), (9, i6 square_11), (10, i6 r_17.1), (11, i6 r_17.2.1), (16, i6 run_78), (17, i6 minute_36), (18, .bool heard_42), (19, .bool there_43)] ∧ S = ⟨[[.int .u64 b_44], (C_City r_3.1)], []⟩) ?_ ?_
           ·refine Ex.seq (rg 1 [3, 4, 5, 8, 9, 10, 11, 16, 17, 18, 19, 152] (mkS 193 [(3, .ptr 0 0), (4, .ptr 1 0), (5, .sl (r_4.1.map A_Band) none), (8, .sl (r_7.map A_Band) none), (9, i6 square_11), (10, i6 r_17.1), (11, i6 r_17.2.1), (16, i6 (IntKind.i64.wrap (run_35 + 1))), (17, i6 minute_36), (18, .bool heard_42), (19, .bool there_43), (152, .bool heard_42)]) ⟨[[.int .u64 b_44], (C_City r_3.1)], []⟩ ?_)
            rcases condI h with ⟨hc_82, h⟩ | ⟨hc_82, h⟩
            ·refine Ex.condT _ rfl hc_82 ?_
             refine rg 1 [3, 4, 5, 8, 9, 10, 11, 16, 17, 18, 19] (mkS 193 [(3, .ptr 0 0), (4, .ptr 1 0), (5, .sl (r_4.1.map A_Band) none), (8, .sl (r_7.map A_Band) none), (9, i6 square_11), (10, i6 r_17.1), (11, i6 r_17.2.1), (16, i6 0), (17, i6 minute_36), (18, .bool heard_42), (19, .bool there_43)]) ⟨[[.int .u64 b_44], (C_City r_3.1)], []⟩ ?_
             (try simp only [reduceCtorEq, AEx.ex.injEq, Nat.reduceEqDiff, if_true, if_false])
             exact ⟨_, _, Forgets.refl _ _ _, 0, h, rfl, rfl⟩
            ·refine Ex.condF _ rfl hc_82 ?_
             refine Ex.skip ?_
             (try simp only [reduceCtorEq, AEx.ex.injEq, Nat.reduceEqDiff, if_true, if_false])
             exact ⟨_, _, forgetK [3, 4, 5, 8, 9, 10, 11, 16, 17, 18, 19], (IntKind.i64.wrap (run_35 + 1)), h, rfl, rfl⟩
           ·rintro a S ⟨run_78, h, rfl, rfl⟩
            subst hK_81
            obtain ⟨K_85, hK_86, h⟩ := letE h
            refine Ex.seqJ (fun a S => ∃ (in_83 : Bool), K_85 in_83 = some r ∧ a = mkS 193 [(3, .ptr 0 0), (4, .ptr 1 0), (5, .sl (r_4.1.map A_Band) none), (8, .sl (r_7.map A_Band) none), (9, i6 square_11), (10, i6 r_17.1), (11, i6 r_17.2.1), (16, i6 run_78), (17, i6 minute_36), (18, .bool heard_42), (19, .bool there_43), (24, .bool in_83)] ∧ S = ⟨[[.int .u64 b_44], (C_City r_3.1)], []⟩) ?_ ?_
            ·rcases condI h with ⟨hc_87, h⟩ | ⟨hc_87, h⟩
             ·refine regH 11 [(3, .eq (.bool true))] [3, 4, 5, 8, 9, 10, 11, 16, 17, 18, 19, 24] [AV.bool (decide (r_17.1 ≤ minute_36)) = AV.bool true] (mkS 193 [(3, .ptr 0 0), (4, .ptr 1 0), (5, .sl (r_4.1.map A_Band) none), (8, .sl (r_7.map A_Band) none), (9, i6 square_11), (10, i6 r_17.1), (11, i6 r_17.2.1), (16, i6 run_78), (17, i6 minute_36), (18, .bool heard_42), (19, .bool there_43), (24, .bool (decide (minute_36 < (IntKind.i64.wrap (r_17.1 + r_17.2.1)))))]) (⟨[[.int .u64 b_44], (C_City r_3.1)], []⟩) (by kernel_rfl) ⟨congrArg AV.bool hc_87, trivial⟩ rfl ?_
              (try simp only [reduceCtorEq, AEx.ex.injEq, Nat.reduceEqDiff, if_true, if_false])
              exact ⟨_, _, Forgets.refl _ _ _, (decide (minute_36 < (IntKind.i64.wrap (r_17.1 + r_17.2.1)))), h, rfl, rfl⟩
             ·refine regH 11 [(3, .eq (.bool false))] [3, 4, 5, 8, 9, 10, 11, 16, 17, 18, 19, 24] [AV.bool (decide (r_17.1 ≤ minute_36)) = AV.bool false] (mkS 193 [(3, .ptr 0 0), (4, .ptr 1 0), (5, .sl (r_4.1.map A_Band) none), (8, .sl (r_7.map A_Band) none), (9, i6 square_11), (10, i6 r_17.1), (11, i6 r_17.2.1), (16, i6 run_78), (17, i6 minute_36), (18, .bool heard_42), (19, .bool there_43), (24, .bool false)]) (⟨[[.int .u64 b_44], (C_City r_3.1)], []⟩) (by kernel_rfl) ⟨congrArg AV.bool hc_87, trivial⟩ rfl ?_
              (try simp only [reduceCtorEq, AEx.ex.injEq, Nat.reduceEqDiff, if_true, if_false])
              exact ⟨_, _, Forgets.refl _ _ _, false, h, rfl, rfl⟩
            ·rintro a S ⟨in_83, h, rfl, rfl⟩
             subst hK_86
             obtain ⟨K_90, hK_91, h⟩ := letE h
             refine Ex.seqJ (fun a S => ∃ (y_88 : Bool), K_90 y_88 = some r ∧ a = mkS 193 [(3, .ptr 0 0), (4, .ptr 1 0), (5, .sl (r_4.1.map A_Band) none), (8, .sl (r_7.map A_Band) none), (9, i6 square_11), (10, i6 r_17.1), (11, i6 r_17.2.1), (16, i6 run_78), (17, i6 minute_36), (191, .bool y_88)] ∧ S = ⟨[[.int .u64 b_44], (C_City r_3.1)], []⟩) ?_ ?_
             ·rcases condI h with ⟨hc_92, h⟩ | ⟨hc_92, h⟩
              ·rcases condI h with ⟨hc_93, h⟩ | ⟨hc_93, h⟩
               ·refine regH 29 [(1, .eq (.bool true)), (3, .eq (.bool true))] [3, 4, 5, 8, 9, 10, 11, 16, 17, 191] [AV.bool in_83 = AV.bool true, AV.bool heard_42 = AV.bool true] (mkS 193 [(3, .ptr 0 0), (4, .ptr 1 0), (5, .sl (r_4.1.map A_Band) none), (8, .sl (r_7.map A_Band) none), (9, i6 square_11), (10, i6 r_17.1), (11, i6 r_17.2.1), (16, i6 run_78), (17, i6 minute_36), (191, .bool true)]) (⟨[[.int .u64 b_44], (C_City r_3.1)], []⟩) (by kernel_rfl) ⟨congrArg AV.bool hc_92, congrArg AV.bool hc_93, trivial⟩ rfl ?_
                (try simp only [reduceCtorEq, AEx.ex.injEq, Nat.reduceEqDiff, if_true, if_false])
                exact ⟨_, _, Forgets.refl _ _ _, true, h, rfl, rfl⟩
               ·rcases condI h with ⟨hc_94, h⟩ | ⟨hc_94, h⟩
                ·refine regH 29 [(1, .eq (.bool true)), (3, .eq (.bool false)), (7, .eq (.bool true))] [3, 4, 5, 8, 9, 10, 11, 16, 17, 191] [AV.bool in_83 = AV.bool true, AV.bool heard_42 = AV.bool false, AV.bool there_43 = AV.bool true] (mkS 193 [(3, .ptr 0 0), (4, .ptr 1 0), (5, .sl (r_4.1.map A_Band) none), (8, .sl (r_7.map A_Band) none), (9, i6 square_11), (10, i6 r_17.1), (11, i6 r_17.2.1), (16, i6 run_78), (17, i6 minute_36), (191, .bool true)]) (⟨[[.int .u64 b_44], (C_City r_3.1)], []⟩) (by kernel_rfl) ⟨congrArg AV.bool hc_92, congrArg AV.bool hc_93, congrArg AV.bool hc_94, trivial⟩ rfl ?_
                 (try simp only [reduceCtorEq, AEx.ex.injEq, Nat.reduceEqDiff, if_true, if_false])
                 exact ⟨_, _, Forgets.refl _ _ _, true, h, rfl, rfl⟩
                ·rcases condI h with ⟨hc_95, h⟩ | ⟨hc_95, h⟩
                 ·refine regH 29 [(1, .eq (.bool true)), (3, .eq (.bool false)), (7, .eq (.bool false)), (12, .eq (.bool true))] [3, 4, 5, 8, 9, 10, 11, 16, 17, 191] [AV.bool in_83 = AV.bool true, AV.bool heard_42 = AV.bool false, AV.bool there_43 = AV.bool false, AV.bool (decide (run_78 > r_17.2.1)) = AV.bool true] (mkS 193 [(3, .ptr 0 0), (4, .ptr 1 0), (5, .sl (r_4.1.map A_Band) none), (8, .sl (r_7.map A_Band) none), (9, i6 square_11), (10, i6 r_17.1), (11, i6 r_17.2.1), (16, i6 run_78), (17, i6 minute_36), (191, .bool true)]) (⟨[[.int .u64 b_44], (C_City r_3.1)], []⟩) (by kernel_rfl) ⟨congrArg AV.bool hc_92, congrArg AV.bool hc_93, congrArg AV.bool hc_94, congrArg AV.bool hc_95, trivial⟩ rfl ?_
                  (try simp only [reduceCtorEq, AEx.ex.injEq, Nat.reduceEqDiff, if_true, if_false])
                  exact ⟨_, _, Forgets.refl _ _ _, true, h, rfl, rfl⟩
                 ·rcases condI h with ⟨hc_96, h⟩ | ⟨hc_96, h⟩
                  ·rcases condI h with ⟨hc_97, h⟩ | ⟨hc_97, h⟩
                   ·refine regH 29 [(1, .eq (.bool true)), (3, .eq (.bool false)), (7, .eq (.bool false)), (12, .eq (.bool false)), (16, .eq (.bool true)), (20, .eq (.bool true))] [3, 4, 5, 8, 9, 10, 11, 16, 17, 191] [AV.bool in_83 = AV.bool true, AV.bool heard_42 = AV.bool false, AV.bool there_43 = AV.bool false, AV.bool (decide (run_78 > r_17.2.1)) = AV.bool false, AV.bool (run_78 == r_17.2.1) = AV.bool true, AV.bool (decide (r_17.2.1 > 0)) = AV.bool true] (mkS 193 [(3, .ptr 0 0), (4, .ptr 1 0), (5, .sl (r_4.1.map A_Band) none), (8, .sl (r_7.map A_Band) none), (9, i6 square_11), (10, i6 r_17.1), (11, i6 r_17.2.1), (16, i6 run_78), (17, i6 minute_36), (191, .bool (decide (minute_36 < (IntKind.i64.wrap ((IntKind.i64.wrap (r_17.1 + r_17.2.1)) - 1)))))]) (⟨[[.int .u64 b_44], (C_City r_3.1)], []⟩) (by kernel_rfl) ⟨congrArg AV.bool hc_92, congrArg AV.bool hc_93, congrArg AV.bool hc_94, congrArg AV.bool hc_95, congrArg AV.bool hc_96, congrArg AV.bool hc_97, trivial⟩ rfl ?_
                    (try simp only [reduceCtorEq, AEx.ex.injEq, Nat.reduceEqDiff, if_true, if_false])
                    exact ⟨_, _, Forgets.refl _ _ _, (decide (minute_36 < (IntKind.i64.wrap ((IntKind.i64.wrap (r_17.1 + r_17.2.1)) - 1)))), h, rfl, rfl⟩
                   ·refine regH 29 [(1, .eq (.bool true)), (3, .eq (.bool false)), (7, .eq (.bool false)), (12, .eq (.bool false)), (16, .eq (.bool true)), (20, .eq (.bool false))] [3, 4, 5, 8, 9, 10, 11, 16, 17, 191] [AV.bool in_83 = AV.bool true, AV.bool heard_42 = AV.bool false, AV.bool there_43 = AV.bool false, AV.bool (decide (run_78 > r_17.2.1)) = AV.bool false, AV.bool (run_78 == r_17.2.1) = AV.bool true, AV.bool (decide (r_17.2.1 > 0)) = AV.bool false] (mkS 193 [(3, .ptr 0 0), (4, .ptr 1 0), (5, .sl (r_4.1.map A_Band) none), (8, .sl (r_7.map A_Band) none), (9, i6 square_11), (10, i6 r_17.1), (11, i6 r_17.2.1), (16, i6 run_78), (17, i6 minute_36), (191, .bool false)]) (⟨[[.int .u64 b_44], (C_City r_3.1)], []⟩) (by kernel_rfl) ⟨congrArg AV.bool hc_92, congrArg AV.bool hc_93, congrArg AV.bool hc_94, congrArg AV.bool hc_95, congrArg AV.bool hc_96, congrArg AV.bool hc_97, trivial⟩ rfl ?_
                    (try simp only [reduceCtorEq, AEx.ex.injEq, Nat.reduceEqDiff, if_true, if_false])
                    exact ⟨_, _, Forgets.refl _ _ _, false, h, rfl, rfl⟩
                  ·refine regH 29 [(1, .eq (.bool true)), (3, .eq (.bool false)), (7, .eq (.bool false)), (12, .eq (.bool false)), (16, .eq (.bool false))] [3, 4, 5, 8, 9, 10, 11, 16, 17, 191] [AV.bool in_83 = AV.bool true, AV.bool heard_42 = AV.bool false, AV.bool there_43 = AV.bool false, AV.bool (decide (run_78 > r_17.2.1)) = AV.bool false, AV.bool (run_78 == r_17.2.1) = AV.bool false] (mkS 193 [(3, .ptr 0 0), (4, .ptr 1 0), (5, .sl (r_4.1.map A_Band) none), (8, .sl (r_7.map A_Band) none), (9, i6 square_11), (10, i6 r_17.1), (11, i6 r_17.2.1), (16, i6 run_78), (17, i6 minute_36), (191, .bool false)]) (⟨[[.int .u64 b_44], (C_City r_3.1)], []⟩) (by kernel_rfl) ⟨congrArg AV.bool hc_92, congrArg AV.bool hc_93, congrArg AV.bool hc_94, congrArg AV.bool hc_95, congrArg AV.bool hc_96, trivial⟩ rfl ?_
                   (try simp only [reduceCtorEq, AEx.ex.injEq, Nat.reduceEqDiff, if_true, if_false])
                   exact ⟨_, _, Forgets.refl _ _ _, false, h, rfl, rfl⟩
              ·rcases condI h with ⟨hc_98, h⟩ | ⟨hc_98, h⟩
               ·refine regH 29 [(1, .eq (.bool false)), (12, .eq (.bool true))] [3, 4, 5, 8, 9, 10, 11, 16, 17, 191] [AV.bool in_83 = AV.bool false, AV.bool (decide (run_78 > r_17.2.1)) = AV.bool true] (mkS 193 [(3, .ptr 0 0), (4, .ptr 1 0), (5, .sl (r_4.1.map A_Band) none), (8, .sl (r_7.map A_Band) none), (9, i6 square_11), (10, i6 r_17.1), (11, i6 r_17.2.1), (16, i6 run_78), (17, i6 minute_36), (191, .bool true)]) (⟨[[.int .u64 b_44], (C_City r_3.1)], []⟩) (by kernel_rfl) ⟨congrArg AV.bool hc_92, congrArg AV.bool hc_98, trivial⟩ rfl ?_
                (try simp only [reduceCtorEq, AEx.ex.injEq, Nat.reduceEqDiff, if_true, if_false])
                exact ⟨_, _, Forgets.refl _ _ _, true, h, rfl, rfl⟩
               ·rcases condI h with ⟨hc_99, h⟩ | ⟨hc_99, h⟩
                ·rcases condI h with ⟨hc_100, h⟩ | ⟨hc_100, h⟩
                 ·refine regH 29 [(1, .eq (.bool false)), (12, .eq (.bool false)), (16, .eq (.bool true)), (20, .eq (.bool true))] [3, 4, 5, 8, 9, 10, 11, 16, 17, 191] [AV.bool in_83 = AV.bool false, AV.bool (decide (run_78 > r_17.2.1)) = AV.bool false, AV.bool (run_78 == r_17.2.1) = AV.bool true, AV.bool (decide (r_17.2.1 > 0)) = AV.bool true] (mkS 193 [(3, .ptr 0 0), (4, .ptr 1 0), (5, .sl (r_4.1.map A_Band) none), (8, .sl (r_7.map A_Band) none), (9, i6 square_11), (10, i6 r_17.1), (11, i6 r_17.2.1), (16, i6 run_78), (17, i6 minute_36), (191, .bool (decide (minute_36 < (IntKind.i64.wrap ((IntKind.i64.wrap (r_17.1 + r_17.2.1)) - 1)))))]) (⟨[[.int .u64 b_44], (C_City r_3.1)], []⟩) (by kernel_rfl) ⟨congrArg AV.bool hc_92, congrArg AV.bool hc_98, congrArg AV.bool hc_99, congrArg AV.bool hc_100, trivial⟩ rfl ?_
                  (try simp only [reduceCtorEq, AEx.ex.injEq, Nat.reduceEqDiff, if_true, if_false])
                  exact ⟨_, _, Forgets.refl _ _ _, (decide (minute_36 < (IntKind.i64.wrap ((IntKind.i64.wrap (r_17.1 + r_17.2.1)) - 1)))), h, rfl, rfl⟩
                 ·refine regH 29 [(1, .eq (.bool false)), (12, .eq (.bool false)), (16, .eq (.bool true)), (20, .eq (.bool false))] [3, 4, 5, 8, 9, 10, 11, 16, 17, 191] [AV.bool in_83 = AV.bool false, AV.bool (decide (run_78 > r_17.2.1)) = AV.bool false, AV.bool (run_78 == r_17.2.1) = AV.bool true, AV.bool (decide (r_17.2.1 > 0)) = AV.bool false] (mkS 193 [(3, .ptr 0 0), (4, .ptr 1 0), (5, .sl (r_4.1.map A_Band) none), (8, .sl (r_7.map A_Band) none), (9, i6 square_11), (10, i6 r_17.1), (11, i6 r_17.2.1), (16, i6 run_78), (17, i6 minute_36), (191, .bool false)]) (⟨[[.int .u64 b_44], (C_City r_3.1)], []⟩) (by kernel_rfl) ⟨congrArg AV.bool hc_92, congrArg AV.bool hc_98, congrArg AV.bool hc_99, congrArg AV.bool hc_100, trivial⟩ rfl ?_
                  (try simp only [reduceCtorEq, AEx.ex.injEq, Nat.reduceEqDiff, if_true, if_false])
                  exact ⟨_, _, Forgets.refl _ _ _, false, h, rfl, rfl⟩
                ·refine regH 29 [(1, .eq (.bool false)), (12, .eq (.bool false)), (16, .eq (.bool false))] [3, 4, 5, 8, 9, 10, 11, 16, 17, 191] [AV.bool in_83 = AV.bool false, AV.bool (decide (run_78 > r_17.2.1)) = AV.bool false, AV.bool (run_78 == r_17.2.1) = AV.bool false] (mkS 193 [(3, .ptr 0 0), (4, .ptr 1 0), (5, .sl (r_4.1.map A_Band) none), (8, .sl (r_7.map A_Band) none), (9, i6 square_11), (10, i6 r_17.1), (11, i6 r_17.2.1), (16, i6 run_78), (17, i6 minute_36), (191, .bool false)]) (⟨[[.int .u64 b_44], (C_City r_3.1)], []⟩) (by kernel_rfl) ⟨congrArg AV.bool hc_92, congrArg AV.bool hc_98, congrArg AV.bool hc_99, trivial⟩ rfl ?_
                 (try simp only [reduceCtorEq, AEx.ex.injEq, Nat.reduceEqDiff, if_true, if_false])
                 exact ⟨_, _, Forgets.refl _ _ _, false, h, rfl, rfl⟩
             ·rintro a S ⟨y_88, h, rfl, rfl⟩
              subst hK_91
              rcases condI h with ⟨hc_101, h⟩ | ⟨hc_101, h⟩
              ·refine Ex.condT _ rfl hc_101 ?_
               refine Ex.seq (rg 1 [2] (mkS 193 [(2, .bool false)]) ⟨[[.int .u64 b_44], (C_City r_3.1)], []⟩ ?_)
               refine Ex.ret ?_
               obtain rfl := sJ h
               exact rt (.bool false)
              ·refine Ex.condF _ rfl hc_101 ?_
               refine Ex.skip ?_
               refine rg 3 [3, 4, 5, 8, 9, 10, 11, 16, 17] (mkS 193 [(3, .ptr 0 0), (4, .ptr 1 0), (5, .sl (r_4.1.map A_Band) none), (8, .sl (r_7.map A_Band) none), (9, i6 square_11), (10, i6 r_17.1), (11, i6 r_17.2.1), (16, i6 run_78), (17, i6 (IntKind.i64.wrap (minute_36 + 1)))]) ⟨[[.int .u64 b_44], (C_City r_3.1)], []⟩ ?_
               dsimp only
               exact ⟨_, _, Forgets.refl _ _ _, k, Nat.lt_succ_self k, run_78, (IntKind.i64.wrap (minute_36 + 1)), b_44, h, rfl, rfl⟩
         ·refine Ex.condF _ rfl hc_41 ?_
          refine Ex.exit ?_
          (try simp only [reduceCtorEq, AEx.ex.injEq, Nat.reduceEqDiff, if_true, if_false])
          exact ⟨_, _, forgetK [3, 4, 5, 8, 9], b_37, h, rfl, rfl⟩
       ·rintro a S ⟨b_31, h, rfl, rfl⟩
        subst hK_34
        refine rg 3 [3, 4, 5, 8, 9] (mkS 193 [(3, .ptr 0 0), (4, .ptr 1 0), (5, .sl (r_4.1.map A_Band) none), (8, .sl (r_7.map A_Band) none), (9, i6 (IntKind.i64.wrap (square_11 + 1)))]) ⟨[[.int .u64 b_31], (C_City r_3.1)], []⟩ ?_
        dsimp only
        exact ⟨_, _, Forgets.refl _ _ _, k, Nat.lt_succ_self k, (IntKind.i64.wrap (square_11 + 1)), b_31, h, rfl, rfl⟩
    ·refine Ex.condF _ rfl hc_16 ?_
     refine Ex.exit ?_
     (try simp only [reduceCtorEq, AEx.ex.injEq, Nat.reduceEqDiff, if_true, if_false])
     exact ⟨_, _, forgetA (m := 193) 0 [] [] [] [] (by simp [setAll]) (by simp) trivial (by simp) rfl (by decide), h, rfl, rfl⟩
  ·rintro a S ⟨h, rfl, rfl⟩
   subst hK_10
   refine Ex.seq ?_
   obtain ⟨r_102, hr_102, h⟩ := bE h
   refine Ex.reg ?_
   refine ExO.callL [] [] rfl rfl (a_bl7_awake) rfl rfl (d_bl7_awake N r_102 hr_102) (b_bl7_awake _ _ _ _) rfl ?_
   refine rn 1 [2] (mkS 193 [(2, .bool r_102)]) ⟨[], []⟩ ?_
   refine ExO.nil ?_
   refine Ex.ret ?_
   obtain rfl := sJ h
   exact rt (.bool r_102)
end Go.Proofs.YtkchfjblcfbajaaDoor
end
section
namespace Go.Proofs.YtkchfjblcfbajaaDoor
open Go.RowKit
set_option maxHeartbeats 400000

theorem granted_c (N : Nat) (hN : 1000 < N) (l : List T_Band) (e : List Int) (hl : l.length ≤ 100) : p_bl7_granted N l e = some (kept l e) := by
 unfold p_bl7_granted
 let T : Option (List T_Band) → Prop := fun r => r = some (kept l e)
 show T _
 refine letJ_gen T _ _ (fun K1 hK1 => ?_)
 refine loop2_T T (fun (out : List T_Band) y => ∃ i : Nat, y = (i : Int) ∧ i ≤ l.length ∧ out.length ≤ i ∧ out ++ kept (l.drop i) (e.drop i) = kept l e) (fun out y => l.length - y.toNat) ?_ N [] 0 ⟨0, rfl, Nat.zero_le _, Nat.le_refl _, by simp⟩ (by simp; omega)
 rintro rec out y ⟨i, rfl, hi, ho, hk⟩ ih
 simp only [letJ_eq]
 have stop : kept (l.drop i) (e.drop i) = [] → T (K1 out) := fun h => by
  rw [h, List.append_nil] at hk
  rw [hK1, hk]
 by_cases h1 : i < l.length
 ·rw [ltD h1, cond_true]
  by_cases h2 : i < e.length
  ·rw [ltD h2, cond_true]
   have hx : e[i]? = some e[i] := List.getElem?_eq_getElem h2
   have hb : l[i]? = some l[i] := List.getElem?_eq_getElem h1
   rw [List.drop_eq_getElem_cons h1, List.drop_eq_getElem_cons h2, kept_cons] at hk
   rw [getD_at hx, Option.bind_some, nadd1 i (by omega)]
   cases hz : e[i] == 0 with
   | true =>
    rw [hz, cond_true] at hk
    rw [cond_true, getD_at hb, Option.bind_some, pushI_ok (by simp; omega), Option.bind_some]
    exact ih _ _ ⟨i + 1, rfl, by omega, by simp; omega, by rw [List.append_assoc]; exact hk⟩ (by omega)
   | false =>
    rw [hz, cond_false, List.nil_append] at hk
    rw [cond_false]
    exact ih _ _ ⟨i + 1, rfl, by omega, by omega, hk⟩ (by omega)
  ·rw [dF (show ¬ ((i : Int) < ((e.length : Nat) : Int)) by omega), cond_false]
   refine stop ?_
   rw [List.drop_eq_nil_of_le (show e.length ≤ i by omega)]
   simp [kept]
 ·rw [dF (show ¬ ((i : Int) < ((l.length : Nat) : Int)) by omega), cond_false, cond_false]
  refine stop ?_
  rw [List.drop_eq_nil_of_le (show l.length ≤ i by omega)]
  simp [kept]
theorem heard_iff {c : T_City} {t : T_band_tour} (h : GoodT c t) (q : Int) (m : Nat) : Heard t q m ↔ ∃ s, t.Band.Start.Lo ≤ s ∧ s ≤ t.Band.Start.Hi ∧ AtS t s (m : Int) q := by
 have y0 := h.y0; have s1 := h.s1
 constructor
 ·rintro ⟨k, h1, h2, h3, h4⟩
  by_cases g : t.Band.Start.Hi + (k : Int) * t.Band.Stay ≤ (m : Int)
  ·exact ⟨t.Band.Start.Hi, s1, Int.le_refl _, k, h1, g, h4, h2⟩
  ·exact ⟨(m : Int) - (k : Int) * t.Band.Stay, by omega, by omega, k, h1, by omega, by omega, h2⟩
 ·rintro ⟨s, g1, g2, k, h1, h3, h4, h2⟩
  exact ⟨k, h1, h2, by omega, by omega⟩
theorem refAt_c (N : Nat) (hN : 1000 < N) (c : T_City) (hc : GoodC c) (t : T_band_tour) (h : GoodT c t) (s : Int) (g0 : t.Band.Start.Lo ≤ s) (g1 : s ≤ t.Band.Start.Hi) (j : Nat) : ∃ x, p_br7_At N c t.Band s (j : Int) = some x ∧ (x = -1 ∨ AtS t s (j : Int) x) := by
 unfold p_br7_At
 rw [refSquares_c N hN c hc t.Band t.squares_ h, Option.bind_some]
 have s0 := h.s0; have en := h.en; have mu := h.mul; have y0 := h.y0; have y1 := h.y1; have la := h.wk.len; have pa := h.pl
 dsimp only
 let T : Option Int → Prop := fun r => ∃ x, r = some x ∧ (x = -1 ∨ AtS t s (j : Int) x)
 show T _
 refine letJ_gen T _ _ (fun K1 hK1 => ?_)
 refine loop1_T T (fun y => ∃ k : Nat, y = (k : Int) ∧ k ≤ t.squares_.length) (fun y => t.squares_.length - y.toNat) ?_ N 0 ⟨0, rfl, Nat.zero_le _⟩ (by simp; omega)
 rintro rec y ⟨k, rfl, hk⟩ ih
 by_cases hkl : k < t.squares_.length
 ·obtain ⟨i0, i1, i2, i3⟩ := h.kmul k hkl
  have hq : t.squares_[k]? = some t.squares_[k] := List.getElem?_eq_getElem hkl
  rw [ltD hkl, cond_true, w64 (x := (k : Int) + 1) (by omega) (by omega), i2, w64 (x := (k : Int) * t.Band.Stay + t.Band.Stay) (by omega) (by omega), w64 (x := s + ((k : Int) * t.Band.Stay + t.Band.Stay)) (by omega) (by omega), w64 (x := s + ((k : Int) * t.Band.Stay + t.Band.Stay) - 1) (by omega) (by omega), w64 (x := (k : Int) * t.Band.Stay) (by omega) (by omega), w64 (x := s + (k : Int) * t.Band.Stay) (by omega) (by omega), Option.bind_some, rw_p, Option.bind_some]
  cases hw : wi (s + (k : Int) * t.Band.Stay) (s + ((k : Int) * t.Band.Stay + t.Band.Stay) - 1) (j : Int) with
  | true =>
   obtain ⟨w1, w2⟩ := wi_iff.1 hw
   rw [cond_true, getD_at hq, Option.bind_some]
   exact ⟨_, rfl, .inr ⟨k, hkl, w1, by omega, hq⟩⟩
  | false =>
   rw [cond_false]
   exact ih _ ⟨k + 1, by omega, by omega⟩ (by omega)
 ·have : k = t.squares_.length := by omega
  subst this
  rw [ltE, cond_false, hK1]
  exact ⟨-1, rfl, .inl rfl⟩
theorem kp_noise (N : Nat) (c : T_City) : ∀ (ts g : List T_band_tour), kp N c g ts = [] ∨ noB N c (g ++ kp N c g ts) = false
 | [], g => .inl rfl
 | t :: ts, g => by
  have ih := kp_noise N c ts (nextG N c g t)
  rw [kp]
  cases hz : ansOf N c g t == 0 with
  | true =>
   have hn : nextG N c g t = g ++ [t] := by unfold nextG; rw [hz, cond_true]
   rw [hn] at ih ⊢
   rw [cond_true]
   right
   rcases ih with h | h
   ·rw [h, List.append_nil]
    have hz := eq_of_beq hz
    rcases ansOf_cases N c g t with k | k | k | k
    ·omega
    ·omega
    ·omega
    ·exact k.2.2.2
   ·rw [← List.append_assoc]; exact h
  | false =>
   have hn : nextG N c g t = g := by unfold nextG; rw [hz, cond_false]
   rw [hn] at ih ⊢
   rw [cond_false, List.nil_append]
   exact ih
theorem runP_none {P : Nat → Prop} (h : ∀ k, ¬ P k) : ∀ m, runP P m = m
 | 0 => rfl
 | m + 1 => by rw [runP_f (h m), runP_none h m]
theorem bandAsleep_p (N : Nat) (hN : 9223372036854776000 < N) (haw : p_bl7_awake N = some true) (nums : List Int) (hl : nums.length < 9223372036854775808) : p_bl7_BandAsleep N nums = some true := by
 unfold p_bl7_BandAsleep
 obtain ⟨d0, e⟩ := drumOf_p N nums (by omega) hl
 rw [e, Option.bind_some]; clear e
 obtain ⟨c, d1, e, hc⟩ := cityOf_p N (by omega) d0
 rw [e, Option.bind_some]; clear e
 dsimp only
 obtain ⟨l, d2, e, hll, hlb⟩ := bandsOf_p N (by omega) d1 c hc 4 (by omega)
 rw [show ((4 : Nat) : Int) = 4 from rfl] at e
 rw [e, Option.bind_some]; clear e
 dsimp only
 obtain ⟨ts, rfl, hts⟩ := tours_ex l hlb
 rw [List.length_map] at hll
 have hT : ∀ t ∈ ts, GoodT c t := fun t ht => (hts t ht).1
 rw [grant_c N (by omega) c hc ts (by omega) hT, Option.bind_some]
 dsimp only
 rw [bne_self_eq_false, cond_false, granted_c N (by omega) _ _ (by simp; omega), Option.bind_some, kept_gr]
 have hkm : ∀ t ∈ kp N c [] ts, t ∈ ts := fun t ht => kp_mem N c ts [] t ht
 have hkn := kp_length N c ts []
 have hno := kp_noise N c ts []
 rw [List.nil_append] at hno
 generalize kp N c [] ts = G at hkm hkn hno
 have hsl := hc.sl; have hr4 := hc.r4
 let T : Option Bool → Prop := fun r => r = some true
 show T _
 refine letJ_gen T _ _ (fun K1 hK1 => ?_)
 refine loop2_T T (fun y b => ∃ q : Nat, y = (q : Int) ∧ q ≤ c.Sleep.length) (fun y b => c.Sleep.length - y.toNat) ?_ N 0 _ ⟨0, rfl, Nat.zero_le _⟩ (by simp; omega)
 rintro rec y b ⟨q, rfl, hq⟩ ih
 by_cases hql : q < c.Sleep.length
 ·obtain ⟨f, m, e1, hs⟩ := sleepF_c N (by omega) c hc ts (by omega) hT q (by omega)
  obtain ⟨f', m', e2, hs'⟩ := sleepF_c N (by omega) c hc G (by omega) (fun t ht => hT t (hkm t ht)) q (by omega)
  have hsq : c.Sleep[q]? = some c.Sleep[q] := List.getElem?_eq_getElem hql
  have hsv := hc.sv _ (List.getElem_mem hql)
  generalize c.Sleep[q] = z at hsq hsv
  have hz : ¬ (m' : Int) < z := by
   rcases hno with h | h
   ·subst h
    have h2 := hs'.le 720 (Nat.le_refl _)
    rw [runP_none (fun k hk => by obtain ⟨t, ht, _⟩ := hk; cases ht)] at h2
    omega
   ·unfold noB at h
    rw [List.any_eq_false] at h
    have h2 := h q (List.mem_range.2 hql)
    obtain ⟨w, f2, m2, e3, e4, hs2⟩ := sleepT_c N (by omega) G (q : Int) (by omega) fun t ht => ⟨c, hT t (hkm t ht)⟩
    obtain ⟨_, rfl⟩ := hs2.uniq hs'
    simp only [noQ, e3, Option.bind_some, e4, hsq, Option.getD_some, decide_eq_true_eq] at h2
    exact h2
  have hmm : ¬ (m' : Int) < (m : Int) := by
   rcases Nat.eq_zero_or_pos m with h0 | h0
   ·omega
   ·obtain ⟨a1, a2, _⟩ := hs.at_ h0
    have b1 := runP_mono (P := fun k => ∃ t ∈ ts, Heard t (q : Int) k) (Q := fun k => ∃ t ∈ G, Heard t (q : Int) k) (fun k ⟨t, ht, hh⟩ => ⟨t, hkm t ht, hh⟩) (f + m)
    have b2 := hs'.le _ a1
    omega
  have hfm : f + m ≤ 720 := by
   rcases Nat.eq_zero_or_pos m with h0 | h0
   ·rw [hs.zero h0, h0]; omega
   ·exact (hs.at_ h0).1
  rw [ltD hql, cond_true, e1, Option.bind_some, e2, Option.bind_some]
  rw [letJ_eq]
  dsimp only
  rw [bne_self_eq_false, cond_false, cond_false, getD_at hsq, Option.bind_some, dF hz, cond_false, dF hmm, cond_false, dF (show ¬ (f : Int) < 0 by omega), cond_false, dF (show ¬ (m : Int) < 0 by omega), cond_false, w64 (x := (f : Int) + (m : Int)) (by omega) (by omega), dF (show ¬ (f : Int) + (m : Int) > 720 by omega), cond_false]
  refine letJ_gen T _ _ (fun K2 hK2 => ?_)
  refine loop3_T T (fun run y b => ∃ j : Nat, y = (j : Int) ∧ j ≤ 720 ∧ run = (runP (fun k => ∃ t ∈ ts, Heard t (q : Int) k) j : Int)) (fun run y b => 720 - y.toNat) ?_ N 0 0 b ⟨0, rfl, by omega, rfl⟩ (by omega)
  rintro rec2 run y b2 ⟨j, rfl, hj, rfl⟩ ih2
  by_cases hjl : j < 720
  ·rw [dT (show (j : Int) < 720 by omega), cond_true]
   refine letJ_gen T _ _ (fun K3 hK3 => ?_)
   refine loop4_T T (fun heard there i b => ∃ i' : Nat, i = (i' : Int) ∧ i' ≤ ts.length ∧ (heard = true ↔ ∃ (n : Nat) (t : T_band_tour), n < i' ∧ ts[n]? = some t ∧ Heard t (q : Int) j) ∧ (there = true → ∃ t ∈ ts, Heard t (q : Int) j)) (fun heard there i b => ts.length - i.toNat) ?_ N false false 0 b2 ⟨0, rfl, Nat.zero_le _, ⟨fun hh => (by cases hh), fun ⟨n, t, hn, _⟩ => absurd hn (Nat.not_lt_zero _)⟩, fun hh => (by cases hh)⟩ (by simp; omega)
   rintro rec3 heard there i b3 ⟨i', rfl, hi, hh, hth⟩ ih3
   rw [List.length_map]
   by_cases hil : i' < ts.length
   ·have ht : ts[i']? = some ts[i'] := List.getElem?_eq_getElem hil
    generalize ts[i'] = t at ht
    have htm := List.mem_of_getElem? ht
    have hgt := hT t htm
    have hb : (ts.map (·.Band))[i']? = some t.Band := by rw [List.getElem?_map, ht]; rfl
    obtain ⟨wl, wa, ew, hwl, _, hwn, _⟩ := where_c N (by omega) c hc t.Band t.squares_ hgt (j : Int) (by omega) (by omega)
    rw [ltD hil, cond_true]
    refine letJ_gen T _ _ (fun K4 hK4 => ?_)
    rw [getD_at hb, Option.bind_some, ew, Option.bind_some]
    dsimp only
    have hH : Heard t (q : Int) j ↔ (q : Int) ∈ wl := by rw [heard_iff hgt, hwl]
    have hnew : (∃ (n : Nat) (t : T_band_tour), n < i' + 1 ∧ ts[n]? = some t ∧ Heard t (q : Int) j) ↔ (heard = true ∨ (q : Int) ∈ wl) := by
     rw [hh, ← hH]
     constructor
     ·rintro ⟨n, t', h1, h2, h3⟩
      by_cases he : n = i'
      ·subst he; rw [ht] at h2; cases h2; exact .inr h3
      ·exact .inl ⟨n, t', by omega, h2, h3⟩
     ·rintro (⟨n, t', h1, h2, h3⟩ | h3)
      ·exact ⟨n, t', by omega, h2, h3⟩
      ·exact ⟨i', t, by omega, ht, h3⟩
    refine letJ_gen T _ _ (fun K5 hK5 => ?_)
    have go : ∀ hd : Bool, (hd = true ↔ ∃ (n : Nat) (t : T_band_tour), n < i' + 1 ∧ ts[n]? = some t ∧ Heard t (q : Int) j) → T (K5 hd) := fun hd hhd => by
     rw [hK5]
     dsimp only
     cases there with
     | true =>
      rw [cond_true, hK4]
      dsimp only
      rw [nadd1 i' (by omega)]
      exact ih3 _ _ _ _ ⟨i' + 1, rfl, by omega, hhd, fun _ => hth rfl⟩ (by omega)
     | false =>
      have ys0 := hgt.s0; have ys1 := hgt.s1; have yen := hgt.en; have ym := hgt.mul
      obtain ⟨s, d3, e, g1, g2⟩ := ofS_p N ⟨b3⟩ t.Band.Start ys0 ys1 (by omega)
      obtain ⟨x, ex, hx⟩ := refAt_c N (by omega) c hc t hgt s g1 g2 j
      rw [cond_false, Option.bind_some, Option.bind_some, e, Option.bind_some]
      dsimp only
      rw [ex, Option.bind_some, hK4]
      dsimp only
      rw [nadd1 i' (by omega)]
      refine ih3 _ _ _ _ ⟨i' + 1, rfl, by omega, hhd, fun hxq => ⟨t, htm, ?_⟩⟩ (by omega)
      have hxq := eq_of_beq hxq
      rcases hx with h | h
      ·omega
      ·rw [heard_iff hgt, ← hxq]
       exact ⟨s, g1, g2, h⟩
    cases heard with
    | true => rw [cond_true]; exact go true (by rw [hnew]; simp)
    | false =>
     rw [cond_false, bne_self_eq_false, cond_false, has_p N wl _ (by omega) (by omega), Option.bind_some]
     exact go _ (by rw [hnew, decide_eq_true_eq]; simp)
   ·have : i' = ts.length := by omega
    subst this
    have hP : heard = true ↔ ∃ t ∈ ts, Heard t (q : Int) j := by
     rw [hh]
     constructor
     ·rintro ⟨n, t, _, h2, h3⟩; exact ⟨t, List.mem_of_getElem? h2, h3⟩
     ·rintro ⟨t, ht, h3⟩
      obtain ⟨n, hn, rfl⟩ := List.mem_iff_getElem.1 ht
      exact ⟨n, _, hn, List.getElem?_eq_getElem hn, h3⟩
    rw [ltE, cond_false, hK3]
    dsimp only
    have hrl := runP_le (fun k => ∃ t ∈ ts, Heard t (q : Int) k) j
    -- what is asked of the run so far
    have fin : ∀ run' : Nat, runP (fun k => ∃ t ∈ ts, Heard t (q : Int) k) (j + 1) = run' → ∀ KK : Int → Option Bool, (∀ r', KK r' = letJ (fun (in_83 : Bool) => (letJ (fun (y_88 : Bool) => (bif y_88 then some false else (rec2 r' (IntKind.i64.wrap ((j : Int) + 1)) b3))) (fun k_89 => (bif in_83 then (bif heard then (k_89 true) else (bif there then (k_89 true) else (bif (decide (r' > (m : Int))) then (k_89 true) else (bif (r' == (m : Int)) then (bif (decide ((m : Int) > 0)) then (k_89 (decide ((j : Int) < (IntKind.i64.wrap (((f : Int) + (m : Int)) - 1))))) else (k_89 false)) else (k_89 false))))) else (bif (decide (r' > (m : Int))) then (k_89 true) else (bif (r' == (m : Int)) then (bif (decide ((m : Int) > 0)) then (k_89 (decide ((j : Int) < (IntKind.i64.wrap (((f : Int) + (m : Int)) - 1))))) else (k_89 false)) else (k_89 false))))))) (fun k_84 => (bif (decide ((f : Int) ≤ (j : Int))) then (k_84 (decide ((j : Int) < ((f : Int) + (m : Int))))) else (k_84 false)))) → T (KK (run' : Int)) := by
     intro run' hrun KK hKK
     rw [hKK]
     have hle := hs.le (j + 1) (by omega)
     rw [hrun] at hle
     refine letJ_gen T _ _ (fun K6 hK6 => ?_)
     have inner : ∀ inn : Bool, (inn = true → f ≤ j ∧ j < f + m) → T (K6 inn) := fun inn hinn => by
      rw [hK6]
      dsimp only
      refine letJ_gen T _ _ (fun K7 hK7 => ?_)
      have ok : T (K7 false) := by
       rw [hK7]; dsimp only; rw [cond_false, nadd1 j (by omega)]
       exact ih2 _ _ _ ⟨j + 1, rfl, by omega, by rw [hrun]⟩ (by omega)
      have rest : T (bif (decide ((run' : Int) > (m : Int))) then (K7 true) else (bif ((run' : Int) == (m : Int)) then (bif (decide ((m : Int) > 0)) then (K7 (decide ((j : Int) < (IntKind.i64.wrap (((f : Int) + (m : Int)) - 1))))) else (K7 false)) else (K7 false))) := by
       rw [dF (show ¬ (run' : Int) > (m : Int) by omega), cond_false]
       by_cases he : (run' : Int) = (m : Int)
       ·rw [show ((run' : Int) == (m : Int)) = true from by simpa using he, cond_true]
        by_cases h0 : (m : Int) > 0
        ·rw [dT h0, cond_true, w64 (x := (f : Int) + (m : Int) - 1) (by omega) (by omega)]
         have := (hs.at_ (by omega)).2.2 (j + 1)
         rw [hrun] at this
         rw [dF (show ¬ (j : Int) < (f : Int) + (m : Int) - 1 from fun hh => by have := this (by omega); omega)]
         exact ok
        ·rw [dF h0, cond_false]; exact ok
       ·rw [show ((run' : Int) == (m : Int)) = false from by simpa using he, cond_false]; exact ok
      cases inn with
      | false => rw [cond_false]; exact rest
      | true =>
       obtain ⟨g1, g2⟩ := hinn rfl
       have hsil := runP_silent (P := fun k => ∃ t ∈ ts, Heard t (q : Int) k) (f + m) j g2 (by rw [(hs.at_ (by omega)).2.1]; omega)
       have h1 : heard = false := by
        cases heard with
        | false => rfl
        | true => exact absurd (hP.1 rfl) hsil
       have h2 : there = false := by
        cases there with
        | false => rfl
        | true => exact absurd (hth rfl) hsil
       subst h1; subst h2
       rw [cond_true, cond_false, cond_false]; exact rest
     by_cases hfj : (f : Int) ≤ (j : Int)
     ·rw [dT hfj, cond_true]
      exact inner _ fun hd => ⟨by omega, by have := of_decide_eq_true hd; omega⟩
     ·rw [dF hfj, cond_false]
      exact inner _ fun hd => by cases hd
    refine letJ_gen T _ _ (fun K6 hK6 => ?_)
    cases hhd : heard with
    | true =>
     rw [cond_true]
     exact fin 0 (runP_t (hP.1 hhd)) K6 (fun r' => by rw [hK6])
    | false =>
     rw [cond_false, w64 (x := (runP (fun k => ∃ t ∈ ts, Heard t (q : Int) k) j : Int) + 1) (by omega) (by omega)]
     have := fin (runP (fun k => ∃ t ∈ ts, Heard t (q : Int) k) j + 1) (runP_f fun hp => by rw [hP.2 hp] at hhd; cases hhd) K6 (fun r' => by rw [hK6])
     exact this
  ·have : j = 720 := by omega
   subst this
   rw [dF (show ¬ (((720 : Nat) : Int) < 720) by omega), cond_false, hK2]
   dsimp only
   rw [nadd1 q (by omega)]
   exact ih _ _ ⟨q + 1, rfl, by omega⟩ (by omega)
 ·have : q = c.Sleep.length := by omega
  subst this
  rw [ltE, cond_false, hK1]
  dsimp only
  rw [haw]; rfl
theorem bandAsleep_m (nums : List Int) (haw : p_bl7_awake 18446744073709551616 = some true) (hl : nums.length < 9223372036854775808) : Does Tryd.prog 8 [.sl (nums.map fun z => .int .i64 z) none] [] fun v _ => v = .bool true :=
 (d_bl7_BandAsleep _ nums true (bandAsleep_p _ (by omega) haw nums hl)).mono fun v c h => h.1
end Go.Proofs.YtkchfjblcfbajaaDoor
end
section
namespace Go.Proofs.YtkchfjblcfbajaaDoor
open Go.RowKit
theorem awake_c : p_bl7_awake 18446744073709551616 = some true := by kernel_rfl
end Go.Proofs.YtkchfjblcfbajaaDoor
end
section
namespace Go.Proofs.YtkchfjblcfbajaaDoor
open Go.RowKit Go.ChangeShapes Go.WideShapes Go.ChangeAt

def nums (zs : List Int) : AV := .sl (zs.map fun z => .int .i64 z) none
theorem prog_own : ownKnob Tryd.prog.godebug = none := by kernel_rfl
theorem prog_laid : laidOutB Tryd.prog = true := by kernel_rfl

namespace bandAsleep
theorem glw {W : World} (hL : laidMetH Tryd.prog Rows.bandAsleepRow.laid W) : GLW W := by
 rw [MakeChecks.laidMetH_plain _ _ _ (by kernel_rfl)] at hL
 have h0 : Lib.TabIs Tryd.prog W "math/bits.deBruijn32tab" .u8 gnum0 := Lib.tabIs_of_head (g := 0) (t := 163) (e := 5) (n := 32) (by kernel_rfl) (by kernel_rfl) (by kernel_rfl) (by kernel_rfl) (by kernel_rfl) (by kernel_rfl) (hL)
 have h1 : Lib.TabIs Tryd.prog W "math/bits.deBruijn64tab" .u8 gnum1 := Lib.tabIs_of_head (g := 1) (t := 164) (e := 5) (n := 64) (by kernel_rfl) (by kernel_rfl) (by kernel_rfl) (by kernel_rfl) (by kernel_rfl) (by kernel_rfl) (hL.tail)
 intro B o u h
 by_cases e0 : B = 0
 ·subst e0
  have := World.var?_cell (P := Tryd.prog) (g := 0) (by kernel_rfl) h0 o
  rw [this]
  simpa [gcell, gtab, gtab0] using h
 by_cases e1 : B = 1
 ·subst e1
  have := World.var?_cell (P := Tryd.prog) (g := 1) (by kernel_rfl) h1 o
  rw [this]
  simpa [gcell, gtab, gtab1] using h
 simp [gcell, gtab, e0, e1] at h
theorem door_met (os : Os) (args : Array Value) : laidMetH Tryd.prog Rows.bandAsleepRow.laid ((World.doorLaid Tryd.prog 19 os).forCall (fun _ _ => 0) ⟨#[], args, []⟩).memory :=
 laidMetH_of_parts3 (fuel := 8) (laidMet_of_run' 8 (by kernel_rfl) (by kernel_rfl)) (by kernel_rfl) (by kernel_rfl)
set_option maxRecDepth 100000 in
theorem lifted (hM : ∀ zs : List Int, (∀ z ∈ zs, (Lit.int .i64 z).wf = true) → zs.length ≤ maxLen → Does Tryd.prog 8 [nums zs] [] fun v _ => v = .bool true) (os : Os) (started : os.Started) (H : Type) (enc : TypeId × Value → H) :
  ReturnsInHanded {} Tryd.checked os 8 .any (fun w args => (Rows.bandAsleepSpec.pre enc Tryd.prog Tryd.f8 Rows.bandAsleepRow.domain false w args ∧ laidMetH Tryd.prog Rows.bandAsleepRow.laid w) ∧ sizedMet enc Tryd.prog Tryd.f8 (OpenSpec.ofChange Rows.bandAsleepSpec) false w args) (Rows.bandAsleepSpec.post enc Tryd.prog Tryd.f8 false true false false) := by
 refine returnsInHanded_of_change_and (C := Tryd.checked) (X := fun w _ => laidMetH Tryd.prog Rows.bandAsleepRow.laid w) (fun _ _ _ hh h => h.of_heap hh) prog_own started (by kernel_rfl) Tryd.func8
  (ChangeSpec.witness_shaped (enc := enc) (C := Tryd.checked) (os := os) (X := fun w _ => laidMetH Tryd.prog Rows.bandAsleepRow.laid w) false (World.doorLaid Tryd.prog 19 os) #[.slice none 0 0] 8 rfl (World.shaped_of_RefB (by kernel_rfl) (by kernel_rfl)) (by kernel_rfl) (by kernel_rfl) (by kernel_rfl) (door_met os _)) ?_
 intro W base args ds gs before hval0 hW hcnd _ hL _
 have hval : ∀ (j : Nat) t v, Tryd.f8.params[j]? = some t → args[j]? = some v → Value.okWide Tryd.prog W .any base t v := hval0
 have hW' := hW
 obtain ⟨p, q, hA0, hV, rfl, hfz, hnd⟩ := hW
 have hA : DataW.TrodAll enc Tryd.prog W 0 (fun _ => true) true Tryd.f8.params.toList args.toList ds p := hA0
 rw [Tryd.params8] at hA hval
 obtain ⟨v0, vs0, d0, ds0, p0, q0, hargs, rfl, rfl, h0, r0⟩ := trodAll_cons hA
 obtain ⟨rfl, rfl, rfl⟩ := trodAll_nil r0
 obtain rfl : args = #[v0] := by cases args; simp_all
 obtain ⟨rfl, rfl⟩ := trodVars_none hV
 obtain ⟨a0, len0, cap0, rfl⟩ := okWide_slice Tryd.underlying22 (hval 0 22 v0 rfl rfl)
 have k0 := h0
 have lt0 : ∀ x ∈ p0, x.block < W.heap.size := by obtain ⟨m, hm⟩ := k0; exact DataW.trod_lt m _ _ _ hm
 obtain ⟨zs, hwf, hlen, hvr⟩ := ints_vr Tryd.underlying22 Tryd.underlying3 (by kernel_rfl) h0
 clear hA0 hval0
 refine ((hM zs hwf hlen).law (us := #[.slice a0 len0 cap0]) ⟨rfl, fun i x u hx hu => ?_⟩ (glw hL)).mono fun e W' ⟨he, bel⟩ => ?_
 ·cases i with
  | zero => simp at hx hu; subst hx; subst hu; exact hvr
  | succ i => simp at hx
 subst he
 exact ⟨_, rfl, _, _, _, [], _, [], hW', trodAll_mk1 (shut_bool Tryd.underlying4 _), (trodAll_cons_mk (Below.trod prog_laid (by kernel_rfl) (of_decide_eq_true (by kernel_rfl)) k0 bel lt0) trodAll_mk0), rfl, bel.frame _, fun h => by cases h⟩

theorem frame (hM : ∀ zs : List Int, (∀ z ∈ zs, (Lit.int .i64 z).wf = true) → zs.length ≤ maxLen → Does Tryd.prog 8 [nums zs] [] fun v _ => v = .bool true) : Rows.BandAsleepSaid :=
 OpenClaim.holds_of_wide 8 Tryd.f8 rfl rfl rfl rfl rfl rfl rfl ⟨rfl, rfl, rfl, rfl, rfl⟩ rfl rfl rfl rfl rfl (by kernel_rfl) Tryd.func8 (by kernel_rfl)
  (of_decide_eq_true (by kernel_rfl)) (by unfold Func.isWrapper; first | (rw [if_pos (by decide +kernel)]; kernel_rfl) | (rw [if_neg (by decide +kernel)]; exact ⟨rfl, rfl⟩))
  (fun os started H enc _ => lifted hM os started H enc)
end bandAsleep
end Go.Proofs.YtkchfjblcfbajaaDoor
end
section
namespace Go.Proofs.YtkchfjblcfbajaaDoor
open Go
set_option maxRecDepth 100000
theorem bandAsleep_card (h : Rows.BandAsleepSaid) : Rows.BandAsleepCardSaid :=
 Claim7.holds_tied_plain_at .later [] [.data, .data] true (true, "fe01ec05f56da0775188e805bb2e3c6250aca9f9ad23cd6dd3bc488253c3c85e") false
  h (fun _ h => by cases h) (by kernel_rfl) (fun _ h => by cases h) bandAsleep_row_tie rfl ⟨rfl, rfl⟩ (by kernel_rfl) rfl
  (fun f fn hf hfn => by
    obtain rfl : f = 8 := Option.some.inj ((show Tryd.prog.funcNamed "bateria/baterialaw07.BandAsleep" = some 8 by kernel_rfl).symm.trans hf) |>.symm
    obtain rfl : fn = Tryd.f8 := (Option.some.inj ((Tryd.func8).symm.trans hfn)).symm
    refine ⟨by kernel_rfl, fun j t ht => ?_⟩
    have hall : (Tryd.f8.params.toList.all fun t => !Tryd.prog.wantsStandIn t) = true := by kernel_rfl
    have hm : t ∈ Tryd.f8.params.toList := by
     rw [← Array.getElem?_toList] at ht
     exact List.mem_of_getElem? ht
    have hq := List.all_eq_true.1 hall t hm
    show Tryd.prog.wantsStandIn t = false
    simpa using hq)
  (by kernel_rfl)
end Go.Proofs.YtkchfjblcfbajaaDoor
end
