/- Part 4 of what the law needs: own work, put together. -/
import Derived.Test.YtloklokkognalaaZq2
set_option linter.unusedVariables false
set_option linter.unusedSimpArgs false
set_option maxRecDepth 10000
set_option maxHeartbeats 4000000
section
namespace Go.Proofs.Ytloklokkognalaa
open Go.RowKit
attribute [local simp] cleanL AV.clean KL_bk_Drum cleanI cleanBo cleanSt cleanII re re1 ren ren1 AV.plain AV.plain1 A_bk_Drum C_bk_Drum back back1 List.idxOf? List.findIdx? List.findIdx?.go KB_bk_Drum fadeS fadeV
structure T_Span where
 Lo : Int
 Hi : Int
 deriving Inhabited
def C_Span (x : T_Span) : List AV := [i6 x.Lo, i6 x.Hi]
attribute [local simp] C_Span
def A_Span (x : T_Span) : AV := .agg (C_Span x)
attribute [local simp] A_Span
theorem KC_Span (x : T_Span) : cleanL (C_Span x) = true := by simp
theorem KA_Span (x : T_Span) : (A_Span x).clean = true := KC_Span x
theorem KL_Span (l : List T_Span) : cleanL (l.map A_Span) = true := cleanM KA_Span l
attribute [local simp] KL_Span
theorem KB_Span (x : T_Span) (n : Nat) (σ : List Nat) : (C_Span x).mapM (re n σ) = some (C_Span x) := by simp
attribute [local simp] KB_Span
structure T_Wing where
 Name : ByteArray
 Length : Int
 Pace : T_Span
 deriving Inhabited
def C_Wing (x : T_Wing) : List AV := [.str x.Name, i6 x.Length, i6 x.Pace.Lo, i6 x.Pace.Hi]
attribute [local simp] C_Wing
def A_Wing (x : T_Wing) : AV := .agg (C_Wing x)
attribute [local simp] A_Wing
theorem KC_Wing (x : T_Wing) : cleanL (C_Wing x) = true := by simp
theorem KA_Wing (x : T_Wing) : (A_Wing x).clean = true := KC_Wing x
theorem KL_Wing (l : List T_Wing) : cleanL (l.map A_Wing) = true := cleanM KA_Wing l
attribute [local simp] KL_Wing
theorem KB_Wing (x : T_Wing) (n : Nat) (σ : List Nat) : (C_Wing x).mapM (re n σ) = some (C_Wing x) := by simp
attribute [local simp] KB_Wing
structure T_School where
 Route : Int
 Wings : (List T_Wing)
 deriving Inhabited
def C_School (x : T_School) : List AV := [i6 x.Route, .sl (x.Wings.map A_Wing) none]
attribute [local simp] C_School
def A_School (x : T_School) : AV := .agg (C_School x)
attribute [local simp] A_School
theorem KC_School (x : T_School) : cleanL (C_School x) = true := by simp
theorem KA_School (x : T_School) : (A_School x).clean = true := KC_School x
theorem KL_School (l : List T_School) : cleanL (l.map A_School) = true := cleanM KA_School l
attribute [local simp] KL_School
theorem KB_School (x : T_School) (n : Nat) (σ : List Nat) : (C_School x).mapM (re n σ) = some (C_School x) := by simp
attribute [local simp] KB_School
def p_br1_Passed (N : Nat) (s_1 : T_School) (starts_2 : (List Int)) (paces_3 : (List Int)) (wing_4 : Int) (place_5 : Int) : Option (Int) := ((getI starts_2 wing_4).bind fun x_6 => (letJ (fun (second_7 : Int) => some second_7) (fun k_8 => (loop3 (fun rec_14 (place_11 : Int) (second_12 : Int) (i_13 : Int) => (bif (decide (i_13 ≥ 0)) then (letJ (fun (place_18 : Int) => ((getI starts_2 i_13).bind fun x_24 => ((getI paces_3 i_13).bind fun x_25 => ((getI paces_3 i_13).bind fun x_26 => ((nzI x_26).bind fun u_27 => ((some (IntKind.i64.wrap (x_24 + (IntKind.i64.wrap (Int.tdiv (IntKind.i64.wrap ((IntKind.i64.wrap ((if place_18 > 0 then place_18 else 0) + x_25)) - 1)) x_26))))).bind fun n_28 => (rec_14 place_18 (if n_28 > second_12 then n_28 else second_12) (IntKind.i64.wrap (i_13 - 1))))))))) (fun k_19 => (bif (decide (i_13 < wing_4)) then ((getI s_1.Wings i_13).bind fun x_23 => (k_19 (IntKind.i64.wrap (place_11 + x_23.Length)))) else (k_19 place_11)))) else (k_8 second_12))) N place_5 x_6 wing_4))))
def v_br1_Passed (r : Int) : AV := i6 r
attribute [local simp] v_br1_Passed
theorem a_br1_Passed (s_1 : T_School) (starts_2 : (List Int)) (paces_3 : (List Int)) (wing_4 : Int) (place_5 : Int) : [(A_School s_1), .sl (starts_2.map (AV.int .i64)) none, .sl (paces_3.map (AV.int .i64)) none, i6 wing_4, i6 place_5].mapM (ren []) = some [(A_School s_1), .sl (starts_2.map (AV.int .i64)) none, .sl (paces_3.map (AV.int .i64)) none, i6 wing_4, i6 place_5] := by simp
theorem b_br1_Passed (r : Int) (n n2 m : Nat) : back n n2 m (v_br1_Passed r) = some (v_br1_Passed r) := by simp
theorem d_br1_Passed (N : Nat) (s_1 : T_School) (starts_2 : (List Int)) (paces_3 : (List Int)) (wing_4 : Int) (place_5 : Int) (r : Int) (h : p_br1_Passed N s_1 starts_2 paces_3 wing_4 place_5 = some r) : Does Try.prog 52 [(A_School s_1), .sl (starts_2.map (AV.int .i64)) none, .sl (paces_3.map (AV.int .i64)) none, i6 wing_4, i6 place_5] [] fun v c => v = v_br1_Passed r ∧ c = [] := by
 unfold p_br1_Passed at h
 refine Does.ofL comp52 _ _ rfl rfl ?_
 refine Ex.seq (rg 2 [1, 2, 3, 4, 5] (mkS 54 [(1, .sl (starts_2.map (AV.int .i64)) none), (2, .sl (paces_3.map (AV.int .i64)) none), (3, i6 wing_4), (4, i6 place_5), (5, .ptr 0 0)]) ⟨[(C_School s_1)], []⟩ ?_)
 refine Ex.seq ?_
 obtain ⟨x_6, hx_6, h⟩ := bE h
 refine regH 5 [(2, .rop [i6 x_6])] [1, 2, 3, 4, 5, 11] [LGet (starts_2.map (AV.int .i64)) wing_4 1 [i6 x_6]] (mkS 54 [(1, .sl (starts_2.map (AV.int .i64)) none), (2, .sl (paces_3.map (AV.int .i64)) none), (3, i6 wing_4), (4, i6 place_5), (5, .ptr 0 0), (11, i6 x_6)]) (⟨[(C_School s_1)], []⟩) (by kernel_rfl) ⟨LGet.of hx_6 rfl, trivial⟩ rfl ?_
 refine Ex.seq (Ex.seq ?_)
 refine rg 2 [1, 2, 3, 4, 5, 11, 12] (mkS 54 [(1, .sl (starts_2.map (AV.int .i64)) none), (2, .sl (paces_3.map (AV.int .i64)) none), (3, i6 wing_4), (4, i6 place_5), (5, .ptr 0 0), (11, i6 x_6), (12, i6 wing_4)]) ⟨[(C_School s_1)], []⟩ ?_
 obtain ⟨K_9, hK_10, h⟩ := letE h
 refine Ex.blockJ (fun a S => ∃ (second_7 : Int), K_9 second_7 = some r ∧ a = mkS 54 [(11, i6 second_7)] ∧ S = ⟨[], []⟩) ?_ ?_
 ·obtain ⟨B_15, hB_16, h⟩ := loop3I h
  refine Ex.loopF (fun k a S => ∃ (place_11 : Int), ∃ (second_12 : Int), ∃ (i_13 : Int), loop3 B_15 k place_11 second_12 i_13 = some r ∧ a = mkS 54 [(1, .sl (starts_2.map (AV.int .i64)) none), (2, .sl (paces_3.map (AV.int .i64)) none), (3, i6 wing_4), (4, i6 place_11), (5, .ptr 0 0), (11, i6 second_12), (12, i6 i_13)] ∧ S = ⟨[(C_School s_1)], []⟩) N ⟨_, _, Forgets.refl _ _ _, place_5, x_6, wing_4, h, rfl, rfl⟩ ?_
  rintro k a S ⟨place_11, second_12, i_13, h, rfl, rfl⟩
  cases k with
  | zero => exact (loop3Z h).elim
  | succ k =>
   replace h := loop3S h hB_16
   refine Ex.seq (Ex.seq ?_)
   refine rg 2 [1, 2, 3, 4, 5, 11, 12, 19] (mkS 54 [(1, .sl (starts_2.map (AV.int .i64)) none), (2, .sl (paces_3.map (AV.int .i64)) none), (3, i6 wing_4), (4, i6 place_11), (5, .ptr 0 0), (11, i6 second_12), (12, i6 i_13), (19, .bool (decide (i_13 ≥ 0)))]) ⟨[(C_School s_1)], []⟩ ?_
   rcases condI h with ⟨hc_17, h⟩ | ⟨hc_17, h⟩
   ·refine Ex.condT _ rfl hc_17 ?_
    refine Ex.skip ?_
    refine Ex.seq ?_
    refine Ex.blockK ?_
    obtain ⟨K_20, hK_21, h⟩ := letE h
    refine Ex.seqJ (fun a S => ∃ (place_18 : Int), K_20 place_18 = some r ∧ a = mkS 54 [(1, .sl (starts_2.map (AV.int .i64)) none), (2, .sl (paces_3.map (AV.int .i64)) none), (3, i6 wing_4), (4, i6 place_18), (5, .ptr 0 0), (11, i6 second_12), (12, i6 i_13)] ∧ S = ⟨[(C_School s_1)], []⟩) ?_ ?_
    ·refine Ex.seq (rg 3 [1, 2, 3, 4, 5, 11, 12, 24] (mkS 54 [(1, .sl (starts_2.map (AV.int .i64)) none), (2, .sl (paces_3.map (AV.int .i64)) none), (3, i6 wing_4), (4, i6 place_11), (5, .ptr 0 0), (11, i6 second_12), (12, i6 i_13), (24, .bool (decide (i_13 < wing_4)))]) ⟨[(C_School s_1)], []⟩ ?_)
     rcases condI h with ⟨hc_22, h⟩ | ⟨hc_22, h⟩
     ·refine Ex.condT _ rfl hc_22 ?_
      obtain ⟨x_23, hx_23, h⟩ := bE h
      refine regH 9 [(4, .rop (C_Wing x_23))] [1, 2, 3, 4, 5, 11, 12] [LGet (s_1.Wings.map A_Wing) i_13 4 (C_Wing x_23)] (mkS 54 [(1, .sl (starts_2.map (AV.int .i64)) none), (2, .sl (paces_3.map (AV.int .i64)) none), (3, i6 wing_4), (4, i6 (IntKind.i64.wrap (place_11 + x_23.Length))), (5, .ptr 0 0), (11, i6 second_12), (12, i6 i_13)]) (⟨[(C_School s_1)], []⟩) (by kernel_rfl) ⟨LGet.of hx_23 rfl, trivial⟩ rfl ?_
      (try simp only [reduceCtorEq, AEx.ex.injEq, Nat.reduceEqDiff, if_true, if_false])
      exact ⟨_, _, Forgets.refl _ _ _, (IntKind.i64.wrap (place_11 + x_23.Length)), h, rfl, rfl⟩
     ·refine Ex.condF _ rfl hc_22 ?_
      refine Ex.skip ?_
      (try simp only [reduceCtorEq, AEx.ex.injEq, Nat.reduceEqDiff, if_true, if_false])
      exact ⟨_, _, forgetK [1, 2, 3, 4, 5, 11, 12], place_11, h, rfl, rfl⟩
    ·rintro a S ⟨place_18, h, rfl, rfl⟩
     subst hK_21
     obtain ⟨x_24, hx_24, h⟩ := bE h
     obtain ⟨x_25, hx_25, h⟩ := bE h
     obtain ⟨x_26, hx_26, h⟩ := bE h
     obtain ⟨u_27, hu_27, h⟩ := bE h
     obtain ⟨n_28, hn_28, h⟩ := bE h
     refine Ex.drawE (a1 := mkS 54 [(1, .sl (starts_2.map (AV.int .i64)) none), (2, .sl (paces_3.map (AV.int .i64)) none), (3, i6 wing_4), (4, i6 place_18), (5, .ptr 0 0), (11, i6 second_12), (12, i6 i_13), (33, i6 second_12), (34, .sl (starts_2.map (AV.int .i64)) none), (35, i6 i_13), (36, .rop [i6 x_24]), (37, i6 x_24), (38, i6 place_18), (39, i6 (if place_18 > 0 then place_18 else 0)), (40, .sl (paces_3.map (AV.int .i64)) none), (41, i6 i_13), (42, .rop [i6 x_25]), (43, i6 x_25), (44, i6 (IntKind.i64.wrap ((if place_18 > 0 then place_18 else 0) + x_25))), (45, i6 (IntKind.i64.wrap ((IntKind.i64.wrap ((if place_18 > 0 then place_18 else 0) + x_25)) - 1))), (46, .sl (paces_3.map (AV.int .i64)) none), (47, i6 i_13), (48, .rop [i6 x_26]), (49, i6 x_26), (50, i6 (IntKind.i64.wrap (Int.tdiv (IntKind.i64.wrap ((IntKind.i64.wrap ((if place_18 > 0 then place_18 else 0) + x_25)) - 1)) x_26))), (51, i6 n_28)]) (noClr_ok _) [] [] [] ?_ ?_
     ·refine drS [0] 19 [(3, .rop [i6 x_24]), (9, .rop [i6 x_25]), (15, .rop [i6 x_26]), (17, .bin (i6 (IntKind.i64.wrap (Int.tdiv (IntKind.i64.wrap ((IntKind.i64.wrap ((if place_18 > 0 then place_18 else 0) + x_25)) - 1)) x_26)))), (18, .eq (i6 n_28))] [LGet (starts_2.map (AV.int .i64)) i_13 1 [i6 x_24], LGet (paces_3.map (AV.int .i64)) i_13 1 [i6 x_25], LGet (paces_3.map (AV.int .i64)) i_13 1 [i6 x_26], binA .quo (i6 (IntKind.i64.wrap ((IntKind.i64.wrap ((if place_18 > 0 then place_18 else 0) + x_25)) - 1))) (i6 x_26) = some (i6 (IntKind.i64.wrap (Int.tdiv (IntKind.i64.wrap ((IntKind.i64.wrap ((if place_18 > 0 then place_18 else 0) + x_25)) - 1)) x_26))), AV.int .i64 (IntKind.i64.wrap (x_24 + (IntKind.i64.wrap (Int.tdiv (IntKind.i64.wrap ((IntKind.i64.wrap ((if place_18 > 0 then place_18 else 0) + x_25)) - 1)) x_26)))) = AV.int .i64 n_28] (mkS 54 [(1, .sl (starts_2.map (AV.int .i64)) none), (2, .sl (paces_3.map (AV.int .i64)) none), (3, i6 wing_4), (4, i6 place_18), (5, .ptr 0 0), (11, i6 second_12), (12, i6 i_13), (33, i6 second_12), (34, .sl (starts_2.map (AV.int .i64)) none), (35, i6 i_13), (36, .rop [i6 x_24]), (37, i6 x_24), (38, i6 place_18), (39, i6 (if place_18 > 0 then place_18 else 0)), (40, .sl (paces_3.map (AV.int .i64)) none), (41, i6 i_13), (42, .rop [i6 x_25]), (43, i6 x_25), (44, i6 (IntKind.i64.wrap ((if place_18 > 0 then place_18 else 0) + x_25))), (45, i6 (IntKind.i64.wrap ((IntKind.i64.wrap ((if place_18 > 0 then place_18 else 0) + x_25)) - 1))), (46, .sl (paces_3.map (AV.int .i64)) none), (47, i6 i_13), (48, .rop [i6 x_26]), (49, i6 x_26), (50, i6 (IntKind.i64.wrap (Int.tdiv (IntKind.i64.wrap ((IntKind.i64.wrap ((if place_18 > 0 then place_18 else 0) + x_25)) - 1)) x_26))), (51, i6 n_28)]) (by simp) (by kernel_rfl) ⟨LGet.of hx_24 rfl, LGet.of hx_25 rfl, LGet.of hx_26 rfl, binQ hu_27, congrArg (AV.int .i64) (Option.some.inj hn_28), trivial⟩ (by kernel_rfl) ?_
      exact DrO.nil rfl
     ·dsimp only [List.getLastD_cons, List.getLastD_nil]
      refine rn 2 [1, 2, 3, 4, 5, 11, 12] (mkS 54 [(1, .sl (starts_2.map (AV.int .i64)) none), (2, .sl (paces_3.map (AV.int .i64)) none), (3, i6 wing_4), (4, i6 place_18), (5, .ptr 0 0), (11, i6 (if n_28 > second_12 then n_28 else second_12)), (12, i6 i_13)]) ⟨[(C_School s_1)], []⟩ ?_
      refine ExO.nil ?_
      refine rg 3 [1, 2, 3, 4, 5, 11, 12] (mkS 54 [(1, .sl (starts_2.map (AV.int .i64)) none), (2, .sl (paces_3.map (AV.int .i64)) none), (3, i6 wing_4), (4, i6 place_18), (5, .ptr 0 0), (11, i6 (if n_28 > second_12 then n_28 else second_12)), (12, i6 (IntKind.i64.wrap (i_13 - 1)))]) ⟨[(C_School s_1)], []⟩ ?_
      dsimp only
      exact ⟨_, _, Forgets.refl _ _ _, k, Nat.lt_succ_self k, place_18, (if n_28 > second_12 then n_28 else second_12), (IntKind.i64.wrap (i_13 - 1)), h, rfl, rfl⟩
   ·refine Ex.condF _ rfl hc_17 ?_
    refine Ex.exit ?_
    (try simp only [reduceCtorEq, AEx.ex.injEq, Nat.reduceEqDiff, if_true, if_false])
    exact ⟨_, _, forgetA (m := 54) 0 [] [(11, i6 second_12)] [] [] (by simp [setAll]) (by simp) ⟨rfl, trivial⟩ (by simp) rfl (by decide), second_12, h, rfl, rfl⟩
 ·rintro a S ⟨second_7, h, rfl, rfl⟩
  subst hK_10
  refine Ex.seq (rg 2 [10] (mkS 54 [(10, i6 second_7)]) ⟨[], []⟩ ?_)
  refine Ex.ret ?_
  obtain rfl := sJ h
  exact rt (i6 second_7)
def p_br1_Slow (N : Nat) (s_1 : T_School) : Option ((List Int)) := (letJ (fun (out_2 : List Int) => some out_2) (fun k_3 => (loop2 (fun rec_8 (out_6 : List Int) (i_7 : Int) => (bif (decide (i_7 < ((s_1.Wings.length : Nat) : Int))) then ((getI s_1.Wings i_7).bind fun x_12 => ((pushI out_6 ([x_12.Pace.Lo] : List Int)).bind fun l_13 => (rec_8 l_13 (IntKind.i64.wrap (i_7 + 1))))) else (k_3 out_6))) N [] 0)))
def v_br1_Slow (r : (List Int)) : AV := .sl (r.map (AV.int .i64)) none
attribute [local simp] v_br1_Slow
theorem b_br1_Slow (r : (List Int)) (n n2 m : Nat) : back n n2 m (v_br1_Slow r) = some (v_br1_Slow r) := by simp
theorem d_br1_Slow (N : Nat) (s_1 : T_School) (r : (List Int)) (h : p_br1_Slow N s_1 = some r) : Does Try.prog 63 [(A_School s_1)] [] fun v c => v = v_br1_Slow r ∧ c = [] := by
 unfold p_br1_Slow at h
 refine Does.ofL comp63 _ _ rfl rfl ?_
 refine Ex.seq (rg 2 [1] (mkS 23 [(1, .ptr 0 0)]) ⟨[(C_School s_1)], []⟩ ?_)
 refine Ex.seq (rg 1 [1, 3] (mkS 23 [(1, .ptr 0 0), (3, .nils)]) ⟨[(C_School s_1)], []⟩ ?_)
 refine Ex.seq (Ex.seq ?_)
 refine rg 1 [1, 3, 4] (mkS 23 [(1, .ptr 0 0), (3, .nils), (4, i6 0)]) ⟨[(C_School s_1)], []⟩ ?_
 obtain ⟨K_4, hK_5, h⟩ := letE h
 refine Ex.blockJ (fun a S => ∃ (out_2 : List Int), K_4 out_2 = some r ∧ a = mkS 23 [(3, .sl (out_2.map (AV.int .i64)) (some 0))] ∧ S = ⟨[], [(out_2.length, 1)]⟩) ?_ ?_
 ·refine Ex.forget (nilK 3 1 rfl) ?_
  refine Ex.castA (a2 := mkS 23 [(1, .ptr 0 0), (3, .sl (([] : List Int).map (AV.int .i64)) (some 0)), (4, i6 0)]) (S2 := ⟨[(C_School s_1)], [(0, 1)]⟩) (by kernel_rfl) (by kernel_rfl) ?_
  obtain ⟨B_9, hB_10, h⟩ := loop2I h
  refine Ex.loopF (fun k a S => ∃ (out_6 : List Int), ∃ (i_7 : Int), loop2 B_9 k out_6 i_7 = some r ∧ a = mkS 23 [(1, .ptr 0 0), (3, .sl (out_6.map (AV.int .i64)) (some 0)), (4, i6 i_7)] ∧ S = ⟨[(C_School s_1)], [(out_6.length, 1)]⟩) N ⟨_, _, Forgets.refl _ _ _, [], 0, h, rfl, rfl⟩ ?_
  rintro k a S ⟨out_6, i_7, h, rfl, rfl⟩
  cases k with
  | zero => exact (loop2Z h).elim
  | succ k =>
   replace h := loop2S h hB_10
   refine Ex.seq (Ex.seq ?_)
   refine regH 5 [(3, .eq (i6 ((s_1.Wings.length : Nat) : Int)))] [1, 3, 4, 9] [AV.int .i64 (((s_1.Wings.map A_Wing).length : Nat) : Int) = AV.int .i64 ((s_1.Wings.length : Nat) : Int)] (mkS 23 [(1, .ptr 0 0), (3, .sl (out_6.map (AV.int .i64)) (some 0)), (4, i6 i_7), (9, .bool (decide (i_7 < ((s_1.Wings.length : Nat) : Int))))]) (⟨[(C_School s_1)], [(out_6.length, 1)]⟩) (by kernel_rfl) ⟨lenM _ _, trivial⟩ rfl ?_
   rcases condI h with ⟨hc_11, h⟩ | ⟨hc_11, h⟩
   ·refine Ex.condT _ rfl hc_11 ?_
    refine Ex.skip ?_
    refine Ex.seq ?_
    refine Ex.blockK ?_
    obtain ⟨x_12, hx_12, h⟩ := bE h
    obtain ⟨l_13, hl_13, h⟩ := bE h
    refine regH 11 [(4, .rop (C_Wing x_12)), (9, .app (l_13.map (AV.int .i64)) l_13.length)] [1, 3, 4] [LGet (s_1.Wings.map A_Wing) i_7 4 (C_Wing x_12), LApp out_6.length (out_6.map (AV.int .i64)) (([x_12.Pace.Lo] : List Int).map (AV.int .i64)) 1 (l_13.map (AV.int .i64)) l_13.length] (mkS 23 [(1, .ptr 0 0), (3, .sl (l_13.map (AV.int .i64)) (some 0)), (4, i6 i_7)]) (⟨[(C_School s_1)], [(l_13.length, 1), (1, 1)]⟩) (by kernel_rfl) ⟨LGet.of hx_12 rfl, LApp.of hl_13 (fun _ => rfl), trivial⟩ rfl ?_
    refine rg 3 [1, 3, 4] (mkS 23 [(1, .ptr 0 0), (3, .sl (l_13.map (AV.int .i64)) (some 0)), (4, i6 (IntKind.i64.wrap (i_7 + 1)))]) ⟨[(C_School s_1)], [(l_13.length, 1), (1, 1)]⟩ ?_
    dsimp only
    exact ⟨_, _, forgetA (m := 23) 1 [0] [(1, .ptr 0 0), (3, .sl (l_13.map (AV.int .i64)) (some 0)), (4, i6 (IntKind.i64.wrap (i_7 + 1)))] [(C_School s_1)] [(l_13.length, 1)] (by simp [setAll]) (by simp) ⟨rfl, (reT (cleanI _ _) rfl), rfl, trivial⟩ (by simp) rfl (by decide), k, Nat.lt_succ_self k, l_13, (IntKind.i64.wrap (i_7 + 1)), h, rfl, rfl⟩
   ·refine Ex.condF _ rfl hc_11 ?_
    refine Ex.exit ?_
    (try simp only [reduceCtorEq, AEx.ex.injEq, Nat.reduceEqDiff, if_true, if_false])
    exact ⟨_, _, forgetA (m := 23) 0 [0] [(3, .sl (out_6.map (AV.int .i64)) (some 0))] [] [(out_6.length, 1)] (by simp [setAll]) (by simp) ⟨(reT (cleanI _ _) rfl), trivial⟩ (by simp) rfl (by decide), out_6, h, rfl, rfl⟩
 ·rintro a S ⟨out_2, h, rfl, rfl⟩
  subst hK_5
  refine Ex.seq (rg 2 [2] (mkS 23 [(2, .sl (out_2.map (AV.int .i64)) (some 0))]) ⟨[], [(out_2.length, 1)]⟩ ?_)
  refine Ex.ret ?_
  obtain rfl := sJ h
  exact rt (.sl (out_2.map (AV.int .i64)) (some 0))
def p_br1_LeastOf (N : Nat) (s_1 : T_School) (starts_2 : (List Int)) (wing_3 : Int) : Option (Int) := (bif (wing_3 == 0) then some 0 else ((p_br1_Slow N s_1).bind fun r_5 => ((getI s_1.Wings (IntKind.i64.wrap (wing_3 - 1))).bind fun x_6 => ((p_br1_Passed N s_1 starts_2 r_5 (IntKind.i64.wrap (wing_3 - 1)) x_6.Length).bind fun r_8 => some r_8))))
def v_br1_LeastOf (r : Int) : AV := i6 r
attribute [local simp] v_br1_LeastOf
theorem a_br1_LeastOf (s_1 : T_School) (starts_2 : (List Int)) (wing_3 : Int) : [(A_School s_1), .sl (starts_2.map (AV.int .i64)) none, i6 wing_3].mapM (ren []) = some [(A_School s_1), .sl (starts_2.map (AV.int .i64)) none, i6 wing_3] := by simp
theorem b_br1_LeastOf (r : Int) (n n2 m : Nat) : back n n2 m (v_br1_LeastOf r) = some (v_br1_LeastOf r) := by simp
theorem d_br1_LeastOf (N : Nat) (s_1 : T_School) (starts_2 : (List Int)) (wing_3 : Int) (r : Int) (h : p_br1_LeastOf N s_1 starts_2 wing_3 = some r) : Does Try.prog 38 [(A_School s_1), .sl (starts_2.map (AV.int .i64)) none, i6 wing_3] [] fun v c => v = v_br1_LeastOf r ∧ c = [] := by
 unfold p_br1_LeastOf at h
 refine Does.ofL comp38 _ _ rfl rfl ?_
 refine Ex.seq (rg 2 [1, 2, 3] (mkS 23 [(1, .sl (starts_2.map (AV.int .i64)) none), (2, i6 wing_3), (3, .ptr 0 0)]) ⟨[(C_School s_1)], []⟩ ?_)
 refine Ex.seq (Ex.seq ?_)
 refine rg 2 [1, 2, 3, 8] (mkS 23 [(1, .sl (starts_2.map (AV.int .i64)) none), (2, i6 wing_3), (3, .ptr 0 0), (8, .bool (wing_3 == 0))]) ⟨[(C_School s_1)], []⟩ ?_
 rcases condI h with ⟨hc_4, h⟩ | ⟨hc_4, h⟩
 ·refine Ex.condT _ rfl hc_4 ?_
  refine Ex.seq (rg 1 [6] (mkS 23 [(6, i6 0)]) ⟨[(C_School s_1)], []⟩ ?_)
  refine Ex.ret ?_
  obtain rfl := sJ h
  exact rt (i6 0)
 ·refine Ex.condF _ rfl hc_4 ?_
  refine Ex.skip ?_
  refine Ex.seq ?_
  obtain ⟨r_5, hr_5, h⟩ := bE h
  obtain ⟨x_6, hx_6, h⟩ := bE h
  have hT_7 : DoesA Try.prog [⟨63, [(A_School s_1)], [], (v_br1_Slow r_5), []⟩] ∧ ConsA [⟨63, [(A_School s_1)], [], (v_br1_Slow r_5), []⟩] := ⟨⟨(d_br1_Slow N s_1 r_5 hr_5), rfl, trivial⟩, ⟨trivial, trivial⟩⟩
  refine Ex.drawE (a1 := mkS 23 [(1, .sl (starts_2.map (AV.int .i64)) none), (2, i6 wing_3), (3, .ptr 0 0), (8, .bool (wing_3 == 0)), (9, (A_School s_1)), (10, .sl (starts_2.map (AV.int .i64)) none), (11, (A_School s_1)), (12, .sl (r_5.map (AV.int .i64)) none), (13, i6 wing_3), (14, i6 (IntKind.i64.wrap (wing_3 - 1))), (15, .ptr 0 1), (16, .sl (s_1.Wings.map A_Wing) none), (17, i6 wing_3), (18, i6 (IntKind.i64.wrap (wing_3 - 1))), (19, .rop (C_Wing x_6)), (20, .rop [i6 x_6.Length, i6 x_6.Pace.Lo, i6 x_6.Pace.Hi]), (21, i6 x_6.Length)]) (tabO_ok hT_7.1) [] [] [] ?_ ?_
  ·refine drS [0] 3 [] [] (mkS 23 [(1, .sl (starts_2.map (AV.int .i64)) none), (2, i6 wing_3), (3, .ptr 0 0), (8, .bool (wing_3 == 0)), (9, (A_School s_1)), (10, .sl (starts_2.map (AV.int .i64)) none), (11, (A_School s_1))]) (by simp) (by kernel_rfl) trivial (by kernel_rfl) ?_
   refine drC hT_7.2 0 _ [(A_School s_1)] (v_br1_Slow r_5) rfl rfl rfl rfl rfl (fun _ => rfl) rfl (by simp; try rfl) (fun _ => b_br1_Slow _ _ _ _) ?_
   refine drS [0] 9 [(6, .rop (C_Wing x_6))] [LGet (s_1.Wings.map A_Wing) (IntKind.i64.wrap (wing_3 - 1)) 4 (C_Wing x_6)] (mkS 23 [(1, .sl (starts_2.map (AV.int .i64)) none), (2, i6 wing_3), (3, .ptr 0 0), (8, .bool (wing_3 == 0)), (9, (A_School s_1)), (10, .sl (starts_2.map (AV.int .i64)) none), (11, (A_School s_1)), (12, .sl (r_5.map (AV.int .i64)) none), (13, i6 wing_3), (14, i6 (IntKind.i64.wrap (wing_3 - 1))), (15, .ptr 0 1), (16, .sl (s_1.Wings.map A_Wing) none), (17, i6 wing_3), (18, i6 (IntKind.i64.wrap (wing_3 - 1))), (19, .rop (C_Wing x_6)), (20, .rop [i6 x_6.Length, i6 x_6.Pace.Lo, i6 x_6.Pace.Hi]), (21, i6 x_6.Length)]) (by simp) (by kernel_rfl) ⟨LGet.of hx_6 rfl, trivial⟩ (by kernel_rfl) ?_
   exact DrO.nil rfl
  ·dsimp only [List.getLastD_cons, List.getLastD_nil]
   obtain ⟨r_8, hr_8, h⟩ := bE h
   refine ExO.callL [] [(A_School s_1), .sl (starts_2.map (AV.int .i64)) none, .sl (r_5.map (AV.int .i64)) none, i6 (IntKind.i64.wrap (wing_3 - 1)), i6 x_6.Length] rfl rfl (a_br1_Passed s_1 starts_2 r_5 (IntKind.i64.wrap (wing_3 - 1)) x_6.Length) rfl rfl (d_br1_Passed N s_1 starts_2 r_5 (IntKind.i64.wrap (wing_3 - 1)) x_6.Length r_8 hr_8) (b_br1_Passed _ _ _ _) rfl ?_
   refine rn 1 [6] (mkS 23 [(6, i6 r_8)]) ⟨[(C_School s_1)], []⟩ ?_
   refine ExO.nil ?_
   refine Ex.ret ?_
   obtain rfl := sJ h
   exact rt (i6 r_8)
def p_bk_wingNames (N : Nat)  : Option ((List ByteArray)) := some ([(ByteArray.mk #[102, 114, 111, 110, 116]), (ByteArray.mk #[100, 114, 117, 109, 115]), (ByteArray.mk #[102, 108, 97, 103, 115]), (ByteArray.mk #[102, 108, 111, 97, 116]), (ByteArray.mk #[98, 97, 105, 97, 110, 97, 115]), (ByteArray.mk #[107, 105, 100, 115]), (ByteArray.mk #[113, 117, 101, 101, 110, 115]), (ByteArray.mk #[98, 97, 99, 107])])
def v_bk_wingNames (r : (List ByteArray)) : AV := .sl (r.map AV.str) none
attribute [local simp] v_bk_wingNames
theorem b_bk_wingNames (r : (List ByteArray)) (n n2 m : Nat) : back n n2 m (v_bk_wingNames r) = some (v_bk_wingNames r) := by simp
theorem d_bk_wingNames (N : Nat)  (r : (List ByteArray)) (h : p_bk_wingNames N  = some r) : Does Try.prog 36 [] [] fun v c => v = v_bk_wingNames r ∧ c = [] := by
 unfold p_bk_wingNames at h
 refine Does.ofL comp36 _ _ rfl rfl ?_
 refine Ex.seq (rg 1 [] (mkS 2 []) ⟨[], []⟩ ?_)
 refine Ex.seq (rg 2 [0] (mkS 2 [(0, .sl (([(ByteArray.mk #[102, 114, 111, 110, 116]), (ByteArray.mk #[100, 114, 117, 109, 115]), (ByteArray.mk #[102, 108, 97, 103, 115]), (ByteArray.mk #[102, 108, 111, 97, 116]), (ByteArray.mk #[98, 97, 105, 97, 110, 97, 115]), (ByteArray.mk #[107, 105, 100, 115]), (ByteArray.mk #[113, 117, 101, 101, 110, 115]), (ByteArray.mk #[98, 97, 99, 107])] : List ByteArray).map AV.str) (some 0))]) ⟨[], [(8, 1)]⟩ ?_)
 refine Ex.ret ?_
 obtain rfl := sJ h
 exact rt (.sl (([(ByteArray.mk #[102, 114, 111, 110, 116]), (ByteArray.mk #[100, 114, 117, 109, 115]), (ByteArray.mk #[102, 108, 97, 103, 115]), (ByteArray.mk #[102, 108, 111, 97, 116]), (ByteArray.mk #[98, 97, 105, 97, 110, 97, 115]), (ByteArray.mk #[107, 105, 100, 115]), (ByteArray.mk #[113, 117, 101, 101, 110, 115]), (ByteArray.mk #[98, 97, 99, 107])] : List ByteArray).map AV.str) (some 0))
theorem IJ_bk_Drum (x y : T_bk_Drum) (h : A_bk_Drum x = A_bk_Drum y) : x = y := by
 have h := AV.agg.inj h
 simp only [C_bk_Drum, List.cons.injEq, AV.int.injEq, AV.bool.injEq, AV.str.injEq, AV.sl.injEq, true_and, and_true] at h
 have h0 := h
 obtain ⟨x0⟩ := x; obtain ⟨y0⟩ := y; simp_all
theorem k_bk_Drum_Any (N : Nat) (d_1 : T_bk_Drum) (l_2 : (List Int)) (d_1z : T_bk_Drum) (l_2z : (List Int)) (r s : Int × T_bk_Drum) (hr : p_bk_Drum_Any N d_1 l_2 = some r) (hs : p_bk_Drum_Any N d_1z l_2z = some s) : ConsR ⟨26, [.ptr 0 0, .sl (l_2.map (AV.int .i64)) none], [(C_bk_Drum d_1)], v_bk_Drum_Any r, [(C_bk_Drum r.2)]⟩ ⟨26, [.ptr 0 0, .sl (l_2z.map (AV.int .i64)) none], [(C_bk_Drum d_1z)], v_bk_Drum_Any s, [(C_bk_Drum s.2)]⟩ := by
 intro _ h1 h2
 have h1 : ([.ptr 0 0, .sl (l_2.map (AV.int .i64)) none] : List AV) = [.ptr 0 0, .sl (l_2z.map (AV.int .i64)) none] := h1
 have h2 : ([(C_bk_Drum d_1)] : List (List AV)) = [(C_bk_Drum d_1z)] := h2
 obtain rfl : d_1 = d_1z := IJ_bk_Drum _ _ (congrArg AV.agg (List.cons.inj h2).1)
 obtain rfl : l_2 = l_2z := (slInj (intInj _)) _ _ (List.cons.inj (List.cons.inj h1).2).1
 rw [hr] at hs; cases hs; exact ⟨rfl, rfl⟩
theorem k_bk_Drum_Roll (N : Nat) (d_1 : T_bk_Drum) (n_2 : Int) (d_1z : T_bk_Drum) (n_2z : Int) (r s : Int × T_bk_Drum) (hr : p_bk_Drum_Roll N d_1 n_2 = some r) (hs : p_bk_Drum_Roll N d_1z n_2z = some s) : ConsR ⟨27, [.ptr 0 0, i6 n_2], [(C_bk_Drum d_1)], v_bk_Drum_Roll r, [(C_bk_Drum r.2)]⟩ ⟨27, [.ptr 0 0, i6 n_2z], [(C_bk_Drum d_1z)], v_bk_Drum_Roll s, [(C_bk_Drum s.2)]⟩ := by
 intro _ h1 h2
 have h1 : ([.ptr 0 0, i6 n_2] : List AV) = [.ptr 0 0, i6 n_2z] := h1
 have h2 : ([(C_bk_Drum d_1)] : List (List AV)) = [(C_bk_Drum d_1z)] := h2
 obtain rfl : d_1 = d_1z := IJ_bk_Drum _ _ (congrArg AV.agg (List.cons.inj h2).1)
 obtain rfl : n_2 = n_2z := (intInj _) _ _ (List.cons.inj (List.cons.inj h1).2).1
 rw [hr] at hs; cases hs; exact ⟨rfl, rfl⟩
def p_bk_SchoolOf (N : Nat) (d_1 : T_bk_Drum) (most_2 : Int) : Option (T_School × T_bk_Drum) := ((p_bk_Drum_Any N d_1 [60, 400, 2000]).bind fun r_3 => ((p_bk_Drum_Mid N r_3.2 1 r_3.1).bind fun r_4 => ((p_bk_Drum_Mid N r_4.2 1 most_2).bind fun r_5 => (letJ (fun (b_6 : Int) (b_7 : List T_Wing) => some ((⟨r_4.1, b_7⟩ : T_School), (⟨b_6⟩ : T_bk_Drum))) (fun k_8 => (loop3 (fun rec_14 (i_11 : Int) (b_12 : Int) (b_13 : List T_Wing) => (bif (decide (i_11 > 0)) then ((p_bk_Drum_Any N (⟨b_12⟩ : T_bk_Drum) [5, 40]).bind fun r_18 => ((p_bk_Drum_Mid N r_18.2 1 r_18.1).bind fun r_19 => ((p_bk_wingNames N).bind fun r_20 => ((getI r_20 ((b_13.length : Nat) : Int)).bind fun x_21 => ((p_bk_Drum_Any N r_19.2 [10, 80]).bind fun r_22 => ((p_bk_Drum_Mid N r_22.2 1 r_22.1).bind fun r_23 => ((p_bk_Drum_Roll N r_23.2 4).bind fun r_24 => ((p_bk_Drum_Roll N r_24.2 30).bind fun r_25 => ((p_bk_Drum_Any N r_25.2 [0, r_24.1, r_25.1]).bind fun r_26 => ((pushI b_13 ([(⟨x_21, r_23.1, (⟨r_19.1, (IntKind.i64.wrap (r_19.1 + r_26.1))⟩ : T_Span)⟩ : T_Wing)] : List T_Wing)).bind fun l_28 => (rec_14 (IntKind.i64.wrap (i_11 - 1)) r_26.2.beat_ l_28))))))))))) else (k_8 b_12 b_13))) N r_5.1 r_5.2.beat_ []))))))
def v_bk_SchoolOf (r : T_School × T_bk_Drum) : AV := (A_School r.1)
attribute [local simp] v_bk_SchoolOf
def p_bk_StartsOf (N : Nat) (d_1 : T_bk_Drum) (s_2 : T_School) : Option ((List Int) × T_bk_Drum) := (letJ (fun (out_3 : List Int) (b_4 : Int) => some (out_3, (⟨b_4⟩ : T_bk_Drum))) (fun k_5 => (loop3 (fun rec_11 (out_8 : List Int) (i_9 : Int) (b_10 : Int) => (bif (decide (i_9 < ((s_2.Wings.length : Nat) : Int))) then ((p_br1_LeastOf N s_2 out_8 i_9).bind fun r_15 => ((p_bk_Drum_Roll N (⟨b_10⟩ : T_bk_Drum) 4).bind fun r_16 => ((p_bk_Drum_Roll N r_16.2 40).bind fun r_17 => ((p_bk_Drum_Any N r_17.2 [0, r_16.1, r_17.1]).bind fun r_18 => ((pushI out_8 ([(IntKind.i64.wrap (r_15 + r_18.1))] : List Int)).bind fun l_19 => (rec_11 l_19 (IntKind.i64.wrap (i_9 + 1)) r_18.2.beat_)))))) else (k_5 out_8 b_10))) N [] 0 d_1.beat_)))
def v_bk_StartsOf (r : (List Int) × T_bk_Drum) : AV := .sl (r.1.map (AV.int .i64)) none
attribute [local simp] v_bk_StartsOf
theorem b_bk_StartsOf (r : (List Int) × T_bk_Drum) (n n2 m : Nat) : back n n2 m (v_bk_StartsOf r) = some (v_bk_StartsOf r) := by simp
theorem d_bk_StartsOf (N : Nat) (d_1 : T_bk_Drum) (s_2 : T_School) (r : (List Int) × T_bk_Drum) (h : p_bk_StartsOf N d_1 s_2 = some r) : Does Try.prog 20 [.ptr 0 0, (A_School s_2)] [(C_bk_Drum d_1)] fun v c => v = v_bk_StartsOf r ∧ c = [(C_bk_Drum r.2)] := by
 unfold p_bk_StartsOf at h
 refine Does.ofL comp20 _ _ rfl rfl ?_
 refine Ex.seq (rg 2 [0, 3] (mkS 30 [(0, .ptr 0 0), (3, .ptr 1 0)]) ⟨[(C_bk_Drum d_1), (C_School s_2)], []⟩ ?_)
 refine Ex.seq (rg 1 [0, 3, 5] (mkS 30 [(0, .ptr 0 0), (3, .ptr 1 0), (5, .nils)]) ⟨[(C_bk_Drum d_1), (C_School s_2)], []⟩ ?_)
 refine Ex.seq (Ex.seq ?_)
 refine rg 1 [0, 3, 5, 6] (mkS 30 [(0, .ptr 0 0), (3, .ptr 1 0), (5, .nils), (6, i6 0)]) ⟨[(C_bk_Drum d_1), (C_School s_2)], []⟩ ?_
 obtain ⟨K_6, hK_7, h⟩ := letE h
 refine Ex.blockJ (fun a S => ∃ (out_3 : List Int), ∃ (b_4 : Int), K_6 out_3 b_4 = some r ∧ a = mkS 30 [(5, .sl (out_3.map (AV.int .i64)) (some 0))] ∧ S = ⟨[[.int .u64 b_4]], [(out_3.length, 1)]⟩) ?_ ?_
 ·refine Ex.forget (nilK 5 1 rfl) ?_
  refine Ex.castA (a2 := mkS 30 [(0, .ptr 0 0), (3, .ptr 1 0), (5, .sl (([] : List Int).map (AV.int .i64)) (some 0)), (6, i6 0)]) (S2 := ⟨[(C_bk_Drum d_1), (C_School s_2)], [(0, 1)]⟩) (by kernel_rfl) (by kernel_rfl) ?_
  obtain ⟨B_12, hB_13, h⟩ := loop3I h
  refine Ex.loopF (fun k a S => ∃ (out_8 : List Int), ∃ (i_9 : Int), ∃ (b_10 : Int), loop3 B_12 k out_8 i_9 b_10 = some r ∧ a = mkS 30 [(0, .ptr 0 0), (3, .ptr 1 0), (5, .sl (out_8.map (AV.int .i64)) (some 0)), (6, i6 i_9)] ∧ S = ⟨[[.int .u64 b_10], (C_School s_2)], [(out_8.length, 1)]⟩) N ⟨_, _, Forgets.refl _ _ _, [], 0, d_1.beat_, h, rfl, rfl⟩ ?_
  rintro k a S ⟨out_8, i_9, b_10, h, rfl, rfl⟩
  cases k with
  | zero => exact (loop3Z h).elim
  | succ k =>
   replace h := loop3S h hB_13
   refine Ex.seq (Ex.seq ?_)
   refine regH 5 [(3, .eq (i6 ((s_2.Wings.length : Nat) : Int)))] [0, 3, 5, 6, 11] [AV.int .i64 (((s_2.Wings.map A_Wing).length : Nat) : Int) = AV.int .i64 ((s_2.Wings.length : Nat) : Int)] (mkS 30 [(0, .ptr 0 0), (3, .ptr 1 0), (5, .sl (out_8.map (AV.int .i64)) (some 0)), (6, i6 i_9), (11, .bool (decide (i_9 < ((s_2.Wings.length : Nat) : Int))))]) (⟨[[.int .u64 b_10], (C_School s_2)], [(out_8.length, 1)]⟩) (by kernel_rfl) ⟨lenM _ _, trivial⟩ rfl ?_
   rcases condI h with ⟨hc_14, h⟩ | ⟨hc_14, h⟩
   ·refine Ex.condT _ rfl hc_14 ?_
    refine Ex.skip ?_
    refine Ex.seq ?_
    refine Ex.blockK ?_
    obtain ⟨r_15, hr_15, h⟩ := bE h
    refine Ex.reg (rn 4 [0, 3, 6, 14, 15, 16, 17] (mkS 30 [(0, .ptr 0 0), (3, .ptr 1 0), (6, i6 i_9), (14, .sl (out_8.map (AV.int .i64)) (some 0)), (15, (A_School s_2)), (16, .sl (out_8.map (AV.int .i64)) (some 0)), (17, i6 i_9)]) ⟨[[.int .u64 b_10], (C_School s_2)], [(out_8.length, 1)]⟩ ?_)
    refine ExO.callL [] [(A_School s_2), .sl (out_8.map (AV.int .i64)) (some 0), i6 i_9] rfl rfl (a_br1_LeastOf s_2 out_8 i_9) rfl rfl (d_br1_LeastOf N s_2 out_8 i_9 r_15 hr_15) (b_br1_LeastOf _ _ _ _) rfl ?_
    obtain ⟨r_16, hr_16, h⟩ := bE h
    refine rn 2 [0, 3, 6, 14, 18, 19, 20] (mkS 30 [(0, .ptr 0 0), (3, .ptr 1 0), (6, i6 i_9), (14, .sl (out_8.map (AV.int .i64)) (some 0)), (18, i6 r_15), (19, .ptr 0 0), (20, .ptr 0 0)]) ⟨[[.int .u64 b_10], (C_School s_2)], [(out_8.length, 1)]⟩ ?_
    refine ExO.callL [0] [.ptr 0 0, i6 4] rfl rfl (by simp; try rfl) rfl (by simp) (d_bk_Drum_Roll N (⟨b_10⟩ : T_bk_Drum) 4 r_16 hr_16) (b_bk_Drum_Roll _ _ _ _) (by simp) ?_
    obtain ⟨r_17, hr_17, h⟩ := bE h
    refine rn 1 [0, 3, 6, 14, 18, 19, 21, 22] (mkS 30 [(0, .ptr 0 0), (3, .ptr 1 0), (6, i6 i_9), (14, .sl (out_8.map (AV.int .i64)) (some 0)), (18, i6 r_15), (19, .ptr 0 0), (21, i6 r_16.1), (22, .ptr 0 0)]) ⟨[(C_bk_Drum r_16.2), (C_School s_2)], [(out_8.length, 1)]⟩ ?_
    refine ExO.callL [0] [.ptr 0 0, i6 40] rfl rfl (by simp; try rfl) rfl (by simp) (d_bk_Drum_Roll N r_16.2 40 r_17 hr_17) (b_bk_Drum_Roll _ _ _ _) (by simp) ?_
    obtain ⟨r_18, hr_18, h⟩ := bE h
    refine rn 1 [0, 3, 6, 14, 18, 19, 24] (mkS 30 [(0, .ptr 0 0), (3, .ptr 1 0), (6, i6 i_9), (14, .sl (out_8.map (AV.int .i64)) (some 0)), (18, i6 r_15), (19, .ptr 0 0), (24, .sl (([0, r_16.1, r_17.1] : List Int).map (AV.int .i64)) (some 1))]) ⟨[(C_bk_Drum r_17.2), (C_School s_2)], [(out_8.length, 1), (3, 1)]⟩ ?_
    refine ExO.callL [0] [.ptr 0 0, .sl (([0, r_16.1, r_17.1] : List Int).map (AV.int .i64)) (some 1)] rfl rfl (by simp; try rfl) rfl (by simp) (d_bk_Drum_Any N r_17.2 [0, r_16.1, r_17.1] r_18 hr_18) (b_bk_Drum_Any _ _ _ _) (by simp) ?_
    obtain ⟨l_19, hl_19, h⟩ := bE h
    refine runH 4 [(2, .app (l_19.map (AV.int .i64)) l_19.length)] [0, 3, 5, 6] [LApp out_8.length (out_8.map (AV.int .i64)) (([(IntKind.i64.wrap (r_15 + r_18.1))] : List Int).map (AV.int .i64)) 1 (l_19.map (AV.int .i64)) l_19.length] (mkS 30 [(0, .ptr 0 0), (3, .ptr 1 0), (5, .sl (l_19.map (AV.int .i64)) (some 0)), (6, i6 i_9)]) (⟨[(C_bk_Drum r_18.2), (C_School s_2)], [(l_19.length, 1), (3, 1), (1, 1)]⟩) (by kernel_rfl) ⟨LApp.of hl_19 (fun _ => rfl), trivial⟩ ?_
    refine ExO.nil ?_
    refine rg 3 [0, 3, 5, 6] (mkS 30 [(0, .ptr 0 0), (3, .ptr 1 0), (5, .sl (l_19.map (AV.int .i64)) (some 0)), (6, i6 (IntKind.i64.wrap (i_9 + 1)))]) ⟨[(C_bk_Drum r_18.2), (C_School s_2)], [(l_19.length, 1), (3, 1), (1, 1)]⟩ ?_
    dsimp only
    exact ⟨_, _, forgetA (m := 30) 2 [0] [(0, .ptr 0 0), (3, .ptr 1 0), (5, .sl (l_19.map (AV.int .i64)) (some 0)), (6, i6 (IntKind.i64.wrap (i_9 + 1)))] [(C_bk_Drum r_18.2), (C_School s_2)] [(l_19.length, 1)] (by simp [setAll]) (by simp) ⟨rfl, rfl, (reT (cleanI _ _) rfl), rfl, trivial⟩ (by simp) rfl (by decide), k, Nat.lt_succ_self k, l_19, (IntKind.i64.wrap (i_9 + 1)), r_18.2.beat_, h, rfl, rfl⟩
   ·refine Ex.condF _ rfl hc_14 ?_
    refine Ex.exit ?_
    (try simp only [reduceCtorEq, AEx.ex.injEq, Nat.reduceEqDiff, if_true, if_false])
    exact ⟨_, _, forgetA (m := 30) 1 [0] [(5, .sl (out_8.map (AV.int .i64)) (some 0))] [[.int .u64 b_10]] [(out_8.length, 1)] (by simp [setAll]) (by simp) ⟨(reT (cleanI _ _) rfl), trivial⟩ (by simp) rfl (by decide), out_8, b_10, h, rfl, rfl⟩
 ·rintro a S ⟨out_3, b_4, h, rfl, rfl⟩
  subst hK_7
  refine Ex.seq (rg 2 [4] (mkS 30 [(4, .sl (out_3.map (AV.int .i64)) (some 0))]) ⟨[[.int .u64 b_4]], [(out_3.length, 1)]⟩ ?_)
  refine Ex.ret ?_
  obtain rfl := sJ h
  exact rt (.sl (out_3.map (AV.int .i64)) (some 0))
structure T_Rules where
 Least : Int
 Most : Int
 Gap : Int
 deriving Inhabited
def C_Rules (x : T_Rules) : List AV := [i6 x.Least, i6 x.Most, i6 x.Gap]
attribute [local simp] C_Rules
def A_Rules (x : T_Rules) : AV := .agg (C_Rules x)
attribute [local simp] A_Rules
theorem KC_Rules (x : T_Rules) : cleanL (C_Rules x) = true := by simp
theorem KA_Rules (x : T_Rules) : (A_Rules x).clean = true := KC_Rules x
theorem KL_Rules (l : List T_Rules) : cleanL (l.map A_Rules) = true := cleanM KA_Rules l
attribute [local simp] KL_Rules
theorem KB_Rules (x : T_Rules) (n : Nat) (σ : List Nat) : (C_Rules x).mapM (re n σ) = some (C_Rules x) := by simp
attribute [local simp] KB_Rules
def p_bk_RulesOf (N : Nat) (d_1 : T_bk_Drum) : Option (T_Rules × T_bk_Drum) := ((p_bk_Drum_Roll N d_1 60).bind fun r_2 => ((p_bk_Drum_Roll N r_2.2 400).bind fun r_3 => ((p_bk_Drum_Any N r_3.2 [0, r_2.1, r_3.1]).bind fun r_4 => ((p_bk_Drum_Roll N r_4.2 40).bind fun r_5 => ((p_bk_Drum_Roll N r_5.2 2000).bind fun r_6 => ((p_bk_Drum_Any N r_6.2 [0, r_5.1, r_6.1]).bind fun r_7 => ((p_bk_Drum_Roll N r_7.2 20).bind fun r_8 => ((p_bk_Drum_Roll N r_8.2 300).bind fun r_9 => ((p_bk_Drum_Any N r_9.2 [0, r_8.1, r_9.1]).bind fun r_10 => some ((⟨r_4.1, (IntKind.i64.wrap (r_4.1 + r_7.1)), r_10.1⟩ : T_Rules), r_10.2))))))))))
def v_bk_RulesOf (r : T_Rules × T_bk_Drum) : AV := (A_Rules r.1)
attribute [local simp] v_bk_RulesOf
theorem b_bk_RulesOf (r : T_Rules × T_bk_Drum) (n n2 m : Nat) : back n n2 m (v_bk_RulesOf r) = some (v_bk_RulesOf r) := by simp
theorem d_bk_RulesOf (N : Nat) (d_1 : T_bk_Drum) (r : T_Rules × T_bk_Drum) (h : p_bk_RulesOf N d_1 = some r) : Does Try.prog 10 [.ptr 0 0] [(C_bk_Drum d_1)] fun v c => v = v_bk_RulesOf r ∧ c = [(C_bk_Drum r.2)] := by
 unfold p_bk_RulesOf at h
 refine Does.ofL comp10 _ _ rfl rfl ?_
 refine Ex.seq (rg 1 [0, 2] (mkS 29 [(0, .ptr 0 0), (2, .ptr 1 0)]) ⟨[(C_bk_Drum d_1), [i6 0, i6 0, i6 0]], []⟩ ?_)
 refine Ex.seq ?_
 obtain ⟨r_2, hr_2, h⟩ := bE h
 refine Ex.reg (rn 2 [0, 2, 4, 5] (mkS 29 [(0, .ptr 0 0), (2, .ptr 1 0), (4, .ptr 0 0), (5, .ptr 0 0)]) ⟨[(C_bk_Drum d_1), [i6 0, i6 0, i6 0]], []⟩ ?_)
 refine ExO.callL [0] [.ptr 0 0, i6 60] rfl rfl (by simp; try rfl) rfl (by simp) (d_bk_Drum_Roll N d_1 60 r_2 hr_2) (b_bk_Drum_Roll _ _ _ _) (by simp) ?_
 obtain ⟨r_3, hr_3, h⟩ := bE h
 refine rn 1 [0, 2, 4, 6, 7] (mkS 29 [(0, .ptr 0 0), (2, .ptr 1 0), (4, .ptr 0 0), (6, i6 r_2.1), (7, .ptr 0 0)]) ⟨[(C_bk_Drum r_2.2), [i6 0, i6 0, i6 0]], []⟩ ?_
 refine ExO.callL [0] [.ptr 0 0, i6 400] rfl rfl (by simp; try rfl) rfl (by simp) (d_bk_Drum_Roll N r_2.2 400 r_3 hr_3) (b_bk_Drum_Roll _ _ _ _) (by simp) ?_
 obtain ⟨r_4, hr_4, h⟩ := bE h
 refine rn 1 [0, 2, 4, 9] (mkS 29 [(0, .ptr 0 0), (2, .ptr 1 0), (4, .ptr 0 0), (9, .sl (([0, r_2.1, r_3.1] : List Int).map (AV.int .i64)) (some 0))]) ⟨[(C_bk_Drum r_3.2), [i6 0, i6 0, i6 0]], [(3, 1)]⟩ ?_
 refine ExO.callL [0] [.ptr 0 0, .sl (([0, r_2.1, r_3.1] : List Int).map (AV.int .i64)) (some 0)] rfl rfl (by simp; try rfl) rfl (by simp) (d_bk_Drum_Any N r_3.2 [0, r_2.1, r_3.1] r_4 hr_4) (b_bk_Drum_Any _ _ _ _) (by simp) ?_
 refine rn 1 [0, 2, 3] (mkS 29 [(0, .ptr 0 0), (2, .ptr 1 0), (3, i6 r_4.1)]) ⟨[(C_bk_Drum r_4.2), [i6 0, i6 0, i6 0]], [(3, 1)]⟩ ?_
 refine ExO.nil ?_
 refine Ex.seq ?_
 obtain ⟨r_5, hr_5, h⟩ := bE h
 refine Ex.reg (rn 4 [0, 2, 11, 12, 13, 14] (mkS 29 [(0, .ptr 0 0), (2, .ptr 1 0), (11, i6 r_4.1), (12, i6 r_4.1), (13, .ptr 0 0), (14, .ptr 0 0)]) ⟨[(C_bk_Drum r_4.2), [i6 0, i6 0, i6 0]], [(3, 1)]⟩ ?_)
 refine ExO.callL [0] [.ptr 0 0, i6 40] rfl rfl (by simp; try rfl) rfl (by simp) (d_bk_Drum_Roll N r_4.2 40 r_5 hr_5) (b_bk_Drum_Roll _ _ _ _) (by simp) ?_
 obtain ⟨r_6, hr_6, h⟩ := bE h
 refine rn 1 [0, 2, 11, 12, 13, 15, 16] (mkS 29 [(0, .ptr 0 0), (2, .ptr 1 0), (11, i6 r_4.1), (12, i6 r_4.1), (13, .ptr 0 0), (15, i6 r_5.1), (16, .ptr 0 0)]) ⟨[(C_bk_Drum r_5.2), [i6 0, i6 0, i6 0]], [(3, 1)]⟩ ?_
 refine ExO.callL [0] [.ptr 0 0, i6 2000] rfl rfl (by simp; try rfl) rfl (by simp) (d_bk_Drum_Roll N r_5.2 2000 r_6 hr_6) (b_bk_Drum_Roll _ _ _ _) (by simp) ?_
 obtain ⟨r_7, hr_7, h⟩ := bE h
 refine rn 1 [0, 2, 11, 12, 13, 18] (mkS 29 [(0, .ptr 0 0), (2, .ptr 1 0), (11, i6 r_4.1), (12, i6 r_4.1), (13, .ptr 0 0), (18, .sl (([0, r_5.1, r_6.1] : List Int).map (AV.int .i64)) (some 1))]) ⟨[(C_bk_Drum r_6.2), [i6 0, i6 0, i6 0]], [(3, 1), (3, 1)]⟩ ?_
 refine ExO.callL [0] [.ptr 0 0, .sl (([0, r_5.1, r_6.1] : List Int).map (AV.int .i64)) (some 1)] rfl rfl (by simp; try rfl) rfl (by simp) (d_bk_Drum_Any N r_6.2 [0, r_5.1, r_6.1] r_7 hr_7) (b_bk_Drum_Any _ _ _ _) (by simp) ?_
 obtain ⟨r_8, hr_8, h⟩ := bE h
 refine rn 3 [0, 2, 11, 20, 21, 22] (mkS 29 [(0, .ptr 0 0), (2, .ptr 1 0), (11, i6 r_4.1), (20, i6 (IntKind.i64.wrap (r_4.1 + r_7.1))), (21, .ptr 0 0), (22, .ptr 0 0)]) ⟨[(C_bk_Drum r_7.2), [i6 0, i6 0, i6 0]], [(3, 1), (3, 1)]⟩ ?_
 refine ExO.callL [0] [.ptr 0 0, i6 20] rfl rfl (by simp; try rfl) rfl (by simp) (d_bk_Drum_Roll N r_7.2 20 r_8 hr_8) (b_bk_Drum_Roll _ _ _ _) (by simp) ?_
 obtain ⟨r_9, hr_9, h⟩ := bE h
 refine rn 1 [2, 11, 20, 21, 23, 24] (mkS 29 [(2, .ptr 1 0), (11, i6 r_4.1), (20, i6 (IntKind.i64.wrap (r_4.1 + r_7.1))), (21, .ptr 0 0), (23, i6 r_8.1), (24, .ptr 0 0)]) ⟨[(C_bk_Drum r_8.2), [i6 0, i6 0, i6 0]], [(3, 1), (3, 1)]⟩ ?_
 refine ExO.callL [0] [.ptr 0 0, i6 300] rfl rfl (by simp; try rfl) rfl (by simp) (d_bk_Drum_Roll N r_8.2 300 r_9 hr_9) (b_bk_Drum_Roll _ _ _ _) (by simp) ?_
 obtain ⟨r_10, hr_10, h⟩ := bE h
 refine rn 1 [2, 11, 20, 21, 26] (mkS 29 [(2, .ptr 1 0), (11, i6 r_4.1), (20, i6 (IntKind.i64.wrap (r_4.1 + r_7.1))), (21, .ptr 0 0), (26, .sl (([0, r_8.1, r_9.1] : List Int).map (AV.int .i64)) (some 2))]) ⟨[(C_bk_Drum r_9.2), [i6 0, i6 0, i6 0]], [(3, 1), (3, 1), (3, 1)]⟩ ?_
 refine ExO.callL [0] [.ptr 0 0, .sl (([0, r_8.1, r_9.1] : List Int).map (AV.int .i64)) (some 2)] rfl rfl (by simp; try rfl) rfl (by simp) (d_bk_Drum_Any N r_9.2 [0, r_8.1, r_9.1] r_10 hr_10) (b_bk_Drum_Any _ _ _ _) (by simp) ?_
 refine rn 2 [2] (mkS 29 [(2, .ptr 1 0)]) ⟨[(C_bk_Drum r_10.2), [i6 r_4.1, i6 (IntKind.i64.wrap (r_4.1 + r_7.1)), i6 r_10.1]], [(3, 1), (3, 1), (3, 1)]⟩ ?_
 refine ExO.nil ?_
 refine Ex.ret ?_
 obtain rfl := sJ h
 exact rt (.agg [i6 r_4.1, i6 (IntKind.i64.wrap (r_4.1 + r_7.1)), i6 r_10.1])
def p_bk_EqInts (N : Nat) (a_1 : (List Int)) (b_2 : (List Int)) : Option (Bool) := (bif (((a_1.length : Nat) : Int) != ((b_2.length : Nat) : Int)) then some false else (letJ (fun (_ : Unit) => some true) (fun k_4 => (loop1 (fun rec_8 (i_7 : Int) => (bif (decide (i_7 < ((a_1.length : Nat) : Int))) then ((getI a_1 i_7).bind fun x_12 => ((getI b_2 i_7).bind fun x_13 => (bif (x_12 != x_13) then some false else (rec_8 (IntKind.i64.wrap (i_7 + 1)))))) else (k_4 ()))) N 0))))
def v_bk_EqInts (r : Bool) : AV := .bool r
attribute [local simp] v_bk_EqInts
theorem b_bk_EqInts (r : Bool) (n n2 m : Nat) : back n n2 m (v_bk_EqInts r) = some (v_bk_EqInts r) := by simp
theorem d_bk_EqInts (N : Nat) (a_1 : (List Int)) (b_2 : (List Int)) (r : Bool) (h : p_bk_EqInts N a_1 b_2 = some r) : Does Try.prog 18 [.sl (a_1.map (AV.int .i64)) none, .sl (b_2.map (AV.int .i64)) none] [] fun v c => v = v_bk_EqInts r ∧ c = [] := by
 unfold p_bk_EqInts at h
 refine Does.ofL comp18 _ _ rfl rfl ?_
 refine Ex.seq (rg 1 [0, 1] (mkS 26 [(0, .sl (a_1.map (AV.int .i64)) none), (1, .sl (b_2.map (AV.int .i64)) none)]) ⟨[], []⟩ ?_)
 refine Ex.seq (Ex.seq ?_)
 refine regH 5 [(1, .eq (i6 ((a_1.length : Nat) : Int))), (3, .eq (i6 ((b_2.length : Nat) : Int)))] [0, 1, 10] [AV.int .i64 (((a_1.map (AV.int .i64)).length : Nat) : Int) = AV.int .i64 ((a_1.length : Nat) : Int), AV.int .i64 (((b_2.map (AV.int .i64)).length : Nat) : Int) = AV.int .i64 ((b_2.length : Nat) : Int)] (mkS 26 [(0, .sl (a_1.map (AV.int .i64)) none), (1, .sl (b_2.map (AV.int .i64)) none), (10, .bool (((a_1.length : Nat) : Int) != ((b_2.length : Nat) : Int)))]) (⟨[], []⟩) (by kernel_rfl) ⟨lenM _ _, lenM _ _, trivial⟩ rfl ?_
 rcases condI h with ⟨hc_3, h⟩ | ⟨hc_3, h⟩
 ·refine Ex.condT _ rfl hc_3 ?_
  refine Ex.seq (rg 1 [4] (mkS 26 [(4, .bool false)]) ⟨[], []⟩ ?_)
  refine Ex.ret ?_
  obtain rfl := sJ h
  exact rt (.bool false)
 ·refine Ex.condF _ rfl hc_3 ?_
  refine Ex.skip ?_
  refine Ex.seq (Ex.seq ?_)
  refine rg 1 [0, 1, 5] (mkS 26 [(0, .sl (a_1.map (AV.int .i64)) none), (1, .sl (b_2.map (AV.int .i64)) none), (5, i6 0)]) ⟨[], []⟩ ?_
  obtain ⟨K_5, hK_6, h⟩ := letE h
  refine Ex.blockJ (fun a S => K_5 () = some r ∧ a = mkS 26 [] ∧ S = ⟨[], []⟩) ?_ ?_
  ·obtain ⟨B_9, hB_10, h⟩ := loop1I h
   refine Ex.loopF (fun k a S => ∃ (i_7 : Int), loop1 B_9 k i_7 = some r ∧ a = mkS 26 [(0, .sl (a_1.map (AV.int .i64)) none), (1, .sl (b_2.map (AV.int .i64)) none), (5, i6 i_7)] ∧ S = ⟨[], []⟩) N ⟨_, _, Forgets.refl _ _ _, 0, h, rfl, rfl⟩ ?_
   rintro k a S ⟨i_7, h, rfl, rfl⟩
   cases k with
   | zero => exact (loop1Z h).elim
   | succ k =>
    replace h := loop1S h hB_10
    refine Ex.seq (Ex.seq ?_)
    refine regH 4 [(2, .eq (i6 ((a_1.length : Nat) : Int)))] [0, 1, 5, 14] [AV.int .i64 (((a_1.map (AV.int .i64)).length : Nat) : Int) = AV.int .i64 ((a_1.length : Nat) : Int)] (mkS 26 [(0, .sl (a_1.map (AV.int .i64)) none), (1, .sl (b_2.map (AV.int .i64)) none), (5, i6 i_7), (14, .bool (decide (i_7 < ((a_1.length : Nat) : Int))))]) (⟨[], []⟩) (by kernel_rfl) ⟨lenM _ _, trivial⟩ rfl ?_
    rcases condI h with ⟨hc_11, h⟩ | ⟨hc_11, h⟩
    ·refine Ex.condT _ rfl hc_11 ?_
     refine Ex.skip ?_
     refine Ex.seq ?_
     refine Ex.blockK ?_
     refine Ex.seq ?_
     obtain ⟨x_12, hx_12, h⟩ := bE h
     obtain ⟨x_13, hx_13, h⟩ := bE h
     refine Ex.drawE (a1 := mkS 26 [(0, .sl (a_1.map (AV.int .i64)) none), (1, .sl (b_2.map (AV.int .i64)) none), (5, i6 i_7), (14, .bool (decide (i_7 < ((a_1.length : Nat) : Int)))), (17, .sl (a_1.map (AV.int .i64)) none), (18, i6 i_7), (19, .rop [i6 x_12]), (20, i6 x_12), (21, .sl (b_2.map (AV.int .i64)) none), (22, i6 i_7), (23, .rop [i6 x_13]), (24, i6 x_13)]) (noClr_ok _) [] [] [] ?_ ?_
     ·refine drS [] 8 [(2, .rop [i6 x_12]), (6, .rop [i6 x_13])] [LGet (a_1.map (AV.int .i64)) i_7 1 [i6 x_12], LGet (b_2.map (AV.int .i64)) i_7 1 [i6 x_13]] (mkS 26 [(0, .sl (a_1.map (AV.int .i64)) none), (1, .sl (b_2.map (AV.int .i64)) none), (5, i6 i_7), (14, .bool (decide (i_7 < ((a_1.length : Nat) : Int)))), (17, .sl (a_1.map (AV.int .i64)) none), (18, i6 i_7), (19, .rop [i6 x_12]), (20, i6 x_12), (21, .sl (b_2.map (AV.int .i64)) none), (22, i6 i_7), (23, .rop [i6 x_13]), (24, i6 x_13)]) (by simp) (by kernel_rfl) ⟨LGet.of hx_12 rfl, LGet.of hx_13 rfl, trivial⟩ (by kernel_rfl) ?_
      exact DrO.nil rfl
     ·dsimp only [List.getLastD_cons, List.getLastD_nil]
      refine rn 1 [0, 1, 5, 25] (mkS 26 [(0, .sl (a_1.map (AV.int .i64)) none), (1, .sl (b_2.map (AV.int .i64)) none), (5, i6 i_7), (25, .bool (x_12 != x_13))]) ⟨[], []⟩ ?_
      refine ExO.nil ?_
      rcases condI h with ⟨hc_14, h⟩ | ⟨hc_14, h⟩
      ·refine Ex.condT _ rfl hc_14 ?_
       refine Ex.seq (rg 1 [4] (mkS 26 [(4, .bool false)]) ⟨[], []⟩ ?_)
       refine Ex.ret ?_
       obtain rfl := sJ h
       exact rt (.bool false)
      ·refine Ex.condF _ rfl hc_14 ?_
       refine Ex.skip ?_
       refine rg 3 [0, 1, 5] (mkS 26 [(0, .sl (a_1.map (AV.int .i64)) none), (1, .sl (b_2.map (AV.int .i64)) none), (5, i6 (IntKind.i64.wrap (i_7 + 1)))]) ⟨[], []⟩ ?_
       dsimp only
       exact ⟨_, _, Forgets.refl _ _ _, k, Nat.lt_succ_self k, (IntKind.i64.wrap (i_7 + 1)), h, rfl, rfl⟩
    ·refine Ex.condF _ rfl hc_11 ?_
     refine Ex.exit ?_
     (try simp only [reduceCtorEq, AEx.ex.injEq, Nat.reduceEqDiff, if_true, if_false])
     exact ⟨_, _, forgetK [], h, rfl, rfl⟩
  ·rintro a S ⟨h, rfl, rfl⟩
   subst hK_6
   refine Ex.seq (rg 1 [4] (mkS 26 [(4, .bool true)]) ⟨[], []⟩ ?_)
   refine Ex.ret ?_
   obtain rfl := sJ h
   exact rt (.bool true)
def p_bk_Ints (N : Nat) (l_1 : (List Int)) : Option ((List Int)) := ((pushI ([] : List Int) l_1).bind fun l_2 => some l_2)
def v_bk_Ints (r : (List Int)) : AV := .sl (r.map (AV.int .i64)) none
attribute [local simp] v_bk_Ints
def p_br1_Fast (N : Nat) (s_1 : T_School) : Option ((List Int)) := (letJ (fun (out_2 : List Int) => some out_2) (fun k_3 => (loop2 (fun rec_8 (out_6 : List Int) (i_7 : Int) => (bif (decide (i_7 < ((s_1.Wings.length : Nat) : Int))) then ((getI s_1.Wings i_7).bind fun x_12 => ((pushI out_6 ([x_12.Pace.Hi] : List Int)).bind fun l_13 => (rec_8 l_13 (IntKind.i64.wrap (i_7 + 1))))) else (k_3 out_6))) N [] 0)))
def v_br1_Fast (r : (List Int)) : AV := .sl (r.map (AV.int .i64)) none
attribute [local simp] v_br1_Fast
theorem b_br1_Fast (r : (List Int)) (n n2 m : Nat) : back n n2 m (v_br1_Fast r) = some (v_br1_Fast r) := by simp
theorem d_br1_Fast (N : Nat) (s_1 : T_School) (r : (List Int)) (h : p_br1_Fast N s_1 = some r) : Does Try.prog 53 [(A_School s_1)] [] fun v c => v = v_br1_Fast r ∧ c = [] := by
 unfold p_br1_Fast at h
 refine Does.ofL comp53 _ _ rfl rfl ?_
 refine Ex.seq (rg 2 [1] (mkS 23 [(1, .ptr 0 0)]) ⟨[(C_School s_1)], []⟩ ?_)
 refine Ex.seq (rg 1 [1, 3] (mkS 23 [(1, .ptr 0 0), (3, .nils)]) ⟨[(C_School s_1)], []⟩ ?_)
 refine Ex.seq (Ex.seq ?_)
 refine rg 1 [1, 3, 4] (mkS 23 [(1, .ptr 0 0), (3, .nils), (4, i6 0)]) ⟨[(C_School s_1)], []⟩ ?_
 obtain ⟨K_4, hK_5, h⟩ := letE h
 refine Ex.blockJ (fun a S => ∃ (out_2 : List Int), K_4 out_2 = some r ∧ a = mkS 23 [(3, .sl (out_2.map (AV.int .i64)) (some 0))] ∧ S = ⟨[], [(out_2.length, 1)]⟩) ?_ ?_
 ·refine Ex.forget (nilK 3 1 rfl) ?_
  refine Ex.castA (a2 := mkS 23 [(1, .ptr 0 0), (3, .sl (([] : List Int).map (AV.int .i64)) (some 0)), (4, i6 0)]) (S2 := ⟨[(C_School s_1)], [(0, 1)]⟩) (by kernel_rfl) (by kernel_rfl) ?_
  obtain ⟨B_9, hB_10, h⟩ := loop2I h
  refine Ex.loopF (fun k a S => ∃ (out_6 : List Int), ∃ (i_7 : Int), loop2 B_9 k out_6 i_7 = some r ∧ a = mkS 23 [(1, .ptr 0 0), (3, .sl (out_6.map (AV.int .i64)) (some 0)), (4, i6 i_7)] ∧ S = ⟨[(C_School s_1)], [(out_6.length, 1)]⟩) N ⟨_, _, Forgets.refl _ _ _, [], 0, h, rfl, rfl⟩ ?_
  rintro k a S ⟨out_6, i_7, h, rfl, rfl⟩
  cases k with
  | zero => exact (loop2Z h).elim
  | succ k =>
   replace h := loop2S h hB_10
   refine Ex.seq (Ex.seq ?_)
   refine regH 5 [(3, .eq (i6 ((s_1.Wings.length : Nat) : Int)))] [1, 3, 4, 9] [AV.int .i64 (((s_1.Wings.map A_Wing).length : Nat) : Int) = AV.int .i64 ((s_1.Wings.length : Nat) : Int)] (mkS 23 [(1, .ptr 0 0), (3, .sl (out_6.map (AV.int .i64)) (some 0)), (4, i6 i_7), (9, .bool (decide (i_7 < ((s_1.Wings.length : Nat) : Int))))]) (⟨[(C_School s_1)], [(out_6.length, 1)]⟩) (by kernel_rfl) ⟨lenM _ _, trivial⟩ rfl ?_
   rcases condI h with ⟨hc_11, h⟩ | ⟨hc_11, h⟩
   ·refine Ex.condT _ rfl hc_11 ?_
    refine Ex.skip ?_
    refine Ex.seq ?_
    refine Ex.blockK ?_
    obtain ⟨x_12, hx_12, h⟩ := bE h
    obtain ⟨l_13, hl_13, h⟩ := bE h
    refine regH 11 [(4, .rop (C_Wing x_12)), (9, .app (l_13.map (AV.int .i64)) l_13.length)] [1, 3, 4] [LGet (s_1.Wings.map A_Wing) i_7 4 (C_Wing x_12), LApp out_6.length (out_6.map (AV.int .i64)) (([x_12.Pace.Hi] : List Int).map (AV.int .i64)) 1 (l_13.map (AV.int .i64)) l_13.length] (mkS 23 [(1, .ptr 0 0), (3, .sl (l_13.map (AV.int .i64)) (some 0)), (4, i6 i_7)]) (⟨[(C_School s_1)], [(l_13.length, 1), (1, 1)]⟩) (by kernel_rfl) ⟨LGet.of hx_12 rfl, LApp.of hl_13 (fun _ => rfl), trivial⟩ rfl ?_
    refine rg 3 [1, 3, 4] (mkS 23 [(1, .ptr 0 0), (3, .sl (l_13.map (AV.int .i64)) (some 0)), (4, i6 (IntKind.i64.wrap (i_7 + 1)))]) ⟨[(C_School s_1)], [(l_13.length, 1), (1, 1)]⟩ ?_
    dsimp only
    exact ⟨_, _, forgetA (m := 23) 1 [0] [(1, .ptr 0 0), (3, .sl (l_13.map (AV.int .i64)) (some 0)), (4, i6 (IntKind.i64.wrap (i_7 + 1)))] [(C_School s_1)] [(l_13.length, 1)] (by simp [setAll]) (by simp) ⟨rfl, (reT (cleanI _ _) rfl), rfl, trivial⟩ (by simp) rfl (by decide), k, Nat.lt_succ_self k, l_13, (IntKind.i64.wrap (i_7 + 1)), h, rfl, rfl⟩
   ·refine Ex.condF _ rfl hc_11 ?_
    refine Ex.exit ?_
    (try simp only [reduceCtorEq, AEx.ex.injEq, Nat.reduceEqDiff, if_true, if_false])
    exact ⟨_, _, forgetA (m := 23) 0 [0] [(3, .sl (out_6.map (AV.int .i64)) (some 0))] [] [(out_6.length, 1)] (by simp [setAll]) (by simp) ⟨(reT (cleanI _ _) rfl), trivial⟩ (by simp) rfl (by decide), out_6, h, rfl, rfl⟩
 ·rintro a S ⟨out_2, h, rfl, rfl⟩
  subst hK_5
  refine Ex.seq (rg 2 [2] (mkS 23 [(2, .sl (out_2.map (AV.int .i64)) (some 0))]) ⟨[], [(out_2.length, 1)]⟩ ?_)
  refine Ex.ret ?_
  obtain rfl := sJ h
  exact rt (.sl (out_2.map (AV.int .i64)) (some 0))
def p_br1_Watched (N : Nat) (s_1 : T_School) (starts_2 : (List Int)) (wing_3 : Int) : Option (Int × Int) := ((getI starts_2 wing_3).bind fun x_4 => ((p_br1_Fast N s_1).bind fun r_5 => ((getI s_1.Wings (IntKind.i64.wrap (wing_3 - 1))).bind fun x_6 => ((p_br1_Passed N s_1 starts_2 r_5 (IntKind.i64.wrap (wing_3 - 1)) (IntKind.i64.wrap (s_1.Route + x_6.Length))).bind fun r_7 => some (x_4, r_7)))))
def v_br1_Watched (r : Int × Int) : AV := .tup [i6 r.1, i6 r.2]
attribute [local simp] v_br1_Watched
theorem a_br1_Watched (s_1 : T_School) (starts_2 : (List Int)) (wing_3 : Int) : [(A_School s_1), .sl (starts_2.map (AV.int .i64)) none, i6 wing_3].mapM (ren []) = some [(A_School s_1), .sl (starts_2.map (AV.int .i64)) none, i6 wing_3] := by simp
theorem b_br1_Watched (r : Int × Int) (n n2 m : Nat) : back n n2 m (v_br1_Watched r) = some (v_br1_Watched r) := by simp
theorem d_br1_Watched (N : Nat) (s_1 : T_School) (starts_2 : (List Int)) (wing_3 : Int) (r : Int × Int) (h : p_br1_Watched N s_1 starts_2 wing_3 = some r) : Does Try.prog 24 [(A_School s_1), .sl (starts_2.map (AV.int .i64)) none, i6 wing_3] [] fun v c => v = v_br1_Watched r ∧ c = [] := by
 unfold p_br1_Watched at h
 refine Does.ofL comp24 _ _ rfl rfl ?_
 refine Ex.seq (rg 3 [1, 2, 3] (mkS 29 [(1, .sl (starts_2.map (AV.int .i64)) none), (2, i6 wing_3), (3, .ptr 0 0)]) ⟨[(C_School s_1)], []⟩ ?_)
 refine Ex.seq ?_
 obtain ⟨x_4, hx_4, h⟩ := bE h
 obtain ⟨r_5, hr_5, h⟩ := bE h
 obtain ⟨x_6, hx_6, h⟩ := bE h
 obtain ⟨r_7, hr_7, h⟩ := bE h
 have hT_8 : DoesA Try.prog [⟨53, [(A_School s_1)], [], (v_br1_Fast r_5), []⟩, ⟨52, [(A_School s_1), .sl (starts_2.map (AV.int .i64)) none, .sl (r_5.map (AV.int .i64)) none, i6 (IntKind.i64.wrap (wing_3 - 1)), i6 (IntKind.i64.wrap (s_1.Route + x_6.Length))], [], (v_br1_Passed r_7), []⟩] ∧ ConsA [⟨53, [(A_School s_1)], [], (v_br1_Fast r_5), []⟩, ⟨52, [(A_School s_1), .sl (starts_2.map (AV.int .i64)) none, .sl (r_5.map (AV.int .i64)) none, i6 (IntKind.i64.wrap (wing_3 - 1)), i6 (IntKind.i64.wrap (s_1.Route + x_6.Length))], [], (v_br1_Passed r_7), []⟩] := ⟨⟨(d_br1_Fast N s_1 r_5 hr_5), rfl, (d_br1_Passed N s_1 starts_2 r_5 (IntKind.i64.wrap (wing_3 - 1)) (IntKind.i64.wrap (s_1.Route + x_6.Length)) r_7 hr_7), rfl, trivial⟩, ⟨⟨ConsR.ne rfl, trivial⟩, trivial, trivial⟩⟩
 refine Ex.drawE (a1 := mkS 29 [(1, .sl (starts_2.map (AV.int .i64)) none), (2, i6 wing_3), (3, .ptr 0 0), (8, .sl (starts_2.map (AV.int .i64)) none), (9, i6 wing_3), (10, .rop [i6 x_4]), (11, i6 x_4), (12, (A_School s_1)), (13, .sl (starts_2.map (AV.int .i64)) none), (14, (A_School s_1)), (15, .sl (r_5.map (AV.int .i64)) none), (16, i6 wing_3), (17, i6 (IntKind.i64.wrap (wing_3 - 1))), (18, .ptr 0 0), (19, i6 s_1.Route), (20, .ptr 0 1), (21, .sl (s_1.Wings.map A_Wing) none), (22, i6 wing_3), (23, i6 (IntKind.i64.wrap (wing_3 - 1))), (24, .rop (C_Wing x_6)), (25, .rop [i6 x_6.Length, i6 x_6.Pace.Lo, i6 x_6.Pace.Hi]), (26, i6 x_6.Length), (27, i6 (IntKind.i64.wrap (s_1.Route + x_6.Length))), (28, i6 r_7)]) (tabO_ok hT_8.1) [] [] [] ?_ ?_
 ·refine drS [0] 7 [(2, .rop [i6 x_4])] [LGet (starts_2.map (AV.int .i64)) wing_3 1 [i6 x_4]] (mkS 29 [(1, .sl (starts_2.map (AV.int .i64)) none), (2, i6 wing_3), (3, .ptr 0 0), (8, .sl (starts_2.map (AV.int .i64)) none), (9, i6 wing_3), (10, .rop [i6 x_4]), (11, i6 x_4), (12, (A_School s_1)), (13, .sl (starts_2.map (AV.int .i64)) none), (14, (A_School s_1))]) (by simp) (by kernel_rfl) ⟨LGet.of hx_4 rfl, trivial⟩ (by kernel_rfl) ?_
  refine drC hT_8.2 0 _ [(A_School s_1)] (v_br1_Fast r_5) rfl rfl rfl rfl rfl (fun _ => rfl) rfl (by simp; try rfl) (fun _ => b_br1_Fast _ _ _ _) ?_
  refine drS [0] 12 [(8, .rop (C_Wing x_6))] [LGet (s_1.Wings.map A_Wing) (IntKind.i64.wrap (wing_3 - 1)) 4 (C_Wing x_6)] (mkS 29 [(1, .sl (starts_2.map (AV.int .i64)) none), (2, i6 wing_3), (3, .ptr 0 0), (8, .sl (starts_2.map (AV.int .i64)) none), (9, i6 wing_3), (10, .rop [i6 x_4]), (11, i6 x_4), (12, (A_School s_1)), (13, .sl (starts_2.map (AV.int .i64)) none), (14, (A_School s_1)), (15, .sl (r_5.map (AV.int .i64)) none), (16, i6 wing_3), (17, i6 (IntKind.i64.wrap (wing_3 - 1))), (18, .ptr 0 0), (19, i6 s_1.Route), (20, .ptr 0 1), (21, .sl (s_1.Wings.map A_Wing) none), (22, i6 wing_3), (23, i6 (IntKind.i64.wrap (wing_3 - 1))), (24, .rop (C_Wing x_6)), (25, .rop [i6 x_6.Length, i6 x_6.Pace.Lo, i6 x_6.Pace.Hi]), (26, i6 x_6.Length), (27, i6 (IntKind.i64.wrap (s_1.Route + x_6.Length)))]) (by simp) (by kernel_rfl) ⟨LGet.of hx_6 rfl, trivial⟩ (by kernel_rfl) ?_
  refine drC hT_8.2 1 _ [(A_School s_1), .sl (starts_2.map (AV.int .i64)) none, .sl (r_5.map (AV.int .i64)) none, i6 (IntKind.i64.wrap (wing_3 - 1)), i6 (IntKind.i64.wrap (s_1.Route + x_6.Length))] (v_br1_Passed r_7) rfl rfl rfl rfl rfl (fun _ => rfl) rfl (by simp; try rfl) (fun _ => b_br1_Passed _ _ _ _) ?_
  exact DrO.nil rfl
 ·dsimp only [List.getLastD_cons, List.getLastD_nil]
  refine rn 2 [6, 7] (mkS 29 [(6, i6 x_4), (7, i6 r_7)]) ⟨[(C_School s_1)], []⟩ ?_
  refine ExO.nil ?_
  refine Ex.ret ?_
  obtain rfl := sJ h
  exact rt (.tup [i6 x_4, i6 r_7])
end Go.Proofs.Ytloklokkognalaa
end
section
namespace Go.Proofs.Ytloklokkognalaa
open Go.RowKit

def cdiv (n d : Int) : Int := Int.tdiv (n + d - 1) d
theorem cdiv_le {n d q : Int} (hn : 0 ≤ n) (hd : 1 ≤ d) (h : n ≤ q * d) : cdiv n d ≤ q := by
 unfold cdiv
 rw [Int.tdiv_eq_ediv_of_nonneg (by omega)]
 have : (n + d - 1) / d < q + 1 := Int.ediv_lt_of_lt_mul (by omega) (by rw [Int.add_mul]; omega)
 omega
theorem cdiv_ge {n d : Int} (hn : 0 ≤ n) (hd : 1 ≤ d) : n ≤ cdiv n d * d := by
 unfold cdiv
 rw [Int.tdiv_eq_ediv_of_nonneg (by omega)]
 have h1 := Int.emod_add_mul_ediv (n + d - 1) d
 have h2 := Int.emod_lt_of_pos (n + d - 1) (show 0 < d by omega)
 rw [Int.mul_comm] at h1
 omega
theorem cdiv_nonneg {n d : Int} (hn : 0 ≤ n) (hd : 1 ≤ d) : 0 ≤ cdiv n d := by
 unfold cdiv
 rw [Int.tdiv_eq_ediv_of_nonneg (by omega)]
 exact Int.ediv_nonneg (by omega) (by omega)
theorem cdiv_self {n d : Int} (hn : 0 ≤ n) (hd : 1 ≤ d) : cdiv n d ≤ n := by
 refine cdiv_le hn hd ?_
 have := Int.mul_le_mul_of_nonneg_left hd hn
 rw [Int.mul_one] at this
 exact this
def atI (l : List Int) (k : Nat) : Int := l[k]?.getD 0
def lenW (ws : List T_Wing) (k : Nat) : Int := (ws[k]?.map (·.Length)).getD 0
def up (ws : List T_Wing) (st pc : Nat → Int) : Nat → Int → Int → Int
 | 0, _, sec => sec
 | j + 1, pl, sec => up ws st pc j (pl + lenW ws (j - 1)) (if st j + cdiv pl (pc j) > sec then st j + cdiv pl (pc j) else sec)
theorem up_congr {ws : List T_Wing} {st st' pc pc' : Nat → Int} : ∀ (j : Nat) (pl sec : Int), (∀ k, k < j → st k = st' k ∧ pc k = pc' k) → up ws st pc j pl sec = up ws st' pc' j pl sec
 | 0, _, _, _ => rfl
 | j + 1, pl, sec, h => by
  obtain ⟨h1, h2⟩ := h j (by omega)
  show up ws st pc j _ _ = up ws st' pc' j _ _
  rw [h1, h2]
  exact up_congr j _ _ fun k hk => h k (by omega)
theorem up_ge {ws : List T_Wing} {st pc : Nat → Int} : ∀ (j : Nat) (pl sec : Int), sec ≤ up ws st pc j pl sec
 | 0, _, _ => Int.le_refl _
 | j + 1, pl, sec => by
  refine Int.le_trans ?_ (up_ge j _ _)
  split <;> omega
theorem up_bd {ws : List T_Wing} {st pc : Nat → Int} {m B : Int} (hl : ∀ k, 0 ≤ lenW ws k ∧ lenW ws k ≤ 100) : ∀ (j : Nat) (pl sec : Int), 0 ≤ pl → pl + 100 * (j : Int) ≤ B → (∀ k, k < j → st k ≤ m ∧ 1 ≤ pc k) → sec ≤ m + B → up ws st pc j pl sec ≤ m + B
 | 0, _, _, _, _, _, h => h
 | j + 1, pl, sec, hp, hb, h, hs => by
  obtain ⟨h1, h2⟩ := h j (by omega)
  have h3 := cdiv_self hp h2
  have h4 := hl (j - 1)
  refine up_bd hl j _ _ (by omega) (by omega) (fun k hk => h k (by omega)) ?_
  split <;> omega
def wn : List ByteArray := [(ByteArray.mk #[102, 114, 111, 110, 116]), (ByteArray.mk #[100, 114, 117, 109, 115]), (ByteArray.mk #[102, 108, 97, 103, 115]), (ByteArray.mk #[102, 108, 111, 97, 116]), (ByteArray.mk #[98, 97, 105, 97, 110, 97, 115]), (ByteArray.mk #[107, 105, 100, 115]), (ByteArray.mk #[113, 117, 101, 101, 110, 115]), (ByteArray.mk #[98, 97, 99, 107])]
structure GoodW (w : T_Wing) : Prop where
 l0 : 1 ≤ w.Length
 l1 : w.Length ≤ 80
 p0 : 1 ≤ w.Pace.Lo
 p1 : w.Pace.Lo ≤ w.Pace.Hi
 p2 : w.Pace.Hi ≤ 80
structure GoodWs (ws : List T_Wing) : Prop where
 wing : ∀ (i : Nat) w, ws[i]? = some w → GoodW w ∧ wn[i]? = some w.Name
theorem schoolOf_p (N : Nat) (hN : 1000 < N) (d : T_bk_Drum) (most : Nat) (hm : most ≤ 8) (h1 : 1 ≤ most) : ∃ (s : T_School) (d' : T_bk_Drum), p_bk_SchoolOf N d (most : Int) = some (s, d') ∧ 1 ≤ s.Route ∧ s.Route ≤ 2000 ∧ 1 ≤ s.Wings.length ∧ s.Wings.length ≤ most ∧ GoodWs s.Wings := by
 unfold p_bk_SchoolOf
 obtain ⟨r, d1, e, hr⟩ := any_p N d [60, 400, 2000] (by simp) (by simp)
 rw [e, Option.bind_some]; clear e
 have hr : r = 60 ∨ r = 400 ∨ r = 2000 := by simpa using hr
 dsimp only
 obtain ⟨R, d2, e, r0, r1, _⟩ := mid_p N d1 1 r (by omega) (by omega) (by omega) (by omega)
 have r1 := r1 (by omega)
 rw [e, Option.bind_some]; clear e
 dsimp only
 obtain ⟨i0, d3, e, i1, i2, _⟩ := mid_p N d2 1 (most : Int) (by omega) (by omega) (by omega) (by omega)
 have i2 := i2 (by omega)
 rw [e, Option.bind_some]; clear e
 dsimp only
 refine letJ_gen (fun x => ∃ (s : T_School) (d' : T_bk_Drum), x = some (s, d') ∧ 1 ≤ s.Route ∧ s.Route ≤ 2000 ∧ 1 ≤ s.Wings.length ∧ s.Wings.length ≤ most ∧ GoodWs s.Wings) _ _ (fun K hK => ?_)
 refine loop3_T (fun x => ∃ (s : T_School) (d' : T_bk_Drum), x = some (s, d') ∧ 1 ≤ s.Route ∧ s.Route ≤ 2000 ∧ 1 ≤ s.Wings.length ∧ s.Wings.length ≤ most ∧ GoodWs s.Wings) (fun i b (l : List T_Wing) => 0 ≤ i ∧ (l.length : Int) + i = i0 ∧ GoodWs l) (fun i b l => i.toNat) ?_ N i0 _ [] ⟨by omega, by simp, ⟨fun i w h => by simp at h⟩⟩ (by omega)
 rintro rec i b l ⟨q0, q1, q2⟩ ih
 by_cases hp : i > 0
 ·rw [decide_eq_true hp, cond_true]
  obtain ⟨x, d4, e, hx⟩ := any_p N ⟨b⟩ [5, 40] (by simp) (by simp)
  rw [e, Option.bind_some]; clear e
  have hx : x = 5 ∨ x = 40 := by simpa using hx
  dsimp only
  obtain ⟨pace, d5, e, p0, p1, _⟩ := mid_p N d4 1 x (by omega) (by omega) (by omega) (by omega)
  have p1 := p1 (by omega)
  rw [e, Option.bind_some]; clear e
  dsimp only
  have hwn : p_bk_wingNames N = some wn := rfl
  have hlt : l.length < wn.length := by show l.length < 8; omega
  have hn : wn[l.length]? = some wn[l.length] := List.getElem?_eq_getElem hlt
  rw [hwn, Option.bind_some, getD_at hn, Option.bind_some]
  obtain ⟨y, d6, e, hy⟩ := any_p N d5 [10, 80] (by simp) (by simp)
  rw [e, Option.bind_some]; clear e
  have hy : y = 10 ∨ y = 80 := by simpa using hy
  dsimp only
  obtain ⟨len, d7, e, l0, l1, _⟩ := mid_p N d6 1 y (by omega) (by omega) (by omega) (by omega)
  have l1 := l1 (by omega)
  rw [e, Option.bind_some]; clear e
  dsimp only
  obtain ⟨a, d8, e, a0, a1⟩ := roll_le N d7 4 (by omega) (by omega)
  rw [e, Option.bind_some]; clear e
  dsimp only
  obtain ⟨b2, d9, e, b0, b1⟩ := roll_le N d8 30 (by omega) (by omega)
  rw [e, Option.bind_some]; clear e
  dsimp only
  obtain ⟨z, d10, e, hz⟩ := any_p N d9 [0, a, b2] (by simp) (by simp)
  rw [e, Option.bind_some]; clear e
  have hz : z = 0 ∨ z = a ∨ z = b2 := by simpa using hz
  dsimp only
  rw [pushI_ok (by simp; omega), Option.bind_some, w64 (x := i - 1) (by omega) (by omega), w64 (x := pace + z) (by omega) (by omega)]
  refine ih _ _ _ ⟨by omega, by simp; omega, ⟨fun k w hw => ?_⟩⟩ (by omega)
  by_cases hk : k < l.length
  ·rw [List.getElem?_append_left hk] at hw
   exact q2.wing k w hw
  ·have hk2 := (List.getElem?_eq_some_iff.1 hw).1
   have : k = l.length := by simp at hk2; omega
   subst this
   rw [List.getElem?_concat_length] at hw
   cases hw
   exact ⟨⟨l0, by dsimp only; omega, p0, by dsimp only; omega, by dsimp only; omega⟩, hn⟩
 ·rw [decide_eq_false hp, cond_false, hK]
  exact ⟨_, _, rfl, r0, by dsimp only; omega, by dsimp only; omega, by dsimp only; omega, q2⟩
theorem lenW_bd {ws : List T_Wing} (h : GoodWs ws) (k : Nat) : 0 ≤ lenW ws k ∧ lenW ws k ≤ 100 := by
 unfold lenW
 cases hw : ws[k]? with
 | none => simp
 | some w =>
  have := (h.wing k w hw).1
  have := this.l0
  have := (h.wing k w hw).1.l1
  simp
  omega
theorem passed_p (N : Nat) (hN : 1000 < N) (s : T_School) (h : GoodWs s.Wings) (st pc : List Int) (i : Nat) (hi : i < s.Wings.length) (h8 : s.Wings.length ≤ 8) (hst : i < st.length) (hpc : i < pc.length) (hs : ∀ k, k ≤ i → 0 ≤ atI st k ∧ atI st k ≤ 20000) (hp : ∀ k, k ≤ i → 1 ≤ atI pc k ∧ atI pc k ≤ 200) (pl : Int) (p0 : 0 ≤ pl) (p1 : pl ≤ 100000) : p_br1_Passed N s st pc (i : Int) pl = some (up s.Wings (atI st) (atI pc) (i + 1) pl (atI st i)) := by
 have hget : ∀ (l : List Int) k, k < l.length → getI l (k : Int) = some (atI l k) := fun l k hk => by
  rw [getI_nat]
  unfold atI
  rw [List.getElem?_eq_getElem hk]
  rfl
 unfold p_br1_Passed
 rw [hget st i hst, Option.bind_some]
 refine letJ_gen (fun x => x = some (up s.Wings (atI st) (atI pc) (i + 1) pl (atI st i))) _ _ (fun K hK => ?_)
 refine loop3_T (fun x => x = some (up s.Wings (atI st) (atI pc) (i + 1) pl (atI st i))) (fun place second k => ∃ j : Nat, k = (j : Int) - 1 ∧ j ≤ i + 1 ∧ 0 ≤ place ∧ place + 100 * (j : Int) ≤ 200000 ∧ 0 ≤ second ∧ second ≤ 400000 ∧ up s.Wings (atI st) (atI pc) j (if j ≤ i then place + lenW s.Wings (j - 1) else place) second = up s.Wings (atI st) (atI pc) (i + 1) pl (atI st i)) (fun _ _ k => (k + 1).toNat) ?_ N _ _ _ ⟨i + 1, by omega, Nat.le_refl _, p0, by omega, (hs i (Nat.le_refl _)).1, by have := (hs i (Nat.le_refl _)).2; omega, by rw [if_neg (by omega)]⟩ (by omega)
 rintro rec place second k ⟨j, rfl, hj, q0, q1, q2, q3, q4⟩ ih
 by_cases hj0 : j = 0
 ·subst hj0
  rw [show decide (((0 : Nat) : Int) - 1 ≥ 0) = false from rfl, cond_false, hK]
  rw [← q4]
  rfl
 ·obtain ⟨m, rfl⟩ : ∃ m, j = m + 1 := ⟨j - 1, by omega⟩
  have hm : ((m + 1 : Nat) : Int) - 1 = (m : Int) := by omega
  rw [hm, show decide ((m : Int) ≥ 0) = true from decide_eq_true (by omega), cond_true]
  have hlb := lenW_bd h m
  have hlb2 := lenW_bd h (m - 1)
  have hsm := hs m (by omega)
  have hpm := hp m (by omega)
  refine letJ_gen (fun x => x = some (up s.Wings (atI st) (atI pc) (i + 1) pl (atI st i))) _ _ (fun K2 hK2 => ?_)
  have hgo : ∀ place2 : Int, place2 = (if m + 1 ≤ i then place + lenW s.Wings m else place) → K2 place2 = some (up s.Wings (atI st) (atI pc) (i + 1) pl (atI st i)) := by
   intro place2 hp2
   have hpb : 0 ≤ place2 ∧ place2 + 100 * (m : Int) ≤ 200000 := by rw [hp2]; split <;> omega
   rw [hK2]
   dsimp only
   have hc0 := cdiv_nonneg hpb.1 hpm.1
   have hc1 := cdiv_self hpb.1 hpm.1
   rw [hget st m (by omega), Option.bind_some, hget pc m (by omega), Option.bind_some, Option.bind_some, show nzI (atI pc m) = some () from by unfold nzI; rw [if_neg (by omega)], Option.bind_some]
   rw [show (if place2 > 0 then place2 else 0) = place2 by split <;> omega, w64 (x := place2 + atI pc m) (by omega) (by omega), w64 (x := place2 + atI pc m - 1) (by omega) (by omega)]
   rw [show Int.tdiv (place2 + atI pc m - 1) (atI pc m) = cdiv place2 (atI pc m) from rfl, w64 (x := cdiv place2 (atI pc m)) (by omega) (by omega), w64 (x := atI st m + cdiv place2 (atI pc m)) (by omega) (by omega), Option.bind_some, w64 (x := (m : Int) - 1) (by omega) (by omega)]
   refine ih _ _ _ ⟨m, rfl, by omega, hpb.1, hpb.2, ?_, ?_, ?_⟩ (by omega)
   ·split <;> omega
   ·split <;> omega
   ·rw [if_pos (by omega), ← q4, hp2]
    show _ = up s.Wings (atI st) (atI pc) m _ _
    rfl
  have hW : s.Wings[m]? = some s.Wings[m] := List.getElem?_eq_getElem (by omega)
  by_cases hlt : m < i
  ·rw [show decide ((m : Int) < (i : Int)) = true from decide_eq_true (by omega), cond_true, getD_at hW, Option.bind_some]
   have hle : lenW s.Wings m = s.Wings[m].Length := by unfold lenW; rw [hW]; rfl
   rw [w64 (by omega) (by omega)]
   exact hgo _ (by rw [if_pos (by omega), hle])
  ·rw [show decide ((m : Int) < (i : Int)) = false from decide_eq_false (by omega), cond_false]
   exact hgo _ (by rw [if_neg (by omega)])
end Go.Proofs.Ytloklokkognalaa
end
section
namespace Go.Proofs.Ytloklokkognalaa
open Go.RowKit
attribute [local simp] ren ren1 AV.plain AV.plain1 AV.clean cleanL cleanI cleanBo cleanSt cleanII KL_bk_Drum KL_Span KL_Wing KL_School KL_Rules A_bk_Drum C_bk_Drum A_Span C_Span A_Wing C_Wing A_School C_School A_Rules C_Rules back back1 re re1 List.idxOf? List.findIdx? List.findIdx?.go KB_bk_Drum KB_Span KB_Wing KB_School KB_Rules fadeS fadeV
def p_parade_within (N : Nat) (n_1 : Int) (least_2 : Int) (most_3 : Int) : Option (Bool) := (bif (decide (n_1 ≥ least_2)) then some (decide (n_1 ≤ most_3)) else some false)
def v_parade_within (r : Bool) : AV := .bool r
attribute [local simp] v_parade_within
theorem a_parade_within (n_1 : Int) (least_2 : Int) (most_3 : Int) : [i6 n_1, i6 least_2, i6 most_3].mapM (ren []) = some [i6 n_1, i6 least_2, i6 most_3] := by simp
theorem b_parade_within (r : Bool) (n n2 m : Nat) : back n n2 m (v_parade_within r) = some (v_parade_within r) := by simp
theorem d_parade_within (N : Nat) (n_1 : Int) (least_2 : Int) (most_3 : Int) (r : Bool) (h : p_parade_within N n_1 least_2 most_3 = some r) : Does Try.prog 65 [i6 n_1, i6 least_2, i6 most_3] [] fun v c => v = v_parade_within r ∧ c = [] := by
 unfold p_parade_within at h
 refine Does.ofL comp65 _ _ rfl rfl ?_
 refine Ex.seq (rg 1 [0, 1, 2] (mkS 15 [(0, i6 n_1), (1, i6 least_2), (2, i6 most_3)]) ⟨[], []⟩ ?_)
 refine Ex.seq ?_
 rcases condI h with ⟨hc_4, h⟩ | ⟨hc_4, h⟩
 ·refine regH 9 [(3, .eq (.bool true))] [6] [AV.bool (decide (n_1 ≥ least_2)) = AV.bool true] (mkS 15 [(6, .bool (decide (n_1 ≤ most_3)))]) (⟨[], []⟩) (by kernel_rfl) ⟨congrArg AV.bool hc_4, trivial⟩ rfl ?_
  refine Ex.ret ?_
  obtain rfl := sJ h
  exact rt (.bool (decide (n_1 ≤ most_3)))
 ·refine regH 9 [(3, .eq (.bool false))] [6] [AV.bool (decide (n_1 ≥ least_2)) = AV.bool false] (mkS 15 [(6, .bool false)]) (⟨[], []⟩) (by kernel_rfl) ⟨congrArg AV.bool hc_4, trivial⟩ rfl ?_
  refine Ex.ret ?_
  obtain rfl := sJ h
  exact rt (.bool false)
def p_parade_isName (N : Nat) (name_1 : ByteArray) : Option (Bool) := ((p_parade_within N (name_1.size : Int) 1 8).bind fun r_2 => (bif (!r_2) then some false else (letJ (fun (_ : Unit) => some true) (fun k_4 => (loop1 (fun rec_8 (y_7 : Int) => (bif (decide (y_7 < (name_1.size : Int))) then (letJ (fun (y_12 : Bool) => (bif y_12 then some false else (rec_8 (IntKind.i64.wrap (y_7 + 1))))) (fun k_13 => ((idxB name_1 y_7).bind fun c_16 => (bif (decide (c_16 < 97)) then (k_13 true) else ((idxB name_1 y_7).bind fun c_18 => (k_13 (decide (c_18 > 122)))))))) else (k_4 ()))) N 0)))))
def v_parade_isName (r : Bool) : AV := .bool r
attribute [local simp] v_parade_isName
theorem a_parade_isName (name_1 : ByteArray) : [.str name_1].mapM (ren []) = some [.str name_1] := by simp
theorem b_parade_isName (r : Bool) (n n2 m : Nat) : back n n2 m (v_parade_isName r) = some (v_parade_isName r) := by simp
theorem d_parade_isName (N : Nat) (name_1 : ByteArray) (r : Bool) (h : p_parade_isName N name_1 = some r) : Does Try.prog 78 [.str name_1] [] fun v c => v = v_parade_isName r ∧ c = [] := by
 unfold p_parade_isName at h
 refine Does.ofL comp78 _ _ rfl rfl ?_
 refine Ex.seq (rg 1 [0] (mkS 24 [(0, .str name_1)]) ⟨[], []⟩ ?_)
 refine Ex.seq (Ex.seq ?_)
 obtain ⟨r_2, hr_2, h⟩ := bE h
 refine Ex.reg (rn 2 [0, 5] (mkS 24 [(0, .str name_1), (5, i6 (name_1.size : Int))]) ⟨[], []⟩ ?_)
 refine ExO.callL [] [i6 (name_1.size : Int), i6 1, i6 8] rfl rfl (a_parade_within (name_1.size : Int) 1 8) rfl rfl (d_parade_within N (name_1.size : Int) 1 8 r_2 hr_2) (b_parade_within _ _ _ _) rfl ?_
 refine rn 1 [0, 7] (mkS 24 [(0, .str name_1), (7, .bool (!r_2))]) ⟨[], []⟩ ?_
 refine ExO.nil ?_
 rcases condI h with ⟨hc_3, h⟩ | ⟨hc_3, h⟩
 ·refine Ex.condT _ rfl hc_3 ?_
  refine Ex.seq (rg 1 [2] (mkS 24 [(2, .bool false)]) ⟨[], []⟩ ?_)
  refine Ex.ret ?_
  obtain rfl := sJ h
  exact rt (.bool false)
 ·refine Ex.condF _ rfl hc_3 ?_
  refine Ex.skip ?_
  refine Ex.seq (Ex.seq ?_)
  refine rg 3 [0, 9, 10] (mkS 24 [(0, .str name_1), (9, i6 (name_1.size : Int)), (10, i6 0)]) ⟨[], []⟩ ?_
  obtain ⟨K_5, hK_6, h⟩ := letE h
  refine Ex.blockJ (fun a S => K_5 () = some r ∧ a = mkS 24 [] ∧ S = ⟨[], []⟩) ?_ ?_
  ·obtain ⟨B_9, hB_10, h⟩ := loop1I h
   refine Ex.loopF (fun k a S => ∃ (y_7 : Int), loop1 B_9 k y_7 = some r ∧ a = mkS 24 [(0, .str name_1), (9, i6 (name_1.size : Int)), (10, i6 y_7)] ∧ S = ⟨[], []⟩) N ⟨_, _, Forgets.refl _ _ _, 0, h, rfl, rfl⟩ ?_
   rintro k a S ⟨y_7, h, rfl, rfl⟩
   cases k with
   | zero => exact (loop1Z h).elim
   | succ k =>
    replace h := loop1S h hB_10
    refine Ex.seq (rg 1 [0, 9, 10, 11] (mkS 24 [(0, .str name_1), (9, i6 (name_1.size : Int)), (10, i6 y_7), (11, .bool (decide (y_7 < (name_1.size : Int))))]) ⟨[], []⟩ ?_)
    refine Ex.seq ?_
    rcases condI h with ⟨hc_11, h⟩ | ⟨hc_11, h⟩
    ·refine Ex.condT _ rfl hc_11 ?_
     refine Ex.skip ?_
     refine Ex.seq ?_
     refine Ex.blockK ?_
     refine Ex.seq (rg 2 [0, 3, 9, 10] (mkS 24 [(0, .str name_1), (3, i6 y_7), (9, i6 (name_1.size : Int)), (10, i6 y_7)]) ⟨[], []⟩ ?_)
     obtain ⟨K_14, hK_15, h⟩ := letE h
     refine Ex.seqJ (fun a S => ∃ (y_12 : Bool), K_14 y_12 = some r ∧ a = mkS 24 [(0, .str name_1), (9, i6 (name_1.size : Int)), (10, i6 y_7), (22, .bool y_12)] ∧ S = ⟨[], []⟩) ?_ ?_
     ·obtain ⟨c_16, hc_16, h⟩ := bE h
      rcases condI h with ⟨hc_17, h⟩ | ⟨hc_17, h⟩
      ·refine regH 10 [(2, .ix c_16), (4, .eq (.bool true))] [0, 9, 10, 22] [LIdx name_1 y_7 c_16, AV.bool (decide (c_16 < 97)) = AV.bool true] (mkS 24 [(0, .str name_1), (9, i6 (name_1.size : Int)), (10, i6 y_7), (22, .bool true)]) (⟨[], []⟩) (by kernel_rfl) ⟨idxB.of hc_16, congrArg AV.bool hc_17, trivial⟩ rfl ?_
       (try simp only [reduceCtorEq, AEx.ex.injEq, Nat.reduceEqDiff, if_true, if_false])
       exact ⟨_, _, Forgets.refl _ _ _, true, h, rfl, rfl⟩
      ·obtain ⟨c_18, hc_18, h⟩ := bE h
       refine regH 10 [(2, .ix c_16), (4, .eq (.bool false)), (7, .ix c_18)] [0, 9, 10, 22] [LIdx name_1 y_7 c_16, AV.bool (decide (c_16 < 97)) = AV.bool false, LIdx name_1 y_7 c_18] (mkS 24 [(0, .str name_1), (9, i6 (name_1.size : Int)), (10, i6 y_7), (22, .bool (decide (c_18 > 122)))]) (⟨[], []⟩) (by kernel_rfl) ⟨idxB.of hc_16, congrArg AV.bool hc_17, idxB.of hc_18, trivial⟩ rfl ?_
       (try simp only [reduceCtorEq, AEx.ex.injEq, Nat.reduceEqDiff, if_true, if_false])
       exact ⟨_, _, Forgets.refl _ _ _, (decide (c_18 > 122)), h, rfl, rfl⟩
     ·rintro a S ⟨y_12, h, rfl, rfl⟩
      subst hK_15
      rcases condI h with ⟨hc_19, h⟩ | ⟨hc_19, h⟩
      ·refine Ex.condT _ rfl hc_19 ?_
       refine Ex.seq (rg 1 [2] (mkS 24 [(2, .bool false)]) ⟨[], []⟩ ?_)
       refine Ex.ret ?_
       obtain rfl := sJ h
       exact rt (.bool false)
      ·refine Ex.condF _ rfl hc_19 ?_
       refine Ex.skip ?_
       refine rg 2 [0, 9, 10] (mkS 24 [(0, .str name_1), (9, i6 (name_1.size : Int)), (10, i6 (IntKind.i64.wrap (y_7 + 1)))]) ⟨[], []⟩ ?_
       dsimp only
       exact ⟨_, _, Forgets.refl _ _ _, k, Nat.lt_succ_self k, (IntKind.i64.wrap (y_7 + 1)), h, rfl, rfl⟩
    ·refine Ex.condF _ rfl hc_11 ?_
     refine Ex.exit ?_
     (try simp only [reduceCtorEq, AEx.ex.injEq, Nat.reduceEqDiff, if_true, if_false])
     exact ⟨_, _, forgetK [], h, rfl, rfl⟩
  ·rintro a S ⟨h, rfl, rfl⟩
   subst hK_6
   refine Ex.seq (rg 1 [2] (mkS 24 [(2, .bool true)]) ⟨[], []⟩ ?_)
   refine Ex.ret ?_
   obtain rfl := sJ h
   exact rt (.bool true)
def p_parade_checkWing (N : Nat) (w_1 : T_Wing) (before_2 : (List T_Wing)) : Option (Int) := ((p_parade_isName N w_1.Name).bind fun r_3 => (bif (!r_3) then some 1 else (letJ (fun (_ : Unit) => ((p_parade_within N w_1.Length 1 5000).bind fun r_15 => (bif (!r_15) then some 2 else (letJ (fun (y_17 : Bool) => (bif y_17 then some 2 else (bif (decide (w_1.Pace.Lo > w_1.Pace.Hi)) then some 9 else some 0))) (fun k_18 => ((p_parade_within N w_1.Pace.Lo 1 200).bind fun r_21 => (bif (!r_21) then (k_18 true) else ((p_parade_within N w_1.Pace.Hi 1 200).bind fun r_23 => (k_18 (!r_23)))))))))) (fun k_5 => (loop1 (fun rec_9 (y_8 : Int) => (bif (decide (y_8 < ((before_2.length : Nat) : Int))) then ((getI before_2 y_8).bind fun x_13 => (bif (x_13.Name.toList == w_1.Name.toList) then some 8 else (rec_9 (IntKind.i64.wrap (y_8 + 1))))) else (k_5 ()))) N 0)))))
def v_parade_checkWing (r : Int) : AV := i6 r
attribute [local simp] v_parade_checkWing
theorem a_parade_checkWing (w_1 : T_Wing) (before_2 : (List T_Wing)) : [(A_Wing w_1), .sl (before_2.map A_Wing) none].mapM (ren []) = some [(A_Wing w_1), .sl (before_2.map A_Wing) none] := by simp
theorem b_parade_checkWing (r : Int) (n n2 m : Nat) : back n n2 m (v_parade_checkWing r) = some (v_parade_checkWing r) := by simp
theorem d_parade_checkWing (N : Nat) (w_1 : T_Wing) (before_2 : (List T_Wing)) (r : Int) (h : p_parade_checkWing N w_1 before_2 = some r) : Does Try.prog 66 [(A_Wing w_1), .sl (before_2.map A_Wing) none] [] fun v c => v = v_parade_checkWing r ∧ c = [] := by
 unfold p_parade_checkWing at h
 refine Does.ofL comp66 _ _ rfl rfl ?_
 refine Ex.seq (rg 2 [1, 2] (mkS 49 [(1, .sl (before_2.map A_Wing) none), (2, .ptr 0 0)]) ⟨[(C_Wing w_1)], []⟩ ?_)
 refine Ex.seq (Ex.seq ?_)
 obtain ⟨r_3, hr_3, h⟩ := bE h
 refine Ex.reg (rn 2 [1, 2, 8] (mkS 49 [(1, .sl (before_2.map A_Wing) none), (2, .ptr 0 0), (8, .str w_1.Name)]) ⟨[(C_Wing w_1)], []⟩ ?_)
 refine ExO.callL [] [.str w_1.Name] rfl rfl (a_parade_isName w_1.Name) rfl rfl (d_parade_isName N w_1.Name r_3 hr_3) (b_parade_isName _ _ _ _) rfl ?_
 refine rn 1 [1, 2, 10] (mkS 49 [(1, .sl (before_2.map A_Wing) none), (2, .ptr 0 0), (10, .bool (!r_3))]) ⟨[(C_Wing w_1)], []⟩ ?_
 refine ExO.nil ?_
 rcases condI h with ⟨hc_4, h⟩ | ⟨hc_4, h⟩
 ·refine Ex.condT _ rfl hc_4 ?_
  refine Ex.seq (rg 1 [4] (mkS 49 [(4, i6 1)]) ⟨[(C_Wing w_1)], []⟩ ?_)
  refine Ex.ret ?_
  obtain rfl := sJ h
  exact rt (i6 1)
 ·refine Ex.condF _ rfl hc_4 ?_
  refine Ex.skip ?_
  refine Ex.seq (Ex.seq ?_)
  refine regH 3 [(1, .eq (i6 ((before_2.length : Nat) : Int)))] [2, 11, 12, 13] [AV.int .i64 (((before_2.map A_Wing).length : Nat) : Int) = AV.int .i64 ((before_2.length : Nat) : Int)] (mkS 49 [(2, .ptr 0 0), (11, .sl (before_2.map A_Wing) none), (12, i6 ((before_2.length : Nat) : Int)), (13, i6 0)]) (⟨[(C_Wing w_1)], []⟩) (by kernel_rfl) ⟨lenM _ _, trivial⟩ rfl ?_
  obtain ⟨K_6, hK_7, h⟩ := letE h
  refine Ex.blockJ (fun a S => K_6 () = some r ∧ a = mkS 49 [(2, .ptr 0 0)] ∧ S = ⟨[(C_Wing w_1)], []⟩) ?_ ?_
  ·obtain ⟨B_10, hB_11, h⟩ := loop1I h
   refine Ex.loopF (fun k a S => ∃ (y_8 : Int), loop1 B_10 k y_8 = some r ∧ a = mkS 49 [(2, .ptr 0 0), (11, .sl (before_2.map A_Wing) none), (12, i6 ((before_2.length : Nat) : Int)), (13, i6 y_8)] ∧ S = ⟨[(C_Wing w_1)], []⟩) N ⟨_, _, Forgets.refl _ _ _, 0, h, rfl, rfl⟩ ?_
   rintro k a S ⟨y_8, h, rfl, rfl⟩
   cases k with
   | zero => exact (loop1Z h).elim
   | succ k =>
    replace h := loop1S h hB_11
    refine Ex.seq (rg 1 [2, 11, 12, 13, 14] (mkS 49 [(2, .ptr 0 0), (11, .sl (before_2.map A_Wing) none), (12, i6 ((before_2.length : Nat) : Int)), (13, i6 y_8), (14, .bool (decide (y_8 < ((before_2.length : Nat) : Int))))]) ⟨[(C_Wing w_1)], []⟩ ?_)
    refine Ex.seq ?_
    rcases condI h with ⟨hc_12, h⟩ | ⟨hc_12, h⟩
    ·refine Ex.condT _ rfl hc_12 ?_
     refine Ex.skip ?_
     refine Ex.seq ?_
     refine Ex.blockK ?_
     refine Ex.seq ?_
     obtain ⟨x_13, hx_13, h⟩ := bE h
     refine regH 4 [(0, .rop (C_Wing x_13))] [2, 6, 11, 12, 13] [LGet (before_2.map A_Wing) y_8 4 (C_Wing x_13)] (mkS 49 [(2, .ptr 0 0), (6, .ptr 1 0), (11, .sl (before_2.map A_Wing) none), (12, i6 ((before_2.length : Nat) : Int)), (13, i6 y_8)]) (⟨[(C_Wing w_1), (C_Wing x_13)], []⟩) (by kernel_rfl) ⟨LGet.of hx_13 rfl, trivial⟩ rfl ?_
     refine Ex.seq (rg 5 [2, 11, 12, 13, 21] (mkS 49 [(2, .ptr 0 0), (11, .sl (before_2.map A_Wing) none), (12, i6 ((before_2.length : Nat) : Int)), (13, i6 y_8), (21, .bool (x_13.Name.toList == w_1.Name.toList))]) ⟨[(C_Wing w_1), (C_Wing x_13)], []⟩ ?_)
     rcases condI h with ⟨hc_14, h⟩ | ⟨hc_14, h⟩
     ·refine Ex.condT _ rfl hc_14 ?_
      refine Ex.seq (rg 1 [4] (mkS 49 [(4, i6 8)]) ⟨[(C_Wing w_1), (C_Wing x_13)], []⟩ ?_)
      refine Ex.ret ?_
      obtain rfl := sJ h
      exact rt (i6 8)
     ·refine Ex.condF _ rfl hc_14 ?_
      refine Ex.skip ?_
      refine rg 2 [2, 11, 12, 13] (mkS 49 [(2, .ptr 0 0), (11, .sl (before_2.map A_Wing) none), (12, i6 ((before_2.length : Nat) : Int)), (13, i6 (IntKind.i64.wrap (y_8 + 1)))]) ⟨[(C_Wing w_1), (C_Wing x_13)], []⟩ ?_
      dsimp only
      exact ⟨_, _, forgetA (m := 49) 1 [] [(2, .ptr 0 0), (11, .sl (before_2.map A_Wing) none), (12, i6 ((before_2.length : Nat) : Int)), (13, i6 (IntKind.i64.wrap (y_8 + 1)))] [(C_Wing w_1)] [] (by simp [setAll]) (by simp) ⟨rfl, (reN (KL_Wing _)), rfl, rfl, trivial⟩ (by simp) rfl (by decide), k, Nat.lt_succ_self k, (IntKind.i64.wrap (y_8 + 1)), h, rfl, rfl⟩
    ·refine Ex.condF _ rfl hc_12 ?_
     refine Ex.exit ?_
     (try simp only [reduceCtorEq, AEx.ex.injEq, Nat.reduceEqDiff, if_true, if_false])
     exact ⟨_, _, forgetK [2], h, rfl, rfl⟩
  ·rintro a S ⟨h, rfl, rfl⟩
   subst hK_7
   refine Ex.seq ?_
   refine Ex.blockK ?_
   refine Ex.seq ?_
   obtain ⟨r_15, hr_15, h⟩ := bE h
   refine Ex.reg (rn 2 [2, 25] (mkS 49 [(2, .ptr 0 0), (25, i6 w_1.Length)]) ⟨[(C_Wing w_1)], []⟩ ?_)
   refine ExO.callL [] [i6 w_1.Length, i6 1, i6 5000] rfl rfl (a_parade_within w_1.Length 1 5000) rfl rfl (d_parade_within N w_1.Length 1 5000 r_15 hr_15) (b_parade_within _ _ _ _) rfl ?_
   refine rn 2 [2, 23] (mkS 49 [(2, .ptr 0 0), (23, .bool (!r_15))]) ⟨[(C_Wing w_1)], []⟩ ?_
   refine ExO.nil ?_
   rcases condI h with ⟨hc_16, h⟩ | ⟨hc_16, h⟩
   ·refine Ex.condT _ rfl hc_16 ?_
    refine Ex.seq (rg 1 [4] (mkS 49 [(4, i6 2)]) ⟨[(C_Wing w_1)], []⟩ ?_)
    refine Ex.ret ?_
    obtain rfl := sJ h
    exact rt (i6 2)
   ·refine Ex.condF _ rfl hc_16 ?_
    obtain ⟨K_19, hK_20, h⟩ := letE h
    refine Ex.seqJ (fun a S => ∃ (y_17 : Bool), K_19 y_17 = some r ∧ a = mkS 49 [(2, .ptr 0 0), (28, .bool y_17)] ∧ S = ⟨[(C_Wing w_1)], []⟩) ?_ ?_
    ·obtain ⟨r_21, hr_21, h⟩ := bE h
     refine Ex.reg (rn 3 [2, 31] (mkS 49 [(2, .ptr 0 0), (31, i6 w_1.Pace.Lo)]) ⟨[(C_Wing w_1)], []⟩ ?_)
     refine ExO.callL [] [i6 w_1.Pace.Lo, i6 1, i6 200] rfl rfl (a_parade_within w_1.Pace.Lo 1 200) rfl rfl (d_parade_within N w_1.Pace.Lo 1 200 r_21 hr_21) (b_parade_within _ _ _ _) rfl ?_
     rcases condI h with ⟨hc_22, h⟩ | ⟨hc_22, h⟩
     ·refine runH 9 [(1, .eq (.bool true))] [2, 28] [AV.bool (!r_21) = AV.bool true] (mkS 49 [(2, .ptr 0 0), (28, .bool true)]) (⟨[(C_Wing w_1)], []⟩) (by kernel_rfl) ⟨congrArg AV.bool hc_22, trivial⟩ ?_
      refine ExO.nil ?_
      (try simp only [reduceCtorEq, AEx.ex.injEq, Nat.reduceEqDiff, if_true, if_false])
      exact ⟨_, _, Forgets.refl _ _ _, true, h, rfl, rfl⟩
     ·obtain ⟨r_23, hr_23, h⟩ := bE h
      refine runH 5 [(1, .eq (.bool false))] [2, 34, 37] [AV.bool (!r_21) = AV.bool false] (mkS 49 [(2, .ptr 0 0), (34, .bool false), (37, i6 w_1.Pace.Hi)]) (⟨[(C_Wing w_1)], []⟩) (by kernel_rfl) ⟨congrArg AV.bool hc_22, trivial⟩ ?_
      refine ExO.callL [] [i6 w_1.Pace.Hi, i6 1, i6 200] rfl rfl (a_parade_within w_1.Pace.Hi 1 200) rfl rfl (d_parade_within N w_1.Pace.Hi 1 200 r_23 hr_23) (b_parade_within _ _ _ _) rfl ?_
      refine rn 3 [2, 28] (mkS 49 [(2, .ptr 0 0), (28, .bool (!r_23))]) ⟨[(C_Wing w_1)], []⟩ ?_
      refine ExO.nil ?_
      (try simp only [reduceCtorEq, AEx.ex.injEq, Nat.reduceEqDiff, if_true, if_false])
      exact ⟨_, _, Forgets.refl _ _ _, (!r_23), h, rfl, rfl⟩
    ·rintro a S ⟨y_17, h, rfl, rfl⟩
     subst hK_20
     rcases condI h with ⟨hc_24, h⟩ | ⟨hc_24, h⟩
     ·refine Ex.condT _ rfl hc_24 ?_
      refine Ex.seq (rg 1 [4] (mkS 49 [(4, i6 2)]) ⟨[(C_Wing w_1)], []⟩ ?_)
      refine Ex.ret ?_
      obtain rfl := sJ h
      exact rt (i6 2)
     ·refine Ex.condF _ rfl hc_24 ?_
      refine Ex.seq (rg 8 [41] (mkS 49 [(41, .bool (decide (w_1.Pace.Lo > w_1.Pace.Hi)))]) ⟨[(C_Wing w_1)], []⟩ ?_)
      rcases condI h with ⟨hc_25, h⟩ | ⟨hc_25, h⟩
      ·refine Ex.condT _ rfl hc_25 ?_
       refine Ex.seq (rg 1 [4] (mkS 49 [(4, i6 9)]) ⟨[(C_Wing w_1)], []⟩ ?_)
       refine Ex.ret ?_
       obtain rfl := sJ h
       exact rt (i6 9)
      ·refine Ex.condF _ rfl hc_25 ?_
       refine Ex.skip ?_
       refine Ex.seq (rg 1 [4] (mkS 49 [(4, i6 0)]) ⟨[(C_Wing w_1)], []⟩ ?_)
       refine Ex.ret ?_
       obtain rfl := sJ h
       exact rt (i6 0)
def p_parade_Check (N : Nat) (s_1 : T_School) : Option (Int) := ((p_parade_within N s_1.Route 1 100000).bind fun r_2 => (bif (!r_2) then some 2 else (bif (((s_1.Wings.length : Nat) : Int) == 0) then some 4 else (bif (decide (((s_1.Wings.length : Nat) : Int) > 8)) then some 5 else (letJ (fun (_ : Unit) => some 0) (fun k_6 => (loop1 (fun rec_10 (y_9 : Int) => (bif (decide (y_9 < ((s_1.Wings.length : Nat) : Int))) then ((getI s_1.Wings y_9).bind fun x_14 => ((partI s_1.Wings 0 y_9).bind fun l_15 => ((p_parade_checkWing N x_14 l_15).bind fun r_16 => (bif (r_16 != 0) then some r_16 else (rec_10 (IntKind.i64.wrap (y_9 + 1))))))) else (k_6 ()))) N 0)))))))
def v_parade_Check (r : Int) : AV := i6 r
attribute [local simp] v_parade_Check
theorem a_parade_Check (s_1 : T_School) : [(A_School s_1)].mapM (ren []) = some [(A_School s_1)] := by simp
theorem b_parade_Check (r : Int) (n n2 m : Nat) : back n n2 m (v_parade_Check r) = some (v_parade_Check r) := by simp
theorem d_parade_Check (N : Nat) (s_1 : T_School) (r : Int) (h : p_parade_Check N s_1 = some r) : Does Try.prog 43 [(A_School s_1)] [] fun v c => v = v_parade_Check r ∧ c = [] := by
 unfold p_parade_Check at h
 refine Does.ofL comp43 _ _ rfl rfl ?_
 refine Ex.seq (rg 2 [1] (mkS 39 [(1, .ptr 0 0)]) ⟨[(C_School s_1)], []⟩ ?_)
 refine Ex.seq ?_
 refine Ex.blockK ?_
 refine Ex.seq ?_
 obtain ⟨r_2, hr_2, h⟩ := bE h
 refine Ex.reg (rn 2 [1, 8] (mkS 39 [(1, .ptr 0 0), (8, i6 s_1.Route)]) ⟨[(C_School s_1)], []⟩ ?_)
 refine ExO.callL [] [i6 s_1.Route, i6 1, i6 100000] rfl rfl (a_parade_within s_1.Route 1 100000) rfl rfl (d_parade_within N s_1.Route 1 100000 r_2 hr_2) (b_parade_within _ _ _ _) rfl ?_
 refine rn 2 [1, 6] (mkS 39 [(1, .ptr 0 0), (6, .bool (!r_2))]) ⟨[(C_School s_1)], []⟩ ?_
 refine ExO.nil ?_
 rcases condI h with ⟨hc_3, h⟩ | ⟨hc_3, h⟩
 ·refine Ex.condT _ rfl hc_3 ?_
  refine Ex.seq (rg 1 [2] (mkS 39 [(2, i6 2)]) ⟨[(C_School s_1)], []⟩ ?_)
  refine Ex.ret ?_
  obtain rfl := sJ h
  exact rt (i6 2)
 ·refine Ex.condF _ rfl hc_3 ?_
  refine Ex.seq ?_
  refine regH 5 [(2, .eq (i6 ((s_1.Wings.length : Nat) : Int)))] [1, 11] [AV.int .i64 (((s_1.Wings.map A_Wing).length : Nat) : Int) = AV.int .i64 ((s_1.Wings.length : Nat) : Int)] (mkS 39 [(1, .ptr 0 0), (11, .bool (((s_1.Wings.length : Nat) : Int) == 0))]) (⟨[(C_School s_1)], []⟩) (by kernel_rfl) ⟨lenM _ _, trivial⟩ rfl ?_
  rcases condI h with ⟨hc_4, h⟩ | ⟨hc_4, h⟩
  ·refine Ex.condT _ rfl hc_4 ?_
   refine Ex.seq (rg 1 [2] (mkS 39 [(2, i6 4)]) ⟨[(C_School s_1)], []⟩ ?_)
   refine Ex.ret ?_
   obtain rfl := sJ h
   exact rt (i6 4)
  ·refine Ex.condF _ rfl hc_4 ?_
   refine Ex.seq ?_
   refine regH 5 [(2, .eq (i6 ((s_1.Wings.length : Nat) : Int)))] [1, 16] [AV.int .i64 (((s_1.Wings.map A_Wing).length : Nat) : Int) = AV.int .i64 ((s_1.Wings.length : Nat) : Int)] (mkS 39 [(1, .ptr 0 0), (16, .bool (decide (((s_1.Wings.length : Nat) : Int) > 8)))]) (⟨[(C_School s_1)], []⟩) (by kernel_rfl) ⟨lenM _ _, trivial⟩ rfl ?_
   rcases condI h with ⟨hc_5, h⟩ | ⟨hc_5, h⟩
   ·refine Ex.condT _ rfl hc_5 ?_
    refine Ex.seq (rg 1 [2] (mkS 39 [(2, i6 5)]) ⟨[(C_School s_1)], []⟩ ?_)
    refine Ex.ret ?_
    obtain rfl := sJ h
    exact rt (i6 5)
   ·refine Ex.condF _ rfl hc_5 ?_
    refine Ex.skip ?_
    refine Ex.seq (Ex.seq ?_)
    refine regH 4 [(2, .eq (i6 ((s_1.Wings.length : Nat) : Int)))] [1, 22, 23, 24] [AV.int .i64 (((s_1.Wings.map A_Wing).length : Nat) : Int) = AV.int .i64 ((s_1.Wings.length : Nat) : Int)] (mkS 39 [(1, .ptr 0 0), (22, .sl (s_1.Wings.map A_Wing) none), (23, i6 ((s_1.Wings.length : Nat) : Int)), (24, i6 0)]) (⟨[(C_School s_1)], []⟩) (by kernel_rfl) ⟨lenM _ _, trivial⟩ rfl ?_
    obtain ⟨K_7, hK_8, h⟩ := letE h
    refine Ex.blockJ (fun a S => K_7 () = some r ∧ a = mkS 39 [] ∧ S = ⟨[], []⟩) ?_ ?_
    ·obtain ⟨B_11, hB_12, h⟩ := loop1I h
     refine Ex.loopF (fun k a S => ∃ (y_9 : Int), loop1 B_11 k y_9 = some r ∧ a = mkS 39 [(1, .ptr 0 0), (22, .sl (s_1.Wings.map A_Wing) none), (23, i6 ((s_1.Wings.length : Nat) : Int)), (24, i6 y_9)] ∧ S = ⟨[(C_School s_1)], []⟩) N ⟨_, _, Forgets.refl _ _ _, 0, h, rfl, rfl⟩ ?_
     rintro k a S ⟨y_9, h, rfl, rfl⟩
     cases k with
     | zero => exact (loop1Z h).elim
     | succ k =>
      replace h := loop1S h hB_12
      refine Ex.seq (rg 1 [1, 22, 23, 24, 25] (mkS 39 [(1, .ptr 0 0), (22, .sl (s_1.Wings.map A_Wing) none), (23, i6 ((s_1.Wings.length : Nat) : Int)), (24, i6 y_9), (25, .bool (decide (y_9 < ((s_1.Wings.length : Nat) : Int))))]) ⟨[(C_School s_1)], []⟩ ?_)
      refine Ex.seq ?_
      rcases condI h with ⟨hc_13, h⟩ | ⟨hc_13, h⟩
      ·refine Ex.condT _ rfl hc_13 ?_
       refine Ex.skip ?_
       refine Ex.seq ?_
       refine Ex.blockK ?_
       refine Ex.seq ?_
       obtain ⟨x_14, hx_14, h⟩ := bE h
       refine regH 6 [(1, .rop (C_Wing x_14))] [1, 3, 4, 22, 23, 24] [LGet (s_1.Wings.map A_Wing) y_9 4 (C_Wing x_14)] (mkS 39 [(1, .ptr 0 0), (3, i6 y_9), (4, .ptr 1 0), (22, .sl (s_1.Wings.map A_Wing) none), (23, i6 ((s_1.Wings.length : Nat) : Int)), (24, i6 y_9)]) (⟨[(C_School s_1), (C_Wing x_14)], []⟩) (by kernel_rfl) ⟨LGet.of hx_14 rfl, trivial⟩ rfl ?_
       refine Ex.seq ?_
       obtain ⟨l_15, hl_15, h⟩ := bE h
       refine Ex.drawE (a1 := mkS 39 [(1, .ptr 0 0), (3, i6 y_9), (4, .ptr 1 0), (22, .sl (s_1.Wings.map A_Wing) none), (23, i6 ((s_1.Wings.length : Nat) : Int)), (24, i6 y_9), (29, (A_Wing x_14)), (30, .ptr 0 1), (31, .sl (s_1.Wings.map A_Wing) none), (32, i6 y_9), (33, .sl (l_15.map A_Wing) none)]) (noClr_ok _) [] [] [] ?_ ?_
       ·refine drS [0, 1] 5 [(4, .sc (l_15.map A_Wing))] [LSlc (s_1.Wings.map A_Wing) none (some y_9) 4 (l_15.map A_Wing)] (mkS 39 [(1, .ptr 0 0), (3, i6 y_9), (4, .ptr 1 0), (22, .sl (s_1.Wings.map A_Wing) none), (23, i6 ((s_1.Wings.length : Nat) : Int)), (24, i6 y_9), (29, (A_Wing x_14)), (30, .ptr 0 1), (31, .sl (s_1.Wings.map A_Wing) none), (32, i6 y_9), (33, .sl (l_15.map A_Wing) none)]) (by simp) (by kernel_rfl) ⟨partI.ofR (f := A_Wing) (fun _ => rfl) hl_15, trivial⟩ (by kernel_rfl) ?_
        exact DrO.nil rfl
       ·dsimp only [List.getLastD_cons, List.getLastD_nil]
        obtain ⟨r_16, hr_16, h⟩ := bE h
        refine ExO.callL [] [(A_Wing x_14), .sl (l_15.map A_Wing) none] rfl rfl (a_parade_checkWing x_14 l_15) rfl rfl (d_parade_checkWing N x_14 l_15 r_16 hr_16) (b_parade_checkWing _ _ _ _) rfl ?_
        refine rn 1 [1, 5, 22, 23, 24] (mkS 39 [(1, .ptr 0 0), (5, i6 r_16), (22, .sl (s_1.Wings.map A_Wing) none), (23, i6 ((s_1.Wings.length : Nat) : Int)), (24, i6 y_9)]) ⟨[(C_School s_1), (C_Wing x_14)], []⟩ ?_
        refine ExO.nil ?_
        refine Ex.seq (rg 2 [1, 5, 22, 23, 24, 36] (mkS 39 [(1, .ptr 0 0), (5, i6 r_16), (22, .sl (s_1.Wings.map A_Wing) none), (23, i6 ((s_1.Wings.length : Nat) : Int)), (24, i6 y_9), (36, .bool (r_16 != 0))]) ⟨[(C_School s_1), (C_Wing x_14)], []⟩ ?_)
        rcases condI h with ⟨hc_17, h⟩ | ⟨hc_17, h⟩
        ·refine Ex.condT _ rfl hc_17 ?_
         refine Ex.seq (rg 2 [2] (mkS 39 [(2, i6 r_16)]) ⟨[(C_School s_1), (C_Wing x_14)], []⟩ ?_)
         refine Ex.ret ?_
         obtain rfl := sJ h
         exact rt (i6 r_16)
        ·refine Ex.condF _ rfl hc_17 ?_
         refine Ex.skip ?_
         refine rg 2 [1, 22, 23, 24] (mkS 39 [(1, .ptr 0 0), (22, .sl (s_1.Wings.map A_Wing) none), (23, i6 ((s_1.Wings.length : Nat) : Int)), (24, i6 (IntKind.i64.wrap (y_9 + 1)))]) ⟨[(C_School s_1), (C_Wing x_14)], []⟩ ?_
         dsimp only
         exact ⟨_, _, forgetA (m := 39) 1 [] [(1, .ptr 0 0), (22, .sl (s_1.Wings.map A_Wing) none), (23, i6 ((s_1.Wings.length : Nat) : Int)), (24, i6 (IntKind.i64.wrap (y_9 + 1)))] [(C_School s_1)] [] (by simp [setAll]) (by simp) ⟨rfl, (reN (KL_Wing _)), rfl, rfl, trivial⟩ (by simp) rfl (by decide), k, Nat.lt_succ_self k, (IntKind.i64.wrap (y_9 + 1)), h, rfl, rfl⟩
      ·refine Ex.condF _ rfl hc_13 ?_
       refine Ex.exit ?_
       (try simp only [reduceCtorEq, AEx.ex.injEq, Nat.reduceEqDiff, if_true, if_false])
       exact ⟨_, _, forgetA (m := 39) 0 [] [] [] [] (by simp [setAll]) (by simp) trivial (by simp) rfl (by decide), h, rfl, rfl⟩
    ·rintro a S ⟨h, rfl, rfl⟩
     subst hK_8
     refine Ex.seq (rg 1 [2] (mkS 39 [(2, i6 0)]) ⟨[], []⟩ ?_)
     refine Ex.ret ?_
     obtain rfl := sJ h
     exact rt (i6 0)
structure T_V2_i64 where
 a0 : Int
 a1 : Int
 deriving Inhabited
def C_V2_i64 (x : T_V2_i64) : List AV := [i6 x.a0, i6 x.a1]
attribute [local simp] C_V2_i64
def A_V2_i64 (x : T_V2_i64) : AV := .agg (C_V2_i64 x)
attribute [local simp] A_V2_i64
theorem KC_V2_i64 (x : T_V2_i64) : cleanL (C_V2_i64 x) = true := by simp
theorem KA_V2_i64 (x : T_V2_i64) : (A_V2_i64 x).clean = true := KC_V2_i64 x
theorem KL_V2_i64 (l : List T_V2_i64) : cleanL (l.map A_V2_i64) = true := cleanM KA_V2_i64 l
attribute [local simp] KL_V2_i64
theorem KB_V2_i64 (x : T_V2_i64) (n : Nat) (σ : List Nat) : (C_V2_i64 x).mapM (re n σ) = some (C_V2_i64 x) := by simp
attribute [local simp] KB_V2_i64
def T_V2_i64.l (x : T_V2_i64) : List Int := [x.a0, x.a1]
def T_V2_i64.ofl (l : List Int) : T_V2_i64 := ⟨l[0]?.getD default, l[1]?.getD default⟩
theorem T_V2_i64.l_ofl (l : List Int) (h : l.length = 2) : (T_V2_i64.ofl l).l = l := by
 obtain ⟨a0, l0, rfl, h0⟩ := lenS h
 obtain ⟨a1, l1, rfl, h1⟩ := lenS h0
 obtain rfl := List.eq_nil_of_length_eq_zero h1; rfl
def p_parade_endsOf (N : Nat) (pace_1 : T_Span) : Option (T_V2_i64) := some (⟨pace_1.Lo, pace_1.Hi⟩ : T_V2_i64)
def v_parade_endsOf (r : T_V2_i64) : AV := (A_V2_i64 r)
attribute [local simp] v_parade_endsOf
theorem a_parade_endsOf (pace_1 : T_Span) : [(A_Span pace_1)].mapM (ren []) = some [(A_Span pace_1)] := by simp
theorem b_parade_endsOf (r : T_V2_i64) (n n2 m : Nat) : back n n2 m (v_parade_endsOf r) = some (v_parade_endsOf r) := by simp
theorem d_parade_endsOf (N : Nat) (pace_1 : T_Span) (r : T_V2_i64) (h : p_parade_endsOf N pace_1 = some r) : Does Try.prog 76 [(A_Span pace_1)] [] fun v c => v = v_parade_endsOf r ∧ c = [] := by
 unfold p_parade_endsOf at h
 refine Does.ofL comp76 _ _ rfl rfl ?_
 refine Ex.seq (rg 2 [1, 2] (mkS 8 [(1, .ptr 0 0), (2, .ptr 1 0)]) ⟨[(C_Span pace_1), [i6 0, i6 0]], []⟩ ?_)
 refine Ex.seq (rg 6 [2] (mkS 8 [(2, .ptr 1 0)]) ⟨[(C_Span pace_1), (C_Span pace_1)], []⟩ ?_)
 refine Ex.ret ?_
 obtain rfl := sJ h
 exact rt ((A_Span pace_1))
structure T_V8_i64 where
 a0 : Int
 a1 : Int
 a2 : Int
 a3 : Int
 a4 : Int
 a5 : Int
 a6 : Int
 a7 : Int
 deriving Inhabited
def C_V8_i64 (x : T_V8_i64) : List AV := [i6 x.a0, i6 x.a1, i6 x.a2, i6 x.a3, i6 x.a4, i6 x.a5, i6 x.a6, i6 x.a7]
attribute [local simp] C_V8_i64
def A_V8_i64 (x : T_V8_i64) : AV := .agg (C_V8_i64 x)
attribute [local simp] A_V8_i64
theorem KC_V8_i64 (x : T_V8_i64) : cleanL (C_V8_i64 x) = true := by simp
theorem KA_V8_i64 (x : T_V8_i64) : (A_V8_i64 x).clean = true := KC_V8_i64 x
theorem KL_V8_i64 (l : List T_V8_i64) : cleanL (l.map A_V8_i64) = true := cleanM KA_V8_i64 l
attribute [local simp] KL_V8_i64
theorem KB_V8_i64 (x : T_V8_i64) (n : Nat) (σ : List Nat) : (C_V8_i64 x).mapM (re n σ) = some (C_V8_i64 x) := by simp
attribute [local simp] KB_V8_i64
def T_V8_i64.l (x : T_V8_i64) : List Int := [x.a0, x.a1, x.a2, x.a3, x.a4, x.a5, x.a6, x.a7]
def T_V8_i64.ofl (l : List Int) : T_V8_i64 := ⟨l[0]?.getD default, l[1]?.getD default, l[2]?.getD default, l[3]?.getD default, l[4]?.getD default, l[5]?.getD default, l[6]?.getD default, l[7]?.getD default⟩
theorem T_V8_i64.l_ofl (l : List Int) (h : l.length = 8) : (T_V8_i64.ofl l).l = l := by
 obtain ⟨a0, l0, rfl, h0⟩ := lenS h
 obtain ⟨a1, l1, rfl, h1⟩ := lenS h0
 obtain ⟨a2, l2, rfl, h2⟩ := lenS h1
 obtain ⟨a3, l3, rfl, h3⟩ := lenS h2
 obtain ⟨a4, l4, rfl, h4⟩ := lenS h3
 obtain ⟨a5, l5, rfl, h5⟩ := lenS h4
 obtain ⟨a6, l6, rfl, h6⟩ := lenS h5
 obtain ⟨a7, l7, rfl, h7⟩ := lenS h6
 obtain rfl := List.eq_nil_of_length_eq_zero h7; rfl
structure T_parade_truth where
 wings_ : (List T_Wing)
 starts_ : (List Int)
 paces_ : T_V8_i64
 deriving Inhabited
def C_parade_truth (x : T_parade_truth) : List AV := [.sl (x.wings_.map A_Wing) none, .sl (x.starts_.map (AV.int .i64)) none, i6 x.paces_.a0, i6 x.paces_.a1, i6 x.paces_.a2, i6 x.paces_.a3, i6 x.paces_.a4, i6 x.paces_.a5, i6 x.paces_.a6, i6 x.paces_.a7]
attribute [local simp] C_parade_truth
def A_parade_truth (x : T_parade_truth) : AV := .agg (C_parade_truth x)
attribute [local simp] A_parade_truth
theorem KC_parade_truth (x : T_parade_truth) : cleanL (C_parade_truth x) = true := by simp
theorem KA_parade_truth (x : T_parade_truth) : (A_parade_truth x).clean = true := KC_parade_truth x
theorem KL_parade_truth (l : List T_parade_truth) : cleanL (l.map A_parade_truth) = true := cleanM KA_parade_truth l
attribute [local simp] KL_parade_truth
theorem KB_parade_truth (x : T_parade_truth) (n : Nat) (σ : List Nat) : (C_parade_truth x).mapM (re n σ) = some (C_parade_truth x) := by simp
attribute [local simp] KB_parade_truth
def p_parade_allAt (N : Nat) (s_1 : T_School) (starts_2 : (List Int)) (end_3 : Int) : Option (T_parade_truth) := (letJ (fun (z_4 : T_parade_truth) => some z_4) (fun k_5 => (loop2 (fun rec_10 (y_8 : Int) (z_9 : T_parade_truth) => (bif (decide (y_8 < ((s_1.Wings.length : Nat) : Int))) then ((getI s_1.Wings y_8).bind fun x_14 => ((p_parade_endsOf N x_14.Pace).bind fun r_15 => ((getA r_15.l end_3 2).bind fun x_16 => ((idxI y_8 8).bind fun u_17 => ((some (⟨z_9.wings_, z_9.starts_, (T_V8_i64.ofl (z_9.paces_.l.set (Int.toNat y_8) x_16))⟩ : T_parade_truth)).bind fun z_18 => (rec_10 (IntKind.i64.wrap (y_8 + 1)) z_18)))))) else (k_5 z_9))) N 0 (⟨s_1.Wings, starts_2, (⟨0, 0, 0, 0, 0, 0, 0, 0⟩ : T_V8_i64)⟩ : T_parade_truth))))
def v_parade_allAt (r : T_parade_truth) : AV := (A_parade_truth r)
attribute [local simp] v_parade_allAt
theorem a_parade_allAt (s_1 : T_School) (starts_2 : (List Int)) (end_3 : Int) : [(A_School s_1), .sl (starts_2.map (AV.int .i64)) none, i6 end_3].mapM (ren []) = some [(A_School s_1), .sl (starts_2.map (AV.int .i64)) none, i6 end_3] := by simp
theorem b_parade_allAt (r : T_parade_truth) (n n2 m : Nat) : back n n2 m (v_parade_allAt r) = some (v_parade_allAt r) := by simp
theorem d_parade_allAt (N : Nat) (s_1 : T_School) (starts_2 : (List Int)) (end_3 : Int) (r : T_parade_truth) (h : p_parade_allAt N s_1 starts_2 end_3 = some r) : Does Try.prog 58 [(A_School s_1), .sl (starts_2.map (AV.int .i64)) none, i6 end_3] [] fun v c => v = v_parade_allAt r ∧ c = [] := by
 unfold p_parade_allAt at h
 refine Does.ofL comp58 _ _ rfl rfl ?_
 refine Ex.seq (rg 2 [1, 2, 3, 6] (mkS 32 [(1, .sl (starts_2.map (AV.int .i64)) none), (2, i6 end_3), (3, .ptr 0 0), (6, .ptr 1 0)]) ⟨[(C_School s_1), [.nils, .nils, i6 0, i6 0, i6 0, i6 0, i6 0, i6 0, i6 0, i6 0]], []⟩ ?_)
 refine Ex.seq (rg 6 [2, 3, 6, 7] (mkS 32 [(2, i6 end_3), (3, .ptr 0 0), (6, .ptr 1 0), (7, .ptr 2 0)]) ⟨[(C_School s_1), [.nils, .nils, i6 0, i6 0, i6 0, i6 0, i6 0, i6 0, i6 0, i6 0], [.sl (s_1.Wings.map A_Wing) none, .sl (starts_2.map (AV.int .i64)) none, i6 0, i6 0, i6 0, i6 0, i6 0, i6 0, i6 0, i6 0]], []⟩ ?_)
 refine Ex.seq (Ex.seq ?_)
 refine regH 4 [(2, .eq (i6 ((s_1.Wings.length : Nat) : Int)))] [2, 6, 7, 15, 16, 17] [AV.int .i64 (((s_1.Wings.map A_Wing).length : Nat) : Int) = AV.int .i64 ((s_1.Wings.length : Nat) : Int)] (mkS 32 [(2, i6 end_3), (6, .ptr 1 0), (7, .ptr 2 0), (15, .sl (s_1.Wings.map A_Wing) none), (16, i6 ((s_1.Wings.length : Nat) : Int)), (17, i6 0)]) (⟨[(C_School s_1), [.nils, .nils, i6 0, i6 0, i6 0, i6 0, i6 0, i6 0, i6 0, i6 0], [.sl (s_1.Wings.map A_Wing) none, .sl (starts_2.map (AV.int .i64)) none, i6 0, i6 0, i6 0, i6 0, i6 0, i6 0, i6 0, i6 0]], []⟩) (by kernel_rfl) ⟨lenM _ _, trivial⟩ rfl ?_
 obtain ⟨K_6, hK_7, h⟩ := letE h
 refine Ex.blockJ (fun a S => ∃ (z_4 : T_parade_truth), K_6 z_4 = some r ∧ a = mkS 32 [(6, .ptr 1 0), (7, .ptr 2 0)] ∧ S = ⟨[(C_School s_1), [.nils, .nils, i6 0, i6 0, i6 0, i6 0, i6 0, i6 0, i6 0, i6 0], (C_parade_truth z_4)], []⟩) ?_ ?_
 ·obtain ⟨B_11, hB_12, h⟩ := loop2I h
  refine Ex.loopF (fun k a S => ∃ (y_8 : Int), ∃ (z_9 : T_parade_truth), loop2 B_11 k y_8 z_9 = some r ∧ a = mkS 32 [(2, i6 end_3), (6, .ptr 1 0), (7, .ptr 2 0), (15, .sl (s_1.Wings.map A_Wing) none), (16, i6 ((s_1.Wings.length : Nat) : Int)), (17, i6 y_8)] ∧ S = ⟨[(C_School s_1), [.nils, .nils, i6 0, i6 0, i6 0, i6 0, i6 0, i6 0, i6 0, i6 0], (C_parade_truth z_9)], []⟩) N ⟨_, _, Forgets.refl _ _ _, 0, (⟨s_1.Wings, starts_2, (⟨0, 0, 0, 0, 0, 0, 0, 0⟩ : T_V8_i64)⟩ : T_parade_truth), h, rfl, rfl⟩ ?_
  rintro k a S ⟨y_8, z_9, h, rfl, rfl⟩
  cases k with
  | zero => exact (loop2Z h).elim
  | succ k =>
   replace h := loop2S h hB_12
   refine Ex.seq (rg 1 [2, 6, 7, 15, 16, 17, 18] (mkS 32 [(2, i6 end_3), (6, .ptr 1 0), (7, .ptr 2 0), (15, .sl (s_1.Wings.map A_Wing) none), (16, i6 ((s_1.Wings.length : Nat) : Int)), (17, i6 y_8), (18, .bool (decide (y_8 < ((s_1.Wings.length : Nat) : Int))))]) ⟨[(C_School s_1), [.nils, .nils, i6 0, i6 0, i6 0, i6 0, i6 0, i6 0, i6 0, i6 0], (C_parade_truth z_9)], []⟩ ?_)
   refine Ex.seq ?_
   rcases condI h with ⟨hc_13, h⟩ | ⟨hc_13, h⟩
   ·refine Ex.condT _ rfl hc_13 ?_
    refine Ex.skip ?_
    refine Ex.seq ?_
    refine Ex.blockK ?_
    refine Ex.seq ?_
    obtain ⟨x_14, hx_14, h⟩ := bE h
    refine regH 6 [(1, .rop (C_Wing x_14))] [2, 6, 7, 8, 9, 15, 16, 17] [LGet (s_1.Wings.map A_Wing) y_8 4 (C_Wing x_14)] (mkS 32 [(2, i6 end_3), (6, .ptr 1 0), (7, .ptr 2 0), (8, i6 y_8), (9, .ptr 3 0), (15, .sl (s_1.Wings.map A_Wing) none), (16, i6 ((s_1.Wings.length : Nat) : Int)), (17, i6 y_8)]) (⟨[(C_School s_1), [.nils, .nils, i6 0, i6 0, i6 0, i6 0, i6 0, i6 0, i6 0, i6 0], (C_parade_truth z_9), (C_Wing x_14)], []⟩) (by kernel_rfl) ⟨LGet.of hx_14 rfl, trivial⟩ rfl ?_
    obtain ⟨r_15, hr_15, h⟩ := bE h
    refine Ex.reg (rn 3 [2, 6, 7, 15, 16, 17, 22, 24] (mkS 32 [(2, i6 end_3), (6, .ptr 1 0), (7, .ptr 2 0), (15, .sl (s_1.Wings.map A_Wing) none), (16, i6 ((s_1.Wings.length : Nat) : Int)), (17, i6 y_8), (22, i6 y_8), (24, (A_Span x_14.Pace))]) ⟨[(C_School s_1), [.nils, .nils, i6 0, i6 0, i6 0, i6 0, i6 0, i6 0, i6 0, i6 0], (C_parade_truth z_9), (C_Wing x_14)], []⟩ ?_)
    refine ExO.callL [] [(A_Span x_14.Pace)] rfl rfl (a_parade_endsOf x_14.Pace) rfl rfl (d_parade_endsOf N x_14.Pace r_15 hr_15) (b_parade_endsOf _ _ _ _) rfl ?_
    obtain ⟨x_16, hx_16, h⟩ := bE h
    obtain ⟨u_17, hu_17, h⟩ := bE h
    obtain ⟨z_18, hz_18, h⟩ := bE h
    refine runH 5 [(1, .ax (i6 x_16)), (3, .adr), (4, .st (C_parade_truth z_18))] [2, 6, 7, 15, 16, 17] [(0 ≤ end_3 ∧ end_3 < ((2 : Nat) : Int)) ∧ takeCells (C_V2_i64 r_15) (Int.toNat end_3 * 1) none = some (i6 x_16), 0 ≤ y_8 ∧ y_8 < ((8 : Nat) : Int), 2 + Int.toNat y_8 * 1 + 1 ≤ ((C_parade_truth z_9)).length ∧ layAt (C_parade_truth z_9) (2 + Int.toNat y_8 * 1) [i6 x_16] = (C_parade_truth z_18)] (mkS 32 [(2, i6 end_3), (6, .ptr 1 0), (7, .ptr 2 0), (15, .sl (s_1.Wings.map A_Wing) none), (16, i6 ((s_1.Wings.length : Nat) : Int)), (17, i6 y_8)]) (⟨[(C_School s_1), [.nils, .nils, i6 0, i6 0, i6 0, i6 0, i6 0, i6 0, i6 0, i6 0], (C_parade_truth z_18), (C_Wing x_14)], []⟩) (by kernel_rfl) ⟨⟨idxI.of (getA.of hx_16).1, by simpa using ldArr (f := (AV.int .i64)) r_15.l (C_V2_i64 r_15) 0 0 2 end_3 x_16 (i6 x_16) (fun _ => rfl) (by kernel_rfl) rfl (getA.of hx_16).1 (getA.of hx_16).2 rfl⟩, idxI.of hu_17, (by obtain rfl := Option.some.inj hz_18; exact stArr z_9.paces_.l _ (C_parade_truth z_9) _ 2 8 y_8 x_16 (fun _ => rfl) (by kernel_rfl) (by kernel_rfl) rfl (T_V8_i64.l_ofl _ (by simp [T_V8_i64.l])) hu_17 (by kernel_rfl) (by kernel_rfl)), trivial⟩ ?_
    refine ExO.nil ?_
    refine rg 2 [2, 6, 7, 15, 16, 17] (mkS 32 [(2, i6 end_3), (6, .ptr 1 0), (7, .ptr 2 0), (15, .sl (s_1.Wings.map A_Wing) none), (16, i6 ((s_1.Wings.length : Nat) : Int)), (17, i6 (IntKind.i64.wrap (y_8 + 1)))]) ⟨[(C_School s_1), [.nils, .nils, i6 0, i6 0, i6 0, i6 0, i6 0, i6 0, i6 0, i6 0], (C_parade_truth z_18), (C_Wing x_14)], []⟩ ?_
    dsimp only
    exact ⟨_, _, forgetA (m := 32) 3 [] [(2, i6 end_3), (6, .ptr 1 0), (7, .ptr 2 0), (15, .sl (s_1.Wings.map A_Wing) none), (16, i6 ((s_1.Wings.length : Nat) : Int)), (17, i6 (IntKind.i64.wrap (y_8 + 1)))] [(C_School s_1), [.nils, .nils, i6 0, i6 0, i6 0, i6 0, i6 0, i6 0, i6 0, i6 0], (C_parade_truth z_18)] [] (by simp [setAll]) (by simp) ⟨rfl, rfl, rfl, (reN (KL_Wing _)), rfl, rfl, trivial⟩ (by simp) rfl (by decide), k, Nat.lt_succ_self k, (IntKind.i64.wrap (y_8 + 1)), z_18, h, rfl, rfl⟩
   ·refine Ex.condF _ rfl hc_13 ?_
    refine Ex.exit ?_
    (try simp only [reduceCtorEq, AEx.ex.injEq, Nat.reduceEqDiff, if_true, if_false])
    exact ⟨_, _, forgetK [6, 7], z_9, h, rfl, rfl⟩
 ·rintro a S ⟨z_4, h, rfl, rfl⟩
  subst hK_7
  refine Ex.seq (rg 2 [6] (mkS 32 [(6, .ptr 1 0)]) ⟨[(C_School s_1), (C_parade_truth z_4), (C_parade_truth z_4)], []⟩ ?_)
  refine Ex.ret ?_
  obtain rfl := sJ h
  exact rt ((A_parade_truth z_4))
def p_parade_upTo (N : Nat) (wings_1 : (List T_Wing)) (wing_2 : Int) : Option (Int × (List T_Wing)) := some (wing_2, wings_1)
def v_parade_upTo (r : Int × (List T_Wing)) : AV := .fn 90 [] [.rop [i6 r.1], .rop [.sl (r.2.map A_Wing) none]]
attribute [local simp] v_parade_upTo
theorem a_parade_upTo (wings_1 : (List T_Wing)) (wing_2 : Int) : [.sl (wings_1.map A_Wing) none, i6 wing_2].mapM (ren []) = some [.sl (wings_1.map A_Wing) none, i6 wing_2] := by simp
theorem b_parade_upTo (r : Int × (List T_Wing)) (n n2 m : Nat) : back n n2 m (v_parade_upTo r) = some (v_parade_upTo r) := by simp
theorem d_parade_upTo (N : Nat) (wings_1 : (List T_Wing)) (wing_2 : Int) (r : Int × (List T_Wing)) (h : p_parade_upTo N wings_1 wing_2 = some r) : Does Try.prog 77 [.sl (wings_1.map A_Wing) none, i6 wing_2] [] fun v c => v = v_parade_upTo r ∧ c = [] := by
 unfold p_parade_upTo at h
 refine Does.ofL comp77 _ _ rfl rfl ?_
 refine Ex.seq (rg 3 [2, 3] (mkS 6 [(2, .ptr 0 0), (3, .ptr 1 0)]) ⟨[[.sl (wings_1.map A_Wing) none], [i6 wing_2]], []⟩ ?_)
 refine Ex.seq (rg 2 [4] (mkS 6 [(4, .fn 90 [] [.ptr 1 0, .ptr 0 0])]) ⟨[[.sl (wings_1.map A_Wing) none], [i6 wing_2]], []⟩ ?_)
 refine Ex.forget (forgetK [4]) ?_
 refine Ex.castA (a2 := mkS 6 [(4, .fn 90 [] [.ptr 1 0, .ptr 0 0])]) (S2 := ⟨[[.sl (wings_1.map A_Wing) none], [i6 wing_2]], []⟩) (by kernel_rfl) (by kernel_rfl) ?_
 obtain rfl := sJ h
 refine Ex.forget (chillP 4 1 [i6 wing_2] _ rfl rfl) ?_
 refine Ex.forget (chillP 4 0 [.sl (wings_1.map A_Wing) none] _ rfl rfl) ?_
 refine Ex.castA (a2 := mkS 6 [(4, .fn 90 [] [.rop [i6 wing_2], .rop [.sl (wings_1.map A_Wing) none]])]) (S2 := ⟨[[], []], []⟩) (by kernel_rfl) (by kernel_rfl) ?_
 refine Ex.ret ?_
 exact rt (.fn 90 [] [.rop [i6 wing_2], .rop [.sl (wings_1.map A_Wing) none]])
def p_parade_dividedUp (N : Nat) (n_1 : Int) (by_2 : Int) : Option (Int) := ((nzI by_2).bind fun u_3 => some (IntKind.i64.wrap (Int.tdiv (IntKind.i64.wrap ((IntKind.i64.wrap (n_1 + by_2)) - 1)) by_2)))
def v_parade_dividedUp (r : Int) : AV := i6 r
attribute [local simp] v_parade_dividedUp
theorem b_parade_dividedUp (r : Int) (n n2 m : Nat) : back n n2 m (v_parade_dividedUp r) = some (v_parade_dividedUp r) := by simp
theorem d_parade_dividedUp (N : Nat) (n_1 : Int) (by_2 : Int) (r : Int) (h : p_parade_dividedUp N n_1 by_2 = some r) : Does Try.prog 93 [i6 n_1, i6 by_2] [] fun v c => v = v_parade_dividedUp r ∧ c = [] := by
 unfold p_parade_dividedUp at h
 refine Does.ofL comp93 _ _ rfl rfl ?_
 refine Ex.seq (rg 1 [0, 1] (mkS 11 [(0, i6 n_1), (1, i6 by_2)]) ⟨[], []⟩ ?_)
 refine Ex.seq ?_
 obtain ⟨u_3, hu_3, h⟩ := bE h
 refine regH 7 [(5, .bin (i6 (IntKind.i64.wrap (Int.tdiv (IntKind.i64.wrap ((IntKind.i64.wrap (n_1 + by_2)) - 1)) by_2))))] [4] [binA .quo (i6 (IntKind.i64.wrap ((IntKind.i64.wrap (n_1 + by_2)) - 1))) (i6 by_2) = some (i6 (IntKind.i64.wrap (Int.tdiv (IntKind.i64.wrap ((IntKind.i64.wrap (n_1 + by_2)) - 1)) by_2)))] (mkS 11 [(4, i6 (IntKind.i64.wrap (Int.tdiv (IntKind.i64.wrap ((IntKind.i64.wrap (n_1 + by_2)) - 1)) by_2)))]) (⟨[], []⟩) (by kernel_rfl) ⟨binQ hu_3, trivial⟩ rfl ?_
 refine Ex.ret ?_
 obtain rfl := sJ h
 exact rt (i6 (IntKind.i64.wrap (Int.tdiv (IntKind.i64.wrap ((IntKind.i64.wrap (n_1 + by_2)) - 1)) by_2)))
def p_parade_truth_passes (N : Nat) (t_1 : T_parade_truth) (wing_2 : Int) (place_3 : Int) : Option (Int) := ((getI t_1.starts_ wing_2).bind fun x_4 => ((p_parade_upTo N t_1.wings_ wing_2).bind fun r_5 => (letJ (fun (b_13 : Int) => some b_13) (fun k_14 => (letJ (fun (b_17 : Int) => (k_14 b_17)) (fun k_18 => (loop3 (fun rec_24 (distance_21 : Int) (i_22 : Int) (b_23 : Int) => (bif (decide (i_22 ≥ 0)) then (letJ (fun (distance_28 : Int) => (letJ (fun (b_42 : Int) => (rec_24 distance_28 (IntKind.i64.wrap (i_22 - 1)) b_42)) (fun k_43 => ((getI t_1.starts_ i_22).bind fun x_46 => ((idxI i_22 8).bind fun u_47 => ((t_1.paces_.l[Int.toNat i_22]?).bind fun x_48 => ((p_parade_dividedUp N (IntKind.i64.wrap (place_3 + distance_28)) x_48).bind fun r_49 => (k_43 (if (IntKind.i64.wrap (x_46 + r_49)) > b_23 then (IntKind.i64.wrap (x_46 + r_49)) else b_23))))))))) (fun k_29 => (bif (decide (i_22 < r_5.1)) then ((getI r_5.2 i_22).bind fun x_33 => (k_29 (IntKind.i64.wrap (distance_21 + x_33.Length)))) else (k_29 distance_21)))) else (k_18 b_23))) N 0 r_5.1 x_4)))))))
def v_parade_truth_passes (r : Int) : AV := i6 r
attribute [local simp] v_parade_truth_passes
theorem a_parade_truth_passes (t_1 : T_parade_truth) (wing_2 : Int) (place_3 : Int) : [(A_parade_truth t_1), i6 wing_2, i6 place_3].mapM (ren []) = some [(A_parade_truth t_1), i6 wing_2, i6 place_3] := by simp
theorem b_parade_truth_passes (r : Int) (n n2 m : Nat) : back n n2 m (v_parade_truth_passes r) = some (v_parade_truth_passes r) := by simp
theorem d_parade_truth_passes (N : Nat) (t_1 : T_parade_truth) (wing_2 : Int) (place_3 : Int) (r : Int) (h : p_parade_truth_passes N t_1 wing_2 place_3 = some r) : Does Try.prog 89 [(A_parade_truth t_1), i6 wing_2, i6 place_3] [] fun v c => v = v_parade_truth_passes r ∧ c = [] := by
 unfold p_parade_truth_passes at h
 refine Does.ofL comp89 _ _ rfl rfl ?_
 refine Ex.seq (rg 3 [1, 3, 5, 6] (mkS 38 [(1, i6 wing_2), (3, .ptr 0 0), (5, .ptr 1 0), (6, i6 0)]) ⟨[(C_parade_truth t_1), [i6 place_3]], []⟩ ?_)
 refine Ex.seq ?_
 obtain ⟨x_4, hx_4, h⟩ := bE h
 refine regH 7 [(3, .rop [i6 x_4])] [1, 3, 5, 6, 7] [LGet (t_1.starts_.map (AV.int .i64)) wing_2 1 [i6 x_4]] (mkS 38 [(1, i6 wing_2), (3, .ptr 0 0), (5, .ptr 1 0), (6, i6 0), (7, .ptr 2 0)]) (⟨[(C_parade_truth t_1), [i6 place_3], [i6 x_4]], []⟩) (by kernel_rfl) ⟨LGet.of hx_4 rfl, trivial⟩ rfl ?_
 refine Ex.seq (Ex.seq ?_)
 obtain ⟨r_5, hr_5, h⟩ := bE h
 refine Ex.reg (rn 3 [3, 5, 6, 7, 16, 17] (mkS 38 [(3, .ptr 0 0), (5, .ptr 1 0), (6, i6 0), (7, .ptr 2 0), (16, .sl (t_1.wings_.map A_Wing) none), (17, i6 wing_2)]) ⟨[(C_parade_truth t_1), [i6 place_3], [i6 x_4]], []⟩ ?_)
 refine ExO.callL [] [.sl (t_1.wings_.map A_Wing) none, i6 wing_2] rfl rfl (a_parade_upTo t_1.wings_ wing_2) rfl rfl (d_parade_upTo N t_1.wings_ wing_2 r_5 hr_5) (b_parade_upTo _ _ _ _) rfl ?_
 refine rn 0 [3, 5, 6, 7, 18] (mkS 38 [(3, .ptr 0 0), (5, .ptr 1 0), (6, i6 0), (7, .ptr 2 0), (18, .fn 90 [] [.rop [i6 r_5.1], .rop [.sl (r_5.2.map A_Wing) none]])]) ⟨[(C_parade_truth t_1), [i6 place_3], [i6 x_4]], []⟩ ?_
 refine ExO.nil ?_
 refine Ex.blockK ?_
 obtain ⟨K_15, hK_16, h⟩ := letE h
 refine Ex.rangeJ (fun k S => (k = 0 ∧ ∃ (b_13 : Int), K_15 b_13 = some r ∧ S = ⟨[(C_parade_truth t_1), [i6 place_3], [i6 b_13]], [(0, 0)]⟩)) 90 [.rop [i6 r_5.1], .rop [.sl (r_5.2.map A_Wing) none]] _ rfl comp90 rfl (by simp [setAll]) (by exact trivial) (mkS 26 [(1, .rop [i6 r_5.1]), (2, .rop [.sl (r_5.2.map A_Wing) none]), (3, .tup []), (4, .tup []), (5, .tup []), (6, .tup []), (7, .tup []), (8, .tup []), (9, .tup []), (10, .tup []), (11, .tup []), (12, .tup []), (13, .tup []), (14, .tup []), (15, .tup []), (16, .tup []), (17, .tup []), (18, .tup []), (19, .tup []), (20, .tup []), (21, .tup []), (22, .tup []), (23, .tup []), (24, .tup []), (25, .tup [])]) (⟨[(C_parade_truth t_1), [i6 place_3], [i6 x_4]], [(0, 0)]⟩) (fun _ => by kernel_rfl) (by kernel_rfl) ?_ ?_
 ·intro cx_7 Lp_6 hcn_8 hcm_9 hLt_10 hL_11 hup_12
  refine Ex.castA (a2 := mkS 26 [(0, .yld Lp_6.l 0), (1, .rop [i6 r_5.1]), (2, .rop [.sl (r_5.2.map A_Wing) none]), (3, .tup []), (4, .tup []), (5, .tup []), (6, .tup []), (7, .tup []), (8, .tup []), (9, .tup []), (10, .tup []), (11, .tup []), (12, .tup []), (13, .tup []), (14, .tup []), (15, .tup []), (16, .tup []), (17, .tup []), (18, .tup []), (19, .tup []), (20, .tup []), (21, .tup []), (22, .tup []), (23, .tup []), (24, .tup []), (25, .tup [])]) (S2 := ⟨[(C_parade_truth t_1), [i6 place_3], [i6 x_4]], [(0, 0)]⟩) (by kernel_rfl) rfl ?_
  refine Ex.seq (rg 1 [0, 1, 2, 4] (mkS 26 [(0, .yld Lp_6.l 0), (1, .rop [i6 r_5.1]), (2, .rop [.sl (r_5.2.map A_Wing) none]), (4, i6 0)]) ⟨[(C_parade_truth t_1), [i6 place_3], [i6 x_4]], [(0, 0)]⟩ ?_)
  refine Ex.seq (rg 2 [0, 1, 2, 4, 5] (mkS 26 [(0, .yld Lp_6.l 0), (1, .rop [i6 r_5.1]), (2, .rop [.sl (r_5.2.map A_Wing) none]), (4, i6 0), (5, i6 r_5.1)]) ⟨[(C_parade_truth t_1), [i6 place_3], [i6 x_4]], [(0, 0)]⟩ ?_)
  obtain ⟨K_19, hK_20, h⟩ := letE h
  refine Ex.blockJ (fun a S => ∃ (b_17 : Int), K_19 b_17 = some r ∧ a = mkS 26 [] ∧ S = ⟨[(C_parade_truth t_1), [i6 place_3], [i6 b_17]], [(0, 0)]⟩) ?_ ?_
  ·obtain ⟨B_25, hB_26, h⟩ := loop3I h
   refine Ex.loopF (fun k a S => ∃ (distance_21 : Int), ∃ (i_22 : Int), ∃ (b_23 : Int), loop3 B_25 k distance_21 i_22 b_23 = some r ∧ a = mkS 26 [(0, .yld Lp_6.l 0), (1, .rop [i6 r_5.1]), (2, .rop [.sl (r_5.2.map A_Wing) none]), (4, i6 distance_21), (5, i6 i_22)] ∧ S = ⟨[(C_parade_truth t_1), [i6 place_3], [i6 b_23]], [(0, 0)]⟩) N ⟨_, _, Forgets.refl _ _ _, 0, r_5.1, x_4, h, rfl, rfl⟩ ?_
   rintro k a S ⟨distance_21, i_22, b_23, h, rfl, rfl⟩
   cases k with
   | zero => exact (loop3Z h).elim
   | succ k =>
    replace h := loop3S h hB_26
    refine Ex.seq (Ex.seq ?_)
    refine rg 2 [0, 1, 2, 4, 5, 8] (mkS 26 [(0, .yld Lp_6.l 0), (1, .rop [i6 r_5.1]), (2, .rop [.sl (r_5.2.map A_Wing) none]), (4, i6 distance_21), (5, i6 i_22), (8, .bool (decide (i_22 ≥ 0)))]) ⟨[(C_parade_truth t_1), [i6 place_3], [i6 b_23]], [(0, 0)]⟩ ?_
    rcases condI h with ⟨hc_27, h⟩ | ⟨hc_27, h⟩
    ·refine Ex.condT _ rfl hc_27 ?_
     refine Ex.skip ?_
     refine Ex.seq ?_
     refine Ex.blockK ?_
     obtain ⟨K_30, hK_31, h⟩ := letE h
     refine Ex.seqJ (fun a S => ∃ (distance_28 : Int), K_30 distance_28 = some r ∧ a = mkS 26 [(0, .yld Lp_6.l 0), (1, .rop [i6 r_5.1]), (2, .rop [.sl (r_5.2.map A_Wing) none]), (4, i6 distance_28), (5, i6 i_22)] ∧ S = ⟨[(C_parade_truth t_1), [i6 place_3], [i6 b_23]], [(0, 0)]⟩) ?_ ?_
     ·refine Ex.seq (rg 3 [0, 1, 2, 4, 5, 13] (mkS 26 [(0, .yld Lp_6.l 0), (1, .rop [i6 r_5.1]), (2, .rop [.sl (r_5.2.map A_Wing) none]), (4, i6 distance_21), (5, i6 i_22), (13, .bool (decide (i_22 < r_5.1)))]) ⟨[(C_parade_truth t_1), [i6 place_3], [i6 b_23]], [(0, 0)]⟩ ?_)
      rcases condI h with ⟨hc_32, h⟩ | ⟨hc_32, h⟩
      ·refine Ex.condT _ rfl hc_32 ?_
       obtain ⟨x_33, hx_33, h⟩ := bE h
       refine regH 8 [(3, .rop (C_Wing x_33))] [0, 1, 2, 4, 5] [LGet (r_5.2.map A_Wing) i_22 4 (C_Wing x_33)] (mkS 26 [(0, .yld Lp_6.l 0), (1, .rop [i6 r_5.1]), (2, .rop [.sl (r_5.2.map A_Wing) none]), (4, i6 (IntKind.i64.wrap (distance_21 + x_33.Length))), (5, i6 i_22)]) (⟨[(C_parade_truth t_1), [i6 place_3], [i6 b_23]], [(0, 0)]⟩) (by kernel_rfl) ⟨LGet.of hx_33 rfl, trivial⟩ rfl ?_
       (try simp only [reduceCtorEq, AEx.ex.injEq, Nat.reduceEqDiff, if_true, if_false])
       exact ⟨_, _, Forgets.refl _ _ _, (IntKind.i64.wrap (distance_21 + x_33.Length)), h, rfl, rfl⟩
      ·refine Ex.condF _ rfl hc_32 ?_
       refine Ex.skip ?_
       (try simp only [reduceCtorEq, AEx.ex.injEq, Nat.reduceEqDiff, if_true, if_false])
       exact ⟨_, _, forgetK [0, 1, 2, 4, 5], distance_21, h, rfl, rfl⟩
     ·rintro a S ⟨distance_28, h, rfl, rfl⟩
      subst hK_31
      refine Ex.seq ?_
      refine Ex.regI ?_
      refine runI 3 [] [0, 1, 2, 4, 5, 21, 22, 23] [] (mkS 26 [(0, .yld Lp_6.l 0), (1, .rop [i6 r_5.1]), (2, .rop [.sl (r_5.2.map A_Wing) none]), (4, i6 distance_28), (5, i6 i_22), (21, .yld Lp_6.l 0), (22, i6 i_22), (23, i6 distance_28)]) (⟨[(C_parade_truth t_1), [i6 place_3], [i6 b_23]], [(0, 0)]⟩) (by kernel_rfl) trivial ?_
      obtain ⟨K_44, hK_45, h⟩ := letE h
      refine ExI.yieldT 0 hLt_10 hL_11 [i6 i_22, i6 distance_28] rfl rfl rfl (by kernel_rfl) rfl rfl (leC hcn_8 (by simp [setAll])) ?_
      intro ca_34 cb_35 ha_36 hb_37 hma_38 hmb_39 hup_40 hbz_41
      refine Ex.castA (a2 := mkS 38 [(3, .ptr 0 0), (5, .ptr 1 0), (6, i6 0), (7, .ptr 2 0), (18, .fn 90 [] [.rop [i6 r_5.1], .rop [.sl (r_5.2.map A_Wing) none]]), (19, i6 i_22), (20, i6 distance_28)]) (S2 := ⟨[(C_parade_truth t_1), [i6 place_3], [i6 b_23]], [(0, 0)]⟩) (by kernel_rfl) (by kernel_rfl) ?_
      refine Ex.two (fun z S => (z = AEx.norm ∧ ∃ (b_42 : Int), K_44 b_42 = some r ∧ S = ⟨[(C_parade_truth t_1), [i6 place_3], [i6 b_42]], [(0, 0)]⟩)) ?_ ?_
      ·refine Ex.seq (rg 1 [3, 5, 7, 8, 20] (mkS 38 [(3, .ptr 0 0), (5, .ptr 1 0), (7, .ptr 2 0), (8, i6 i_22), (20, i6 distance_28)]) ⟨[(C_parade_truth t_1), [i6 place_3], [i6 b_23]], [(0, 0)]⟩ ?_)
       refine rg 1 [3, 5, 7, 8, 9] (mkS 38 [(3, .ptr 0 0), (5, .ptr 1 0), (7, .ptr 2 0), (8, i6 i_22), (9, i6 distance_28)]) ⟨[(C_parade_truth t_1), [i6 place_3], [i6 b_23]], [(0, 0)]⟩ ?_
       refine ⟨rfl, rfl, ?_⟩
       refine Ex.blockK ?_
       obtain ⟨x_46, hx_46, h⟩ := bE h
       obtain ⟨u_47, hu_47, h⟩ := bE h
       obtain ⟨x_48, hx_48, h⟩ := bE h
       obtain ⟨r_49, hr_49, h⟩ := bE h
       have hT_50 : DoesA Try.prog [⟨93, [i6 (IntKind.i64.wrap (place_3 + distance_28)), i6 x_48], [], (v_parade_dividedUp r_49), []⟩] ∧ ConsA [⟨93, [i6 (IntKind.i64.wrap (place_3 + distance_28)), i6 x_48], [], (v_parade_dividedUp r_49), []⟩] := ⟨⟨(d_parade_dividedUp N (IntKind.i64.wrap (place_3 + distance_28)) x_48 r_49 hr_49), rfl, trivial⟩, ⟨trivial, trivial⟩⟩
       refine Ex.drawE (a1 := mkS 38 [(3, .ptr 0 0), (5, .ptr 1 0), (7, .ptr 2 0), (8, i6 i_22), (9, i6 distance_28), (21, i6 b_23), (22, .ptr 0 1), (23, .sl (t_1.starts_.map (AV.int .i64)) none), (24, i6 i_22), (25, .rop [i6 x_46]), (26, i6 x_46), (27, i6 place_3), (28, i6 distance_28), (29, i6 (IntKind.i64.wrap (place_3 + distance_28))), (30, i6 i_22), (31, .ptr 0 2), (32, .ptr 0 (2 + Int.toNat i_22 * 1)), (33, i6 x_48), (34, i6 r_49), (35, i6 (IntKind.i64.wrap (x_46 + r_49)))]) (tabO_ok hT_50.1) [] [] [] ?_ ?_
       ·refine drS [0, 1, 2] 13 [(4, .rop [i6 x_46]), (11, .adr), (12, .ld (i6 x_48))] [LGet (t_1.starts_.map (AV.int .i64)) i_22 1 [i6 x_46], 0 ≤ i_22 ∧ i_22 < ((8 : Nat) : Int), takeCells (C_parade_truth t_1) (2 + Int.toNat i_22 * 1) none = some (i6 x_48)] (mkS 38 [(3, .ptr 0 0), (5, .ptr 1 0), (7, .ptr 2 0), (8, i6 i_22), (9, i6 distance_28), (21, i6 b_23), (22, .ptr 0 1), (23, .sl (t_1.starts_.map (AV.int .i64)) none), (24, i6 i_22), (25, .rop [i6 x_46]), (26, i6 x_46), (27, i6 place_3), (28, i6 distance_28), (29, i6 (IntKind.i64.wrap (place_3 + distance_28))), (30, i6 i_22), (31, .ptr 0 2), (32, .ptr 0 (2 + Int.toNat i_22 * 1)), (33, i6 x_48)]) (by simp) (by kernel_rfl) ⟨LGet.of hx_46 rfl, idxI.of hu_47, ldArr (f := (AV.int .i64)) t_1.paces_.l (C_parade_truth t_1) 2 0 8 i_22 x_48 (i6 x_48) (fun _ => rfl) (by kernel_rfl) rfl hu_47 hx_48 rfl, trivial⟩ (by kernel_rfl) ?_
        refine drC hT_50.2 0 _ [i6 (IntKind.i64.wrap (place_3 + distance_28)), i6 x_48] (v_parade_dividedUp r_49) rfl rfl rfl rfl rfl (fun _ => rfl) rfl (by simp; try rfl) (fun _ => b_parade_dividedUp _ _ _ _) ?_
        refine drS [0, 1, 2] 1 [] [] (mkS 38 [(3, .ptr 0 0), (5, .ptr 1 0), (7, .ptr 2 0), (8, i6 i_22), (9, i6 distance_28), (21, i6 b_23), (22, .ptr 0 1), (23, .sl (t_1.starts_.map (AV.int .i64)) none), (24, i6 i_22), (25, .rop [i6 x_46]), (26, i6 x_46), (27, i6 place_3), (28, i6 distance_28), (29, i6 (IntKind.i64.wrap (place_3 + distance_28))), (30, i6 i_22), (31, .ptr 0 2), (32, .ptr 0 (2 + Int.toNat i_22 * 1)), (33, i6 x_48), (34, i6 r_49), (35, i6 (IntKind.i64.wrap (x_46 + r_49)))]) (by simp) (by kernel_rfl) trivial (by kernel_rfl) ?_
        exact DrO.nil rfl
       ·dsimp only [List.getLastD_cons, List.getLastD_nil]
        refine rn 2 [] (mkS 38 []) ⟨[(C_parade_truth t_1), [i6 place_3], [i6 (if (IntKind.i64.wrap (x_46 + r_49)) > b_23 then (IntKind.i64.wrap (x_46 + r_49)) else b_23)]], [(0, 0)]⟩ ?_
        refine ExO.nil ?_
        (try simp only [reduceCtorEq, AEx.ex.injEq, Nat.reduceEqDiff, if_true, if_false])
        exact ⟨_, _, Forgets.refl _ _ _, ⟨by first | rfl | trivial, (if (IntKind.i64.wrap (x_46 + r_49)) > b_23 then (IntKind.i64.wrap (x_46 + r_49)) else b_23), h, rfl⟩⟩
      ·rintro z a2 S (⟨rfl, b_42, h, rfl⟩)
       subst hK_45
       refine runI 1 [] [0, 1, 2, 4, 5, 25] [] (mkS 26 [(0, .yld Lp_6.l 0), (1, .rop [i6 r_5.1]), (2, .rop [.sl (r_5.2.map A_Wing) none]), (4, i6 distance_28), (5, i6 i_22), (25, .bool false)]) (⟨[(C_parade_truth t_1), [i6 place_3], [i6 b_42]], [(0, 0)]⟩) (by kernel_rfl) trivial ?_
       refine ExI.nil ?_
       refine Ex.cond (b := false) rfl ?_
       refine Ex.skip ?_
       refine rg 3 [0, 1, 2, 4, 5] (mkS 26 [(0, .yld Lp_6.l 0), (1, .rop [i6 r_5.1]), (2, .rop [.sl (r_5.2.map A_Wing) none]), (4, i6 distance_28), (5, i6 (IntKind.i64.wrap (i_22 - 1)))]) ⟨[(C_parade_truth t_1), [i6 place_3], [i6 b_42]], [(0, 0)]⟩ ?_
       dsimp only
       exact ⟨_, _, Forgets.refl _ _ _, k, Nat.lt_succ_self k, distance_28, (IntKind.i64.wrap (i_22 - 1)), b_42, h, rfl, rfl⟩
    ·refine Ex.condF _ rfl hc_27 ?_
     refine Ex.exit ?_
     (try simp only [reduceCtorEq, AEx.ex.injEq, Nat.reduceEqDiff, if_true, if_false])
     exact ⟨_, _, forgetK [], b_23, h, rfl, rfl⟩
  ·rintro a S ⟨b_17, h, rfl, rfl⟩
   subst hK_20
   exact ⟨_, _, Forgets.refl _ _ _, .inl rfl, 0, rfl, ⟨by first | rfl | trivial, b_17, h, rfl⟩⟩
 ·rintro k S (⟨rfl, b_13, h, rfl⟩)
  subst hK_16
  refine Ex.seq (rg 2 [6] (mkS 38 [(6, i6 b_13)]) ⟨[(C_parade_truth t_1), [i6 place_3], [i6 b_13]], [(0, 0)]⟩ ?_)
  refine Ex.ret ?_
  obtain rfl := sJ h
  exact rt (i6 b_13)
def p_parade_truth_leaves (N : Nat) (t_1 : T_parade_truth) (wing_2 : Int) (place_3 : Int) : Option (Int) := ((getI t_1.wings_ wing_2).bind fun x_4 => ((p_parade_truth_passes N t_1 wing_2 (IntKind.i64.wrap (place_3 + x_4.Length))).bind fun r_5 => some r_5))
def v_parade_truth_leaves (r : Int) : AV := i6 r
attribute [local simp] v_parade_truth_leaves
theorem a_parade_truth_leaves (t_1 : T_parade_truth) (wing_2 : Int) (place_3 : Int) : [(A_parade_truth t_1), i6 wing_2, i6 place_3].mapM (ren []) = some [(A_parade_truth t_1), i6 wing_2, i6 place_3] := by simp
theorem b_parade_truth_leaves (r : Int) (n n2 m : Nat) : back n n2 m (v_parade_truth_leaves r) = some (v_parade_truth_leaves r) := by simp
theorem d_parade_truth_leaves (N : Nat) (t_1 : T_parade_truth) (wing_2 : Int) (place_3 : Int) (r : Int) (h : p_parade_truth_leaves N t_1 wing_2 place_3 = some r) : Does Try.prog 74 [(A_parade_truth t_1), i6 wing_2, i6 place_3] [] fun v c => v = v_parade_truth_leaves r ∧ c = [] := by
 unfold p_parade_truth_leaves at h
 refine Does.ofL comp74 _ _ rfl rfl ?_
 refine Ex.seq (rg 2 [1, 2, 3] (mkS 18 [(1, i6 wing_2), (2, i6 place_3), (3, .ptr 0 0)]) ⟨[(C_parade_truth t_1)], []⟩ ?_)
 refine Ex.seq ?_
 obtain ⟨x_4, hx_4, h⟩ := bE h
 refine Ex.drawE (a1 := mkS 18 [(1, i6 wing_2), (2, i6 place_3), (3, .ptr 0 0), (7, (A_parade_truth t_1)), (8, i6 wing_2), (9, i6 place_3), (10, .ptr 0 0), (11, .sl (t_1.wings_.map A_Wing) none), (12, i6 wing_2), (13, .rop (C_Wing x_4)), (14, .rop [i6 x_4.Length, i6 x_4.Pace.Lo, i6 x_4.Pace.Hi]), (15, i6 x_4.Length), (16, i6 (IntKind.i64.wrap (place_3 + x_4.Length)))]) (noClr_ok _) [] [] [] ?_ ?_
 ·refine drS [0] 10 [(6, .rop (C_Wing x_4))] [LGet (t_1.wings_.map A_Wing) wing_2 4 (C_Wing x_4)] (mkS 18 [(1, i6 wing_2), (2, i6 place_3), (3, .ptr 0 0), (7, (A_parade_truth t_1)), (8, i6 wing_2), (9, i6 place_3), (10, .ptr 0 0), (11, .sl (t_1.wings_.map A_Wing) none), (12, i6 wing_2), (13, .rop (C_Wing x_4)), (14, .rop [i6 x_4.Length, i6 x_4.Pace.Lo, i6 x_4.Pace.Hi]), (15, i6 x_4.Length), (16, i6 (IntKind.i64.wrap (place_3 + x_4.Length)))]) (by simp) (by kernel_rfl) ⟨LGet.of hx_4 rfl, trivial⟩ (by kernel_rfl) ?_
  exact DrO.nil rfl
 ·dsimp only [List.getLastD_cons, List.getLastD_nil]
  obtain ⟨r_5, hr_5, h⟩ := bE h
  refine ExO.callL [] [(A_parade_truth t_1), i6 wing_2, i6 (IntKind.i64.wrap (place_3 + x_4.Length))] rfl rfl (a_parade_truth_passes t_1 wing_2 (IntKind.i64.wrap (place_3 + x_4.Length))) rfl rfl (d_parade_truth_passes N t_1 wing_2 (IntKind.i64.wrap (place_3 + x_4.Length)) r_5 hr_5) (b_parade_truth_passes _ _ _ _) rfl ?_
  refine rn 1 [6] (mkS 18 [(6, i6 r_5)]) ⟨[(C_parade_truth t_1)], []⟩ ?_
  refine ExO.nil ?_
  refine Ex.ret ?_
  obtain rfl := sJ h
  exact rt (i6 r_5)
def p_parade_leastStart (N : Nat) (s_1 : T_School) (starts_2 : (List Int)) : Option (Int) := (bif (((starts_2.length : Nat) : Int) == 0) then some 0 else ((p_parade_allAt N s_1 starts_2 0).bind fun r_4 => ((p_parade_truth_leaves N r_4 (IntKind.i64.wrap (((starts_2.length : Nat) : Int) - 1)) 0).bind fun r_5 => some r_5)))
def v_parade_leastStart (r : Int) : AV := i6 r
attribute [local simp] v_parade_leastStart
theorem a_parade_leastStart (s_1 : T_School) (starts_2 : (List Int)) : [(A_School s_1), .sl (starts_2.map (AV.int .i64)) none].mapM (ren []) = some [(A_School s_1), .sl (starts_2.map (AV.int .i64)) none] := by simp
theorem b_parade_leastStart (r : Int) (n n2 m : Nat) : back n n2 m (v_parade_leastStart r) = some (v_parade_leastStart r) := by simp
theorem d_parade_leastStart (N : Nat) (s_1 : T_School) (starts_2 : (List Int)) (r : Int) (h : p_parade_leastStart N s_1 starts_2 = some r) : Does Try.prog 56 [(A_School s_1), .sl (starts_2.map (AV.int .i64)) none] [] fun v c => v = v_parade_leastStart r ∧ c = [] := by
 unfold p_parade_leastStart at h
 refine Does.ofL comp56 _ _ rfl rfl ?_
 refine Ex.seq (rg 2 [1, 2] (mkS 15 [(1, .sl (starts_2.map (AV.int .i64)) none), (2, .ptr 0 0)]) ⟨[(C_School s_1)], []⟩ ?_)
 refine Ex.seq (Ex.seq ?_)
 refine regH 3 [(1, .eq (i6 ((starts_2.length : Nat) : Int)))] [1, 2, 7] [AV.int .i64 (((starts_2.map (AV.int .i64)).length : Nat) : Int) = AV.int .i64 ((starts_2.length : Nat) : Int)] (mkS 15 [(1, .sl (starts_2.map (AV.int .i64)) none), (2, .ptr 0 0), (7, .bool (((starts_2.length : Nat) : Int) == 0))]) (⟨[(C_School s_1)], []⟩) (by kernel_rfl) ⟨lenM _ _, trivial⟩ rfl ?_
 rcases condI h with ⟨hc_3, h⟩ | ⟨hc_3, h⟩
 ·refine Ex.condT _ rfl hc_3 ?_
  refine Ex.seq (rg 1 [4] (mkS 15 [(4, i6 0)]) ⟨[(C_School s_1)], []⟩ ?_)
  refine Ex.ret ?_
  obtain rfl := sJ h
  exact rt (i6 0)
 ·refine Ex.condF _ rfl hc_3 ?_
  refine Ex.skip ?_
  refine Ex.seq ?_
  obtain ⟨r_4, hr_4, h⟩ := bE h
  refine Ex.reg (rn 2 [1, 8, 9] (mkS 15 [(1, .sl (starts_2.map (AV.int .i64)) none), (8, (A_School s_1)), (9, .sl (starts_2.map (AV.int .i64)) none)]) ⟨[(C_School s_1)], []⟩ ?_)
  refine ExO.callL [] [(A_School s_1), .sl (starts_2.map (AV.int .i64)) none, i6 0] rfl rfl (a_parade_allAt s_1 starts_2 0) rfl rfl (d_parade_allAt N s_1 starts_2 0 r_4 hr_4) (b_parade_allAt _ _ _ _) rfl ?_
  obtain ⟨r_5, hr_5, h⟩ := bE h
  refine runH 3 [(1, .eq (i6 ((starts_2.length : Nat) : Int)))] [10, 13] [AV.int .i64 (((starts_2.map (AV.int .i64)).length : Nat) : Int) = AV.int .i64 ((starts_2.length : Nat) : Int)] (mkS 15 [(10, (A_parade_truth r_4)), (13, i6 (IntKind.i64.wrap (((starts_2.length : Nat) : Int) - 1)))]) (⟨[(C_School s_1)], []⟩) (by kernel_rfl) ⟨lenM _ _, trivial⟩ ?_
  refine ExO.callL [] [(A_parade_truth r_4), i6 (IntKind.i64.wrap (((starts_2.length : Nat) : Int) - 1)), i6 0] rfl rfl (a_parade_truth_leaves r_4 (IntKind.i64.wrap (((starts_2.length : Nat) : Int) - 1)) 0) rfl rfl (d_parade_truth_leaves N r_4 (IntKind.i64.wrap (((starts_2.length : Nat) : Int) - 1)) 0 r_5 hr_5) (b_parade_truth_leaves _ _ _ _) rfl ?_
  refine rn 1 [4] (mkS 15 [(4, i6 r_5)]) ⟨[(C_School s_1)], []⟩ ?_
  refine ExO.nil ?_
  refine Ex.ret ?_
  obtain rfl := sJ h
  exact rt (i6 r_5)
def p_parade_Least (N : Nat) (s_1 : T_School) : Option ((List Int) × Int) := ((p_parade_Check N s_1).bind fun r_2 => (bif (r_2 != 0) then some ([], r_2) else ((mkI ((s_1.Wings.length : Nat) : Int)).bind fun k_4 => (letJ (fun (starts_5 : List Int) => some (starts_5, 0)) (fun k_6 => (loop2 (fun rec_11 (starts_9 : List Int) (y_10 : Int) => (bif (decide (y_10 < ((s_1.Wings.length : Nat) : Int))) then ((p_parade_leastStart N s_1 starts_9).bind fun r_15 => (bif (decide (r_15 > 20000)) then some ([], 2) else ((pushI starts_9 ([r_15] : List Int)).bind fun l_17 => (rec_11 l_17 (IntKind.i64.wrap (y_10 + 1)))))) else (k_6 starts_9))) N [] 0))))))
def v_parade_Least (r : (List Int) × Int) : AV := .tup [.sl (r.1.map (AV.int .i64)) none, i6 r.2]
attribute [local simp] v_parade_Least
theorem a_parade_Least (s_1 : T_School) : [(A_School s_1)].mapM (ren []) = some [(A_School s_1)] := by simp
theorem b_parade_Least (r : (List Int) × Int) (n n2 m : Nat) : back n n2 m (v_parade_Least r) = some (v_parade_Least r) := by simp
theorem d_parade_Least (N : Nat) (s_1 : T_School) (r : (List Int) × Int) (h : p_parade_Least N s_1 = some r) : Does Try.prog 30 [(A_School s_1)] [] fun v c => v = v_parade_Least r ∧ c = [] := by
 unfold p_parade_Least at h
 refine Does.ofL comp30 _ _ rfl rfl ?_
 refine Ex.seq (rg 3 [1] (mkS 32 [(1, .ptr 0 0)]) ⟨[(C_School s_1)], []⟩ ?_)
 refine Ex.seq (Ex.seq ?_)
 obtain ⟨r_2, hr_2, h⟩ := bE h
 refine Ex.reg (rn 1 [1, 7] (mkS 32 [(1, .ptr 0 0), (7, (A_School s_1))]) ⟨[(C_School s_1)], []⟩ ?_)
 refine ExO.callL [] [(A_School s_1)] rfl rfl (a_parade_Check s_1) rfl rfl (d_parade_Check N s_1 r_2 hr_2) (b_parade_Check _ _ _ _) rfl ?_
 refine rn 1 [1, 4] (mkS 32 [(1, .ptr 0 0), (4, i6 r_2)]) ⟨[(C_School s_1)], []⟩ ?_
 refine ExO.nil ?_
 refine Ex.seq (rg 2 [1, 4, 10] (mkS 32 [(1, .ptr 0 0), (4, i6 r_2), (10, .bool (r_2 != 0))]) ⟨[(C_School s_1)], []⟩ ?_)
 rcases condI h with ⟨hc_3, h⟩ | ⟨hc_3, h⟩
 ·refine Ex.condT _ rfl hc_3 ?_
  refine Ex.seq (rg 3 [2, 3] (mkS 32 [(2, .nils), (3, i6 r_2)]) ⟨[(C_School s_1)], []⟩ ?_)
  refine Ex.ret ?_
  obtain rfl := sJ h
  exact rt (.tup [.nils, i6 r_2])
 ·refine Ex.condF _ rfl hc_3 ?_
  refine Ex.skip ?_
  refine Ex.seq ?_
  obtain ⟨k_4, hk_4, h⟩ := bE h
  refine regH 5 [(2, .eq (i6 ((s_1.Wings.length : Nat) : Int))), (3, .mk0)] [1, 5] [AV.int .i64 (((s_1.Wings.map A_Wing).length : Nat) : Int) = AV.int .i64 ((s_1.Wings.length : Nat) : Int), 0 ≤ ((s_1.Wings.length : Nat) : Int) ∧ ((s_1.Wings.length : Nat) : Int) ≤ 65536] (mkS 32 [(1, .ptr 0 0), (5, .sl (([] : List Int).map (AV.int .i64)) (some 0))]) (⟨[(C_School s_1)], [(0, 1)]⟩) (by kernel_rfl) ⟨lenM _ _, mk0_of hk_4, trivial⟩ rfl ?_
  refine Ex.seq (Ex.seq ?_)
  refine regH 4 [(2, .eq (i6 ((s_1.Wings.length : Nat) : Int)))] [1, 5, 18, 19] [AV.int .i64 (((s_1.Wings.map A_Wing).length : Nat) : Int) = AV.int .i64 ((s_1.Wings.length : Nat) : Int)] (mkS 32 [(1, .ptr 0 0), (5, .sl (([] : List Int).map (AV.int .i64)) (some 0)), (18, i6 ((s_1.Wings.length : Nat) : Int)), (19, i6 0)]) (⟨[(C_School s_1)], [(0, 1)]⟩) (by kernel_rfl) ⟨lenM _ _, trivial⟩ rfl ?_
  obtain ⟨K_7, hK_8, h⟩ := letE h
  refine Ex.blockJ (fun a S => ∃ (starts_5 : List Int), K_7 starts_5 = some r ∧ a = mkS 32 [(5, .sl (starts_5.map (AV.int .i64)) (some 0))] ∧ S = ⟨[], [(starts_5.length, 1)]⟩) ?_ ?_
  ·obtain ⟨B_12, hB_13, h⟩ := loop2I h
   refine Ex.loopF (fun k a S => ∃ (starts_9 : List Int), ∃ (y_10 : Int), loop2 B_12 k starts_9 y_10 = some r ∧ a = mkS 32 [(1, .ptr 0 0), (5, .sl (starts_9.map (AV.int .i64)) (some 0)), (18, i6 ((s_1.Wings.length : Nat) : Int)), (19, i6 y_10)] ∧ S = ⟨[(C_School s_1)], [(starts_9.length, 1)]⟩) N ⟨_, _, Forgets.refl _ _ _, [], 0, h, rfl, rfl⟩ ?_
   rintro k a S ⟨starts_9, y_10, h, rfl, rfl⟩
   cases k with
   | zero => exact (loop2Z h).elim
   | succ k =>
    replace h := loop2S h hB_13
    refine Ex.seq (rg 1 [1, 5, 18, 19, 20] (mkS 32 [(1, .ptr 0 0), (5, .sl (starts_9.map (AV.int .i64)) (some 0)), (18, i6 ((s_1.Wings.length : Nat) : Int)), (19, i6 y_10), (20, .bool (decide (y_10 < ((s_1.Wings.length : Nat) : Int))))]) ⟨[(C_School s_1)], [(starts_9.length, 1)]⟩ ?_)
    refine Ex.seq ?_
    rcases condI h with ⟨hc_14, h⟩ | ⟨hc_14, h⟩
    ·refine Ex.condT _ rfl hc_14 ?_
     refine Ex.skip ?_
     refine Ex.seq ?_
     refine Ex.blockK ?_
     refine Ex.seq ?_
     obtain ⟨r_15, hr_15, h⟩ := bE h
     refine Ex.reg (rn 2 [1, 5, 18, 19, 21, 22] (mkS 32 [(1, .ptr 0 0), (5, .sl (starts_9.map (AV.int .i64)) (some 0)), (18, i6 ((s_1.Wings.length : Nat) : Int)), (19, i6 y_10), (21, (A_School s_1)), (22, .sl (starts_9.map (AV.int .i64)) (some 0))]) ⟨[(C_School s_1)], [(starts_9.length, 1)]⟩ ?_)
     refine ExO.callL [] [(A_School s_1), .sl (starts_9.map (AV.int .i64)) (some 0)] rfl rfl (a_parade_leastStart s_1 starts_9) rfl rfl (d_parade_leastStart N s_1 starts_9 r_15 hr_15) (b_parade_leastStart _ _ _ _) rfl ?_
     refine rn 1 [1, 5, 6, 18, 19] (mkS 32 [(1, .ptr 0 0), (5, .sl (starts_9.map (AV.int .i64)) (some 0)), (6, i6 r_15), (18, i6 ((s_1.Wings.length : Nat) : Int)), (19, i6 y_10)]) ⟨[(C_School s_1)], [(starts_9.length, 1)]⟩ ?_
     refine ExO.nil ?_
     refine Ex.seq (Ex.seq ?_)
     refine rg 2 [1, 5, 6, 18, 19, 25] (mkS 32 [(1, .ptr 0 0), (5, .sl (starts_9.map (AV.int .i64)) (some 0)), (6, i6 r_15), (18, i6 ((s_1.Wings.length : Nat) : Int)), (19, i6 y_10), (25, .bool (decide (r_15 > 20000)))]) ⟨[(C_School s_1)], [(starts_9.length, 1)]⟩ ?_
     rcases condI h with ⟨hc_16, h⟩ | ⟨hc_16, h⟩
     ·refine Ex.condT _ rfl hc_16 ?_
      refine Ex.seq (rg 2 [2, 3] (mkS 32 [(2, .nils), (3, i6 2)]) ⟨[(C_School s_1)], [(starts_9.length, 1)]⟩ ?_)
      refine Ex.ret ?_
      obtain rfl := sJ h
      exact rt (.tup [.nils, i6 2])
     ·refine Ex.condF _ rfl hc_16 ?_
      refine Ex.skip ?_
      obtain ⟨l_17, hl_17, h⟩ := bE h
      refine regH 5 [(3, .app (l_17.map (AV.int .i64)) l_17.length)] [1, 5, 18, 19] [LApp starts_9.length (starts_9.map (AV.int .i64)) (([r_15] : List Int).map (AV.int .i64)) 1 (l_17.map (AV.int .i64)) l_17.length] (mkS 32 [(1, .ptr 0 0), (5, .sl (l_17.map (AV.int .i64)) (some 0)), (18, i6 ((s_1.Wings.length : Nat) : Int)), (19, i6 y_10)]) (⟨[(C_School s_1)], [(l_17.length, 1), (1, 1)]⟩) (by kernel_rfl) ⟨LApp.of hl_17 (fun _ => rfl), trivial⟩ rfl ?_
      refine rg 2 [1, 5, 18, 19] (mkS 32 [(1, .ptr 0 0), (5, .sl (l_17.map (AV.int .i64)) (some 0)), (18, i6 ((s_1.Wings.length : Nat) : Int)), (19, i6 (IntKind.i64.wrap (y_10 + 1)))]) ⟨[(C_School s_1)], [(l_17.length, 1), (1, 1)]⟩ ?_
      dsimp only
      exact ⟨_, _, forgetA (m := 32) 1 [0] [(1, .ptr 0 0), (5, .sl (l_17.map (AV.int .i64)) (some 0)), (18, i6 ((s_1.Wings.length : Nat) : Int)), (19, i6 (IntKind.i64.wrap (y_10 + 1)))] [(C_School s_1)] [(l_17.length, 1)] (by simp [setAll]) (by simp) ⟨rfl, (reT (cleanI _ _) rfl), rfl, rfl, trivial⟩ (by simp) rfl (by decide), k, Nat.lt_succ_self k, l_17, (IntKind.i64.wrap (y_10 + 1)), h, rfl, rfl⟩
    ·refine Ex.condF _ rfl hc_14 ?_
     refine Ex.exit ?_
     (try simp only [reduceCtorEq, AEx.ex.injEq, Nat.reduceEqDiff, if_true, if_false])
     exact ⟨_, _, forgetA (m := 32) 0 [0] [(5, .sl (starts_9.map (AV.int .i64)) (some 0))] [] [(starts_9.length, 1)] (by simp [setAll]) (by simp) ⟨(reT (cleanI _ _) rfl), trivial⟩ (by simp) rfl (by decide), starts_9, h, rfl, rfl⟩
  ·rintro a S ⟨starts_5, h, rfl, rfl⟩
   subst hK_8
   refine Ex.seq (rg 3 [2, 3] (mkS 32 [(2, .sl (starts_5.map (AV.int .i64)) (some 0)), (3, i6 0)]) ⟨[], [(starts_5.length, 1)]⟩ ?_)
   refine Ex.ret ?_
   obtain rfl := sJ h
   exact rt (.tup [.sl (starts_5.map (AV.int .i64)) (some 0), i6 0])
def p_parade_CheckStarts (N : Nat) (s_1 : T_School) (starts_2 : (List Int)) : Option (Int) := ((p_parade_Check N s_1).bind fun r_3 => (bif (r_3 != 0) then some r_3 else (bif (((starts_2.length : Nat) : Int) != ((s_1.Wings.length : Nat) : Int)) then some 1 else (letJ (fun (_ : Unit) => some 0) (fun k_6 => (loop1 (fun rec_10 (y_9 : Int) => (bif (decide (y_9 < ((starts_2.length : Nat) : Int))) then ((getI starts_2 y_9).bind fun x_14 => ((p_parade_within N x_14 0 20000).bind fun r_15 => (bif (!r_15) then some 2 else ((partI starts_2 0 y_9).bind fun l_17 => ((p_parade_leastStart N s_1 l_17).bind fun r_18 => (bif (decide (x_14 < r_18)) then some 12 else (rec_10 (IntKind.i64.wrap (y_9 + 1))))))))) else (k_6 ()))) N 0))))))
def v_parade_CheckStarts (r : Int) : AV := i6 r
attribute [local simp] v_parade_CheckStarts
theorem a_parade_CheckStarts (s_1 : T_School) (starts_2 : (List Int)) : [(A_School s_1), .sl (starts_2.map (AV.int .i64)) none].mapM (ren []) = some [(A_School s_1), .sl (starts_2.map (AV.int .i64)) none] := by simp
theorem b_parade_CheckStarts (r : Int) (n n2 m : Nat) : back n n2 m (v_parade_CheckStarts r) = some (v_parade_CheckStarts r) := by simp
theorem d_parade_CheckStarts (N : Nat) (s_1 : T_School) (starts_2 : (List Int)) (r : Int) (h : p_parade_CheckStarts N s_1 starts_2 = some r) : Does Try.prog 49 [(A_School s_1), .sl (starts_2.map (AV.int .i64)) none] [] fun v c => v = v_parade_CheckStarts r ∧ c = [] := by
 unfold p_parade_CheckStarts at h
 refine Does.ofL comp49 _ _ rfl rfl ?_
 refine Ex.seq (rg 2 [1, 2] (mkS 37 [(1, .sl (starts_2.map (AV.int .i64)) none), (2, .ptr 0 0)]) ⟨[(C_School s_1)], []⟩ ?_)
 refine Ex.seq (Ex.seq ?_)
 obtain ⟨r_3, hr_3, h⟩ := bE h
 refine Ex.reg (rn 1 [1, 2, 8] (mkS 37 [(1, .sl (starts_2.map (AV.int .i64)) none), (2, .ptr 0 0), (8, (A_School s_1))]) ⟨[(C_School s_1)], []⟩ ?_)
 refine ExO.callL [] [(A_School s_1)] rfl rfl (a_parade_Check s_1) rfl rfl (d_parade_Check N s_1 r_3 hr_3) (b_parade_Check _ _ _ _) rfl ?_
 refine rn 1 [1, 2, 5] (mkS 37 [(1, .sl (starts_2.map (AV.int .i64)) none), (2, .ptr 0 0), (5, i6 r_3)]) ⟨[(C_School s_1)], []⟩ ?_
 refine ExO.nil ?_
 refine Ex.seq (rg 2 [1, 2, 5, 11] (mkS 37 [(1, .sl (starts_2.map (AV.int .i64)) none), (2, .ptr 0 0), (5, i6 r_3), (11, .bool (r_3 != 0))]) ⟨[(C_School s_1)], []⟩ ?_)
 rcases condI h with ⟨hc_4, h⟩ | ⟨hc_4, h⟩
 ·refine Ex.condT _ rfl hc_4 ?_
  refine Ex.seq (rg 2 [4] (mkS 37 [(4, i6 r_3)]) ⟨[(C_School s_1)], []⟩ ?_)
  refine Ex.ret ?_
  obtain rfl := sJ h
  exact rt (i6 r_3)
 ·refine Ex.condF _ rfl hc_4 ?_
  refine Ex.skip ?_
  refine Ex.seq (Ex.seq ?_)
  refine regH 6 [(1, .eq (i6 ((starts_2.length : Nat) : Int))), (4, .eq (i6 ((s_1.Wings.length : Nat) : Int)))] [1, 2, 18] [AV.int .i64 (((starts_2.map (AV.int .i64)).length : Nat) : Int) = AV.int .i64 ((starts_2.length : Nat) : Int), AV.int .i64 (((s_1.Wings.map A_Wing).length : Nat) : Int) = AV.int .i64 ((s_1.Wings.length : Nat) : Int)] (mkS 37 [(1, .sl (starts_2.map (AV.int .i64)) none), (2, .ptr 0 0), (18, .bool (((starts_2.length : Nat) : Int) != ((s_1.Wings.length : Nat) : Int)))]) (⟨[(C_School s_1)], []⟩) (by kernel_rfl) ⟨lenM _ _, lenM _ _, trivial⟩ rfl ?_
  rcases condI h with ⟨hc_5, h⟩ | ⟨hc_5, h⟩
  ·refine Ex.condT _ rfl hc_5 ?_
   refine Ex.seq (rg 1 [4] (mkS 37 [(4, i6 1)]) ⟨[(C_School s_1)], []⟩ ?_)
   refine Ex.ret ?_
   obtain rfl := sJ h
   exact rt (i6 1)
  ·refine Ex.condF _ rfl hc_5 ?_
   refine Ex.skip ?_
   refine Ex.seq (Ex.seq ?_)
   refine regH 3 [(1, .eq (i6 ((starts_2.length : Nat) : Int)))] [1, 2, 19, 20, 21] [AV.int .i64 (((starts_2.map (AV.int .i64)).length : Nat) : Int) = AV.int .i64 ((starts_2.length : Nat) : Int)] (mkS 37 [(1, .sl (starts_2.map (AV.int .i64)) none), (2, .ptr 0 0), (19, .sl (starts_2.map (AV.int .i64)) none), (20, i6 ((starts_2.length : Nat) : Int)), (21, i6 0)]) (⟨[(C_School s_1)], []⟩) (by kernel_rfl) ⟨lenM _ _, trivial⟩ rfl ?_
   obtain ⟨K_7, hK_8, h⟩ := letE h
   refine Ex.blockJ (fun a S => K_7 () = some r ∧ a = mkS 37 [] ∧ S = ⟨[], []⟩) ?_ ?_
   ·obtain ⟨B_11, hB_12, h⟩ := loop1I h
    refine Ex.loopF (fun k a S => ∃ (y_9 : Int), loop1 B_11 k y_9 = some r ∧ a = mkS 37 [(1, .sl (starts_2.map (AV.int .i64)) none), (2, .ptr 0 0), (19, .sl (starts_2.map (AV.int .i64)) none), (20, i6 ((starts_2.length : Nat) : Int)), (21, i6 y_9)] ∧ S = ⟨[(C_School s_1)], []⟩) N ⟨_, _, Forgets.refl _ _ _, 0, h, rfl, rfl⟩ ?_
    rintro k a S ⟨y_9, h, rfl, rfl⟩
    cases k with
    | zero => exact (loop1Z h).elim
    | succ k =>
     replace h := loop1S h hB_12
     refine Ex.seq (rg 1 [1, 2, 19, 20, 21, 22] (mkS 37 [(1, .sl (starts_2.map (AV.int .i64)) none), (2, .ptr 0 0), (19, .sl (starts_2.map (AV.int .i64)) none), (20, i6 ((starts_2.length : Nat) : Int)), (21, i6 y_9), (22, .bool (decide (y_9 < ((starts_2.length : Nat) : Int))))]) ⟨[(C_School s_1)], []⟩ ?_)
     refine Ex.seq ?_
     rcases condI h with ⟨hc_13, h⟩ | ⟨hc_13, h⟩
     ·refine Ex.condT _ rfl hc_13 ?_
      refine Ex.skip ?_
      refine Ex.seq ?_
      refine Ex.blockK ?_
      refine Ex.seq ?_
      obtain ⟨x_14, hx_14, h⟩ := bE h
      refine regH 5 [(1, .rop [i6 x_14])] [1, 2, 6, 7, 19, 20, 21] [LGet (starts_2.map (AV.int .i64)) y_9 1 [i6 x_14]] (mkS 37 [(1, .sl (starts_2.map (AV.int .i64)) none), (2, .ptr 0 0), (6, i6 y_9), (7, i6 x_14), (19, .sl (starts_2.map (AV.int .i64)) none), (20, i6 ((starts_2.length : Nat) : Int)), (21, i6 y_9)]) (⟨[(C_School s_1)], []⟩) (by kernel_rfl) ⟨LGet.of hx_14 rfl, trivial⟩ rfl ?_
      refine Ex.seq (Ex.seq ?_)
      obtain ⟨r_15, hr_15, h⟩ := bE h
      refine Ex.reg (rn 1 [1, 2, 6, 7, 19, 20, 21, 26] (mkS 37 [(1, .sl (starts_2.map (AV.int .i64)) none), (2, .ptr 0 0), (6, i6 y_9), (7, i6 x_14), (19, .sl (starts_2.map (AV.int .i64)) none), (20, i6 ((starts_2.length : Nat) : Int)), (21, i6 y_9), (26, i6 x_14)]) ⟨[(C_School s_1)], []⟩ ?_)
      refine ExO.callL [] [i6 x_14, i6 0, i6 20000] rfl rfl (a_parade_within x_14 0 20000) rfl rfl (d_parade_within N x_14 0 20000 r_15 hr_15) (b_parade_within _ _ _ _) rfl ?_
      refine rn 1 [1, 2, 6, 7, 19, 20, 21, 28] (mkS 37 [(1, .sl (starts_2.map (AV.int .i64)) none), (2, .ptr 0 0), (6, i6 y_9), (7, i6 x_14), (19, .sl (starts_2.map (AV.int .i64)) none), (20, i6 ((starts_2.length : Nat) : Int)), (21, i6 y_9), (28, .bool (!r_15))]) ⟨[(C_School s_1)], []⟩ ?_
      refine ExO.nil ?_
      rcases condI h with ⟨hc_16, h⟩ | ⟨hc_16, h⟩
      ·refine Ex.condT _ rfl hc_16 ?_
       refine Ex.seq (rg 1 [4] (mkS 37 [(4, i6 2)]) ⟨[(C_School s_1)], []⟩ ?_)
       refine Ex.ret ?_
       obtain rfl := sJ h
       exact rt (i6 2)
      ·refine Ex.condF _ rfl hc_16 ?_
       refine Ex.skip ?_
       refine Ex.seq ?_
       obtain ⟨l_17, hl_17, h⟩ := bE h
       obtain ⟨r_18, hr_18, h⟩ := bE h
       have hT_19 : DoesA Try.prog [⟨56, [(A_School s_1), .sl (l_17.map (AV.int .i64)) none], [], (v_parade_leastStart r_18), []⟩] ∧ ConsA [⟨56, [(A_School s_1), .sl (l_17.map (AV.int .i64)) none], [], (v_parade_leastStart r_18), []⟩] := ⟨⟨(d_parade_leastStart N s_1 l_17 r_18 hr_18), rfl, trivial⟩, ⟨trivial, trivial⟩⟩
       refine Ex.drawE (a1 := mkS 37 [(1, .sl (starts_2.map (AV.int .i64)) none), (2, .ptr 0 0), (6, i6 y_9), (7, i6 x_14), (19, .sl (starts_2.map (AV.int .i64)) none), (20, i6 ((starts_2.length : Nat) : Int)), (21, i6 y_9), (28, .bool (!r_15)), (29, i6 x_14), (30, (A_School s_1)), (31, .sl (starts_2.map (AV.int .i64)) none), (32, i6 y_9), (33, .sl (l_17.map (AV.int .i64)) none), (34, i6 r_18)]) (tabO_ok hT_19.1) [] [] [] ?_ ?_
       ·refine drS [0] 5 [(4, .sc (l_17.map (AV.int .i64)))] [LSlc (starts_2.map (AV.int .i64)) none (some y_9) 1 (l_17.map (AV.int .i64))] (mkS 37 [(1, .sl (starts_2.map (AV.int .i64)) none), (2, .ptr 0 0), (6, i6 y_9), (7, i6 x_14), (19, .sl (starts_2.map (AV.int .i64)) none), (20, i6 ((starts_2.length : Nat) : Int)), (21, i6 y_9), (28, .bool (!r_15)), (29, i6 x_14), (30, (A_School s_1)), (31, .sl (starts_2.map (AV.int .i64)) none), (32, i6 y_9), (33, .sl (l_17.map (AV.int .i64)) none)]) (by simp) (by kernel_rfl) ⟨partI.ofR (f := (AV.int .i64)) (fun _ => rfl) hl_17, trivial⟩ (by kernel_rfl) ?_
        refine drC hT_19.2 0 _ [(A_School s_1), .sl (l_17.map (AV.int .i64)) none] (v_parade_leastStart r_18) rfl rfl rfl rfl rfl (fun _ => rfl) rfl (by simp; try rfl) (fun _ => b_parade_leastStart _ _ _ _) ?_
        exact DrO.nil rfl
       ·dsimp only [List.getLastD_cons, List.getLastD_nil]
        refine rn 1 [1, 2, 19, 20, 21, 35] (mkS 37 [(1, .sl (starts_2.map (AV.int .i64)) none), (2, .ptr 0 0), (19, .sl (starts_2.map (AV.int .i64)) none), (20, i6 ((starts_2.length : Nat) : Int)), (21, i6 y_9), (35, .bool (decide (x_14 < r_18)))]) ⟨[(C_School s_1)], []⟩ ?_
        refine ExO.nil ?_
        rcases condI h with ⟨hc_20, h⟩ | ⟨hc_20, h⟩
        ·refine Ex.condT _ rfl hc_20 ?_
         refine Ex.seq (rg 1 [4] (mkS 37 [(4, i6 12)]) ⟨[(C_School s_1)], []⟩ ?_)
         refine Ex.ret ?_
         obtain rfl := sJ h
         exact rt (i6 12)
        ·refine Ex.condF _ rfl hc_20 ?_
         refine Ex.skip ?_
         refine rg 2 [1, 2, 19, 20, 21] (mkS 37 [(1, .sl (starts_2.map (AV.int .i64)) none), (2, .ptr 0 0), (19, .sl (starts_2.map (AV.int .i64)) none), (20, i6 ((starts_2.length : Nat) : Int)), (21, i6 (IntKind.i64.wrap (y_9 + 1)))]) ⟨[(C_School s_1)], []⟩ ?_
         dsimp only
         exact ⟨_, _, Forgets.refl _ _ _, k, Nat.lt_succ_self k, (IntKind.i64.wrap (y_9 + 1)), h, rfl, rfl⟩
     ·refine Ex.condF _ rfl hc_13 ?_
      refine Ex.exit ?_
      (try simp only [reduceCtorEq, AEx.ex.injEq, Nat.reduceEqDiff, if_true, if_false])
      exact ⟨_, _, forgetA (m := 37) 0 [] [] [] [] (by simp [setAll]) (by simp) trivial (by simp) rfl (by decide), h, rfl, rfl⟩
   ·rintro a S ⟨h, rfl, rfl⟩
    subst hK_8
    refine Ex.seq (rg 1 [4] (mkS 37 [(4, i6 0)]) ⟨[], []⟩ ?_)
    refine Ex.ret ?_
    obtain rfl := sJ h
    exact rt (i6 0)
def p_parade_checkRules (N : Nat) (r_1 : T_Rules) : Option (Int) := (letJ (fun (y_2 : Bool) => (bif y_2 then some 2 else (bif (decide (r_1.Least > r_1.Most)) then some 9 else some 0))) (fun k_3 => ((p_parade_within N r_1.Least 0 100000).bind fun r_6 => (bif (!r_6) then (k_3 true) else ((p_parade_within N r_1.Most 0 100000).bind fun r_8 => (bif (!r_8) then (k_3 true) else ((p_parade_within N r_1.Gap 0 20000).bind fun r_10 => (k_3 (!r_10)))))))))
def v_parade_checkRules (r : Int) : AV := i6 r
attribute [local simp] v_parade_checkRules
theorem a_parade_checkRules (r_1 : T_Rules) : [(A_Rules r_1)].mapM (ren []) = some [(A_Rules r_1)] := by simp
theorem b_parade_checkRules (r : Int) (n n2 m : Nat) : back n n2 m (v_parade_checkRules r) = some (v_parade_checkRules r) := by simp
theorem d_parade_checkRules (N : Nat) (r_1 : T_Rules) (r : Int) (h : p_parade_checkRules N r_1 = some r) : Does Try.prog 44 [(A_Rules r_1)] [] fun v c => v = v_parade_checkRules r ∧ c = [] := by
 unfold p_parade_checkRules at h
 refine Does.ofL comp44 _ _ rfl rfl ?_
 refine Ex.seq (rg 2 [1] (mkS 26 [(1, .ptr 0 0)]) ⟨[(C_Rules r_1)], []⟩ ?_)
 refine Ex.seq ?_
 refine Ex.blockK ?_
 obtain ⟨K_4, hK_5, h⟩ := letE h
 refine Ex.seqJ (fun a S => ∃ (y_2 : Bool), K_4 y_2 = some r ∧ a = mkS 26 [(1, .ptr 0 0), (3, .bool y_2)] ∧ S = ⟨[(C_Rules r_1)], []⟩) ?_ ?_
 ·obtain ⟨r_6, hr_6, h⟩ := bE h
  refine Ex.reg (rn 2 [1, 5] (mkS 26 [(1, .ptr 0 0), (5, i6 r_1.Least)]) ⟨[(C_Rules r_1)], []⟩ ?_)
  refine ExO.callL [] [i6 r_1.Least, i6 0, i6 100000] rfl rfl (a_parade_within r_1.Least 0 100000) rfl rfl (d_parade_within N r_1.Least 0 100000 r_6 hr_6) (b_parade_within _ _ _ _) rfl ?_
  rcases condI h with ⟨hc_7, h⟩ | ⟨hc_7, h⟩
  ·refine runH 14 [(1, .eq (.bool true))] [1, 3] [AV.bool (!r_6) = AV.bool true] (mkS 26 [(1, .ptr 0 0), (3, .bool true)]) (⟨[(C_Rules r_1)], []⟩) (by kernel_rfl) ⟨congrArg AV.bool hc_7, trivial⟩ ?_
   refine ExO.nil ?_
   (try simp only [reduceCtorEq, AEx.ex.injEq, Nat.reduceEqDiff, if_true, if_false])
   exact ⟨_, _, Forgets.refl _ _ _, true, h, rfl, rfl⟩
  ·obtain ⟨r_8, hr_8, h⟩ := bE h
   refine runH 4 [(1, .eq (.bool false))] [1, 8, 10] [AV.bool (!r_6) = AV.bool false] (mkS 26 [(1, .ptr 0 0), (8, .bool false), (10, i6 r_1.Most)]) (⟨[(C_Rules r_1)], []⟩) (by kernel_rfl) ⟨congrArg AV.bool hc_7, trivial⟩ ?_
   refine ExO.callL [] [i6 r_1.Most, i6 0, i6 100000] rfl rfl (a_parade_within r_1.Most 0 100000) rfl rfl (d_parade_within N r_1.Most 0 100000 r_8 hr_8) (b_parade_within _ _ _ _) rfl ?_
   rcases condI h with ⟨hc_9, h⟩ | ⟨hc_9, h⟩
   ·refine runH 9 [(2, .eq (.bool true))] [1, 3] [AV.bool (!r_8) = AV.bool true] (mkS 26 [(1, .ptr 0 0), (3, .bool true)]) (⟨[(C_Rules r_1)], []⟩) (by kernel_rfl) ⟨congrArg AV.bool hc_9, trivial⟩ ?_
    refine ExO.nil ?_
    (try simp only [reduceCtorEq, AEx.ex.injEq, Nat.reduceEqDiff, if_true, if_false])
    exact ⟨_, _, Forgets.refl _ _ _, true, h, rfl, rfl⟩
   ·obtain ⟨r_10, hr_10, h⟩ := bE h
    refine runH 5 [(2, .eq (.bool false))] [1, 14, 16] [AV.bool (!r_8) = AV.bool false] (mkS 26 [(1, .ptr 0 0), (14, .bool false), (16, i6 r_1.Gap)]) (⟨[(C_Rules r_1)], []⟩) (by kernel_rfl) ⟨congrArg AV.bool hc_9, trivial⟩ ?_
    refine ExO.callL [] [i6 r_1.Gap, i6 0, i6 20000] rfl rfl (a_parade_within r_1.Gap 0 20000) rfl rfl (d_parade_within N r_1.Gap 0 20000 r_10 hr_10) (b_parade_within _ _ _ _) rfl ?_
    refine rn 3 [1, 3] (mkS 26 [(1, .ptr 0 0), (3, .bool (!r_10))]) ⟨[(C_Rules r_1)], []⟩ ?_
    refine ExO.nil ?_
    (try simp only [reduceCtorEq, AEx.ex.injEq, Nat.reduceEqDiff, if_true, if_false])
    exact ⟨_, _, Forgets.refl _ _ _, (!r_10), h, rfl, rfl⟩
 ·rintro a S ⟨y_2, h, rfl, rfl⟩
  subst hK_5
  rcases condI h with ⟨hc_11, h⟩ | ⟨hc_11, h⟩
  ·refine Ex.condT _ rfl hc_11 ?_
   refine Ex.seq (rg 1 [2] (mkS 26 [(2, i6 2)]) ⟨[(C_Rules r_1)], []⟩ ?_)
   refine Ex.ret ?_
   obtain rfl := sJ h
   exact rt (i6 2)
  ·refine Ex.condF _ rfl hc_11 ?_
   refine Ex.seq (rg 6 [20] (mkS 26 [(20, .bool (decide (r_1.Least > r_1.Most)))]) ⟨[(C_Rules r_1)], []⟩ ?_)
   rcases condI h with ⟨hc_12, h⟩ | ⟨hc_12, h⟩
   ·refine Ex.condT _ rfl hc_12 ?_
    refine Ex.seq (rg 1 [2] (mkS 26 [(2, i6 9)]) ⟨[(C_Rules r_1)], []⟩ ?_)
    refine Ex.ret ?_
    obtain rfl := sJ h
    exact rt (i6 9)
   ·refine Ex.condF _ rfl hc_12 ?_
    refine Ex.skip ?_
    refine Ex.seq (rg 1 [2] (mkS 26 [(2, i6 0)]) ⟨[(C_Rules r_1)], []⟩ ?_)
    refine Ex.ret ?_
    obtain rfl := sJ h
    exact rt (i6 0)
def p_parade_apart (N : Nat) (s_1 : T_School) (starts_2 : (List Int)) (wing_3 : Int) (end_4 : Int) : Option (T_parade_truth) := ((p_parade_allAt N s_1 starts_2 (IntKind.i64.wrap (1 - end_4))).bind fun r_5 => ((getI s_1.Wings wing_3).bind fun x_6 => ((p_parade_endsOf N x_6.Pace).bind fun r_7 => ((getA r_7.l end_4 2).bind fun x_8 => ((idxI wing_3 8).bind fun u_9 => ((some (⟨r_5.wings_, r_5.starts_, (T_V8_i64.ofl (r_5.paces_.l.set (Int.toNat wing_3) x_8))⟩ : T_parade_truth)).bind fun z_10 => some z_10))))))
def v_parade_apart (r : T_parade_truth) : AV := (A_parade_truth r)
attribute [local simp] v_parade_apart
theorem b_parade_apart (r : T_parade_truth) (n n2 m : Nat) : back n n2 m (v_parade_apart r) = some (v_parade_apart r) := by simp
theorem d_parade_apart (N : Nat) (s_1 : T_School) (starts_2 : (List Int)) (wing_3 : Int) (end_4 : Int) (r : T_parade_truth) (h : p_parade_apart N s_1 starts_2 wing_3 end_4 = some r) : Does Try.prog 86 [(A_School s_1), .sl (starts_2.map (AV.int .i64)) none, i6 wing_3, i6 end_4] [] fun v c => v = v_parade_apart r ∧ c = [] := by
 unfold p_parade_apart at h
 refine Does.ofL comp86 _ _ rfl rfl ?_
 refine Ex.seq (rg 2 [1, 2, 3, 4, 8] (mkS 28 [(1, .sl (starts_2.map (AV.int .i64)) none), (2, i6 wing_3), (3, i6 end_4), (4, .ptr 0 0), (8, .ptr 1 0)]) ⟨[(C_School s_1), [.nils, .nils, i6 0, i6 0, i6 0, i6 0, i6 0, i6 0, i6 0, i6 0]], []⟩ ?_)
 refine Ex.seq ?_
 obtain ⟨r_5, hr_5, h⟩ := bE h
 refine Ex.reg (rn 4 [2, 3, 4, 8, 10, 11, 13] (mkS 28 [(2, i6 wing_3), (3, i6 end_4), (4, .ptr 0 0), (8, .ptr 1 0), (10, (A_School s_1)), (11, .sl (starts_2.map (AV.int .i64)) none), (13, i6 (IntKind.i64.wrap (1 - end_4)))]) ⟨[(C_School s_1), [.nils, .nils, i6 0, i6 0, i6 0, i6 0, i6 0, i6 0, i6 0, i6 0]], []⟩ ?_)
 refine ExO.callL [] [(A_School s_1), .sl (starts_2.map (AV.int .i64)) none, i6 (IntKind.i64.wrap (1 - end_4))] rfl rfl (a_parade_allAt s_1 starts_2 (IntKind.i64.wrap (1 - end_4))) rfl rfl (d_parade_allAt N s_1 starts_2 (IntKind.i64.wrap (1 - end_4)) r_5 hr_5) (b_parade_allAt _ _ _ _) rfl ?_
 refine rn 2 [2, 3, 4, 8, 9] (mkS 28 [(2, i6 wing_3), (3, i6 end_4), (4, .ptr 0 0), (8, .ptr 1 0), (9, .ptr 2 0)]) ⟨[(C_School s_1), [.nils, .nils, i6 0, i6 0, i6 0, i6 0, i6 0, i6 0, i6 0, i6 0], (C_parade_truth r_5)], []⟩ ?_
 refine ExO.nil ?_
 refine Ex.seq ?_
 obtain ⟨x_6, hx_6, h⟩ := bE h
 obtain ⟨r_7, hr_7, h⟩ := bE h
 refine Ex.reg ?_
 refine runH 7 [(4, .rop (C_Wing x_6))] [3, 8, 9, 15, 21] [LGet (s_1.Wings.map A_Wing) wing_3 4 (C_Wing x_6)] (mkS 28 [(3, i6 end_4), (8, .ptr 1 0), (9, .ptr 2 0), (15, i6 wing_3), (21, (A_Span x_6.Pace))]) (⟨[(C_School s_1), [.nils, .nils, i6 0, i6 0, i6 0, i6 0, i6 0, i6 0, i6 0, i6 0], (C_parade_truth r_5)], []⟩) (by kernel_rfl) ⟨LGet.of hx_6 rfl, trivial⟩ ?_
 refine ExO.callL [] [(A_Span x_6.Pace)] rfl rfl (a_parade_endsOf x_6.Pace) rfl rfl (d_parade_endsOf N x_6.Pace r_7 hr_7) (b_parade_endsOf _ _ _ _) rfl ?_
 obtain ⟨x_8, hx_8, h⟩ := bE h
 obtain ⟨u_9, hu_9, h⟩ := bE h
 obtain ⟨z_10, hz_10, h⟩ := bE h
 refine runH 5 [(1, .ax (i6 x_8)), (3, .adr), (4, .st (C_parade_truth z_10))] [8, 9] [(0 ≤ end_4 ∧ end_4 < ((2 : Nat) : Int)) ∧ takeCells (C_V2_i64 r_7) (Int.toNat end_4 * 1) none = some (i6 x_8), 0 ≤ wing_3 ∧ wing_3 < ((8 : Nat) : Int), 2 + Int.toNat wing_3 * 1 + 1 ≤ ((C_parade_truth r_5)).length ∧ layAt (C_parade_truth r_5) (2 + Int.toNat wing_3 * 1) [i6 x_8] = (C_parade_truth z_10)] (mkS 28 [(8, .ptr 1 0), (9, .ptr 2 0)]) (⟨[(C_School s_1), [.nils, .nils, i6 0, i6 0, i6 0, i6 0, i6 0, i6 0, i6 0, i6 0], (C_parade_truth z_10)], []⟩) (by kernel_rfl) ⟨⟨idxI.of (getA.of hx_8).1, by simpa using ldArr (f := (AV.int .i64)) r_7.l (C_V2_i64 r_7) 0 0 2 end_4 x_8 (i6 x_8) (fun _ => rfl) (by kernel_rfl) rfl (getA.of hx_8).1 (getA.of hx_8).2 rfl⟩, idxI.of hu_9, (by obtain rfl := Option.some.inj hz_10; exact stArr r_5.paces_.l _ (C_parade_truth r_5) _ 2 8 wing_3 x_8 (fun _ => rfl) (by kernel_rfl) (by kernel_rfl) rfl (T_V8_i64.l_ofl _ (by simp [T_V8_i64.l])) hu_9 (by kernel_rfl) (by kernel_rfl)), trivial⟩ ?_
 refine ExO.nil ?_
 refine Ex.seq (rg 2 [8] (mkS 28 [(8, .ptr 1 0)]) ⟨[(C_School s_1), (C_parade_truth z_10), (C_parade_truth z_10)], []⟩ ?_)
 refine Ex.ret ?_
 obtain rfl := sJ h
 exact rt ((A_parade_truth z_10))
def p_parade_truth_front (N : Nat) (t_1 : T_parade_truth) (wing_2 : Int) (second_3 : Int) : Option (Int) := ((p_parade_upTo N t_1.wings_ wing_2).bind fun r_4 => (letJ (fun (b_12 : Int) => some b_12) (fun k_13 => (letJ (fun (b_16 : Int) => (k_13 b_16)) (fun k_17 => (loop3 (fun rec_23 (distance_20 : Int) (i_21 : Int) (b_22 : Int) => (bif (decide (i_21 ≥ 0)) then (letJ (fun (distance_27 : Int) => (letJ (fun (b_41 : Int) => (rec_23 distance_27 (IntKind.i64.wrap (i_21 - 1)) b_41)) (fun k_42 => ((idxI i_21 8).bind fun u_45 => ((t_1.paces_.l[Int.toNat i_21]?).bind fun x_46 => ((getI t_1.starts_ i_21).bind fun x_47 => (k_42 (if (IntKind.i64.wrap ((IntKind.i64.wrap (x_46 * (IntKind.i64.wrap (second_3 - x_47)))) - distance_27)) < b_22 then (IntKind.i64.wrap ((IntKind.i64.wrap (x_46 * (IntKind.i64.wrap (second_3 - x_47)))) - distance_27)) else b_22)))))))) (fun k_28 => (bif (decide (i_21 < r_4.1)) then ((getI r_4.2 i_21).bind fun x_32 => (k_28 (IntKind.i64.wrap (distance_20 + x_32.Length)))) else (k_28 distance_20)))) else (k_17 b_22))) N 0 r_4.1 9223372036854775807))))))
def v_parade_truth_front (r : Int) : AV := i6 r
attribute [local simp] v_parade_truth_front
theorem a_parade_truth_front (t_1 : T_parade_truth) (wing_2 : Int) (second_3 : Int) : [(A_parade_truth t_1), i6 wing_2, i6 second_3].mapM (ren []) = some [(A_parade_truth t_1), i6 wing_2, i6 second_3] := by simp
theorem b_parade_truth_front (r : Int) (n n2 m : Nat) : back n n2 m (v_parade_truth_front r) = some (v_parade_truth_front r) := by simp
theorem d_parade_truth_front (N : Nat) (t_1 : T_parade_truth) (wing_2 : Int) (second_3 : Int) (r : Int) (h : p_parade_truth_front N t_1 wing_2 second_3 = some r) : Does Try.prog 60 [(A_parade_truth t_1), i6 wing_2, i6 second_3] [] fun v c => v = v_parade_truth_front r ∧ c = [] := by
 unfold p_parade_truth_front at h
 refine Does.ofL comp60 _ _ rfl rfl ?_
 refine Ex.seq (rg 3 [1, 3, 5, 6] (mkS 33 [(1, i6 wing_2), (3, .ptr 0 0), (5, .ptr 1 0), (6, i6 0)]) ⟨[(C_parade_truth t_1), [i6 second_3]], []⟩ ?_)
 refine Ex.seq (rg 2 [1, 3, 5, 6, 7] (mkS 33 [(1, i6 wing_2), (3, .ptr 0 0), (5, .ptr 1 0), (6, i6 0), (7, .ptr 2 0)]) ⟨[(C_parade_truth t_1), [i6 second_3], [i6 9223372036854775807]], []⟩ ?_)
 refine Ex.seq (Ex.seq ?_)
 obtain ⟨r_4, hr_4, h⟩ := bE h
 refine Ex.reg (rn 3 [3, 5, 6, 7, 11, 12] (mkS 33 [(3, .ptr 0 0), (5, .ptr 1 0), (6, i6 0), (7, .ptr 2 0), (11, .sl (t_1.wings_.map A_Wing) none), (12, i6 wing_2)]) ⟨[(C_parade_truth t_1), [i6 second_3], [i6 9223372036854775807]], []⟩ ?_)
 refine ExO.callL [] [.sl (t_1.wings_.map A_Wing) none, i6 wing_2] rfl rfl (a_parade_upTo t_1.wings_ wing_2) rfl rfl (d_parade_upTo N t_1.wings_ wing_2 r_4 hr_4) (b_parade_upTo _ _ _ _) rfl ?_
 refine rn 0 [3, 5, 6, 7, 13] (mkS 33 [(3, .ptr 0 0), (5, .ptr 1 0), (6, i6 0), (7, .ptr 2 0), (13, .fn 90 [] [.rop [i6 r_4.1], .rop [.sl (r_4.2.map A_Wing) none]])]) ⟨[(C_parade_truth t_1), [i6 second_3], [i6 9223372036854775807]], []⟩ ?_
 refine ExO.nil ?_
 refine Ex.blockK ?_
 obtain ⟨K_14, hK_15, h⟩ := letE h
 refine Ex.rangeJ (fun k S => (k = 0 ∧ ∃ (b_12 : Int), K_14 b_12 = some r ∧ S = ⟨[(C_parade_truth t_1), [i6 second_3], [i6 b_12]], [(0, 0)]⟩)) 90 [.rop [i6 r_4.1], .rop [.sl (r_4.2.map A_Wing) none]] _ rfl comp90 rfl (by simp [setAll]) (by exact trivial) (mkS 26 [(1, .rop [i6 r_4.1]), (2, .rop [.sl (r_4.2.map A_Wing) none]), (3, .tup []), (4, .tup []), (5, .tup []), (6, .tup []), (7, .tup []), (8, .tup []), (9, .tup []), (10, .tup []), (11, .tup []), (12, .tup []), (13, .tup []), (14, .tup []), (15, .tup []), (16, .tup []), (17, .tup []), (18, .tup []), (19, .tup []), (20, .tup []), (21, .tup []), (22, .tup []), (23, .tup []), (24, .tup []), (25, .tup [])]) (⟨[(C_parade_truth t_1), [i6 second_3], [i6 9223372036854775807]], [(0, 0)]⟩) (fun _ => by kernel_rfl) (by kernel_rfl) ?_ ?_
 ·intro cx_6 Lp_5 hcn_7 hcm_8 hLt_9 hL_10 hup_11
  refine Ex.castA (a2 := mkS 26 [(0, .yld Lp_5.l 0), (1, .rop [i6 r_4.1]), (2, .rop [.sl (r_4.2.map A_Wing) none]), (3, .tup []), (4, .tup []), (5, .tup []), (6, .tup []), (7, .tup []), (8, .tup []), (9, .tup []), (10, .tup []), (11, .tup []), (12, .tup []), (13, .tup []), (14, .tup []), (15, .tup []), (16, .tup []), (17, .tup []), (18, .tup []), (19, .tup []), (20, .tup []), (21, .tup []), (22, .tup []), (23, .tup []), (24, .tup []), (25, .tup [])]) (S2 := ⟨[(C_parade_truth t_1), [i6 second_3], [i6 9223372036854775807]], [(0, 0)]⟩) (by kernel_rfl) rfl ?_
  refine Ex.seq (rg 1 [0, 1, 2, 4] (mkS 26 [(0, .yld Lp_5.l 0), (1, .rop [i6 r_4.1]), (2, .rop [.sl (r_4.2.map A_Wing) none]), (4, i6 0)]) ⟨[(C_parade_truth t_1), [i6 second_3], [i6 9223372036854775807]], [(0, 0)]⟩ ?_)
  refine Ex.seq (rg 2 [0, 1, 2, 4, 5] (mkS 26 [(0, .yld Lp_5.l 0), (1, .rop [i6 r_4.1]), (2, .rop [.sl (r_4.2.map A_Wing) none]), (4, i6 0), (5, i6 r_4.1)]) ⟨[(C_parade_truth t_1), [i6 second_3], [i6 9223372036854775807]], [(0, 0)]⟩ ?_)
  obtain ⟨K_18, hK_19, h⟩ := letE h
  refine Ex.blockJ (fun a S => ∃ (b_16 : Int), K_18 b_16 = some r ∧ a = mkS 26 [] ∧ S = ⟨[(C_parade_truth t_1), [i6 second_3], [i6 b_16]], [(0, 0)]⟩) ?_ ?_
  ·obtain ⟨B_24, hB_25, h⟩ := loop3I h
   refine Ex.loopF (fun k a S => ∃ (distance_20 : Int), ∃ (i_21 : Int), ∃ (b_22 : Int), loop3 B_24 k distance_20 i_21 b_22 = some r ∧ a = mkS 26 [(0, .yld Lp_5.l 0), (1, .rop [i6 r_4.1]), (2, .rop [.sl (r_4.2.map A_Wing) none]), (4, i6 distance_20), (5, i6 i_21)] ∧ S = ⟨[(C_parade_truth t_1), [i6 second_3], [i6 b_22]], [(0, 0)]⟩) N ⟨_, _, Forgets.refl _ _ _, 0, r_4.1, 9223372036854775807, h, rfl, rfl⟩ ?_
   rintro k a S ⟨distance_20, i_21, b_22, h, rfl, rfl⟩
   cases k with
   | zero => exact (loop3Z h).elim
   | succ k =>
    replace h := loop3S h hB_25
    refine Ex.seq (Ex.seq ?_)
    refine rg 2 [0, 1, 2, 4, 5, 8] (mkS 26 [(0, .yld Lp_5.l 0), (1, .rop [i6 r_4.1]), (2, .rop [.sl (r_4.2.map A_Wing) none]), (4, i6 distance_20), (5, i6 i_21), (8, .bool (decide (i_21 ≥ 0)))]) ⟨[(C_parade_truth t_1), [i6 second_3], [i6 b_22]], [(0, 0)]⟩ ?_
    rcases condI h with ⟨hc_26, h⟩ | ⟨hc_26, h⟩
    ·refine Ex.condT _ rfl hc_26 ?_
     refine Ex.skip ?_
     refine Ex.seq ?_
     refine Ex.blockK ?_
     obtain ⟨K_29, hK_30, h⟩ := letE h
     refine Ex.seqJ (fun a S => ∃ (distance_27 : Int), K_29 distance_27 = some r ∧ a = mkS 26 [(0, .yld Lp_5.l 0), (1, .rop [i6 r_4.1]), (2, .rop [.sl (r_4.2.map A_Wing) none]), (4, i6 distance_27), (5, i6 i_21)] ∧ S = ⟨[(C_parade_truth t_1), [i6 second_3], [i6 b_22]], [(0, 0)]⟩) ?_ ?_
     ·refine Ex.seq (rg 3 [0, 1, 2, 4, 5, 13] (mkS 26 [(0, .yld Lp_5.l 0), (1, .rop [i6 r_4.1]), (2, .rop [.sl (r_4.2.map A_Wing) none]), (4, i6 distance_20), (5, i6 i_21), (13, .bool (decide (i_21 < r_4.1)))]) ⟨[(C_parade_truth t_1), [i6 second_3], [i6 b_22]], [(0, 0)]⟩ ?_)
      rcases condI h with ⟨hc_31, h⟩ | ⟨hc_31, h⟩
      ·refine Ex.condT _ rfl hc_31 ?_
       obtain ⟨x_32, hx_32, h⟩ := bE h
       refine regH 8 [(3, .rop (C_Wing x_32))] [0, 1, 2, 4, 5] [LGet (r_4.2.map A_Wing) i_21 4 (C_Wing x_32)] (mkS 26 [(0, .yld Lp_5.l 0), (1, .rop [i6 r_4.1]), (2, .rop [.sl (r_4.2.map A_Wing) none]), (4, i6 (IntKind.i64.wrap (distance_20 + x_32.Length))), (5, i6 i_21)]) (⟨[(C_parade_truth t_1), [i6 second_3], [i6 b_22]], [(0, 0)]⟩) (by kernel_rfl) ⟨LGet.of hx_32 rfl, trivial⟩ rfl ?_
       (try simp only [reduceCtorEq, AEx.ex.injEq, Nat.reduceEqDiff, if_true, if_false])
       exact ⟨_, _, Forgets.refl _ _ _, (IntKind.i64.wrap (distance_20 + x_32.Length)), h, rfl, rfl⟩
      ·refine Ex.condF _ rfl hc_31 ?_
       refine Ex.skip ?_
       (try simp only [reduceCtorEq, AEx.ex.injEq, Nat.reduceEqDiff, if_true, if_false])
       exact ⟨_, _, forgetK [0, 1, 2, 4, 5], distance_20, h, rfl, rfl⟩
     ·rintro a S ⟨distance_27, h, rfl, rfl⟩
      subst hK_30
      refine Ex.seq ?_
      refine Ex.regI ?_
      refine runI 3 [] [0, 1, 2, 4, 5, 21, 22, 23] [] (mkS 26 [(0, .yld Lp_5.l 0), (1, .rop [i6 r_4.1]), (2, .rop [.sl (r_4.2.map A_Wing) none]), (4, i6 distance_27), (5, i6 i_21), (21, .yld Lp_5.l 0), (22, i6 i_21), (23, i6 distance_27)]) (⟨[(C_parade_truth t_1), [i6 second_3], [i6 b_22]], [(0, 0)]⟩) (by kernel_rfl) trivial ?_
      obtain ⟨K_43, hK_44, h⟩ := letE h
      refine ExI.yieldT 0 hLt_9 hL_10 [i6 i_21, i6 distance_27] rfl rfl rfl (by kernel_rfl) rfl rfl (leC hcn_7 (by simp [setAll])) ?_
      intro ca_33 cb_34 ha_35 hb_36 hma_37 hmb_38 hup_39 hbz_40
      refine Ex.castA (a2 := mkS 33 [(3, .ptr 0 0), (5, .ptr 1 0), (6, i6 0), (7, .ptr 2 0), (13, .fn 90 [] [.rop [i6 r_4.1], .rop [.sl (r_4.2.map A_Wing) none]]), (14, i6 i_21), (15, i6 distance_27)]) (S2 := ⟨[(C_parade_truth t_1), [i6 second_3], [i6 b_22]], [(0, 0)]⟩) (by kernel_rfl) (by kernel_rfl) ?_
      refine Ex.two (fun z S => (z = AEx.norm ∧ ∃ (b_41 : Int), K_43 b_41 = some r ∧ S = ⟨[(C_parade_truth t_1), [i6 second_3], [i6 b_41]], [(0, 0)]⟩)) ?_ ?_
      ·refine Ex.seq (rg 1 [3, 5, 7, 8, 15] (mkS 33 [(3, .ptr 0 0), (5, .ptr 1 0), (7, .ptr 2 0), (8, i6 i_21), (15, i6 distance_27)]) ⟨[(C_parade_truth t_1), [i6 second_3], [i6 b_22]], [(0, 0)]⟩ ?_)
       refine rg 1 [3, 5, 7, 8, 9] (mkS 33 [(3, .ptr 0 0), (5, .ptr 1 0), (7, .ptr 2 0), (8, i6 i_21), (9, i6 distance_27)]) ⟨[(C_parade_truth t_1), [i6 second_3], [i6 b_22]], [(0, 0)]⟩ ?_
       refine ⟨rfl, rfl, ?_⟩
       refine Ex.blockK ?_
       obtain ⟨u_45, hu_45, h⟩ := bE h
       obtain ⟨x_46, hx_46, h⟩ := bE h
       obtain ⟨x_47, hx_47, h⟩ := bE h
       refine Ex.drawE (a1 := mkS 33 [(3, .ptr 0 0), (5, .ptr 1 0), (7, .ptr 2 0), (8, i6 i_21), (9, i6 distance_27), (16, i6 b_22), (17, i6 i_21), (18, .ptr 0 2), (19, .ptr 0 (2 + Int.toNat i_21 * 1)), (20, i6 x_46), (21, i6 second_3), (22, .ptr 0 1), (23, .sl (t_1.starts_.map (AV.int .i64)) none), (24, i6 i_21), (25, .rop [i6 x_47]), (26, i6 x_47), (27, i6 (IntKind.i64.wrap (second_3 - x_47))), (28, i6 (IntKind.i64.wrap (x_46 * (IntKind.i64.wrap (second_3 - x_47))))), (29, i6 distance_27), (30, i6 (IntKind.i64.wrap ((IntKind.i64.wrap (x_46 * (IntKind.i64.wrap (second_3 - x_47)))) - distance_27)))]) (noClr_ok _) [] [] [] ?_ ?_
       ·refine drS [0, 1, 2] 15 [(3, .adr), (4, .ld (i6 x_46)), (9, .rop [i6 x_47])] [0 ≤ i_21 ∧ i_21 < ((8 : Nat) : Int), takeCells (C_parade_truth t_1) (2 + Int.toNat i_21 * 1) none = some (i6 x_46), LGet (t_1.starts_.map (AV.int .i64)) i_21 1 [i6 x_47]] (mkS 33 [(3, .ptr 0 0), (5, .ptr 1 0), (7, .ptr 2 0), (8, i6 i_21), (9, i6 distance_27), (16, i6 b_22), (17, i6 i_21), (18, .ptr 0 2), (19, .ptr 0 (2 + Int.toNat i_21 * 1)), (20, i6 x_46), (21, i6 second_3), (22, .ptr 0 1), (23, .sl (t_1.starts_.map (AV.int .i64)) none), (24, i6 i_21), (25, .rop [i6 x_47]), (26, i6 x_47), (27, i6 (IntKind.i64.wrap (second_3 - x_47))), (28, i6 (IntKind.i64.wrap (x_46 * (IntKind.i64.wrap (second_3 - x_47))))), (29, i6 distance_27), (30, i6 (IntKind.i64.wrap ((IntKind.i64.wrap (x_46 * (IntKind.i64.wrap (second_3 - x_47)))) - distance_27)))]) (by simp) (by kernel_rfl) ⟨idxI.of hu_45, ldArr (f := (AV.int .i64)) t_1.paces_.l (C_parade_truth t_1) 2 0 8 i_21 x_46 (i6 x_46) (fun _ => rfl) (by kernel_rfl) rfl hu_45 hx_46 rfl, LGet.of hx_47 rfl, trivial⟩ (by kernel_rfl) ?_
        exact DrO.nil rfl
       ·dsimp only [List.getLastD_cons, List.getLastD_nil]
        refine rn 2 [] (mkS 33 []) ⟨[(C_parade_truth t_1), [i6 second_3], [i6 (if (IntKind.i64.wrap ((IntKind.i64.wrap (x_46 * (IntKind.i64.wrap (second_3 - x_47)))) - distance_27)) < b_22 then (IntKind.i64.wrap ((IntKind.i64.wrap (x_46 * (IntKind.i64.wrap (second_3 - x_47)))) - distance_27)) else b_22)]], [(0, 0)]⟩ ?_
        refine ExO.nil ?_
        (try simp only [reduceCtorEq, AEx.ex.injEq, Nat.reduceEqDiff, if_true, if_false])
        exact ⟨_, _, Forgets.refl _ _ _, ⟨by first | rfl | trivial, (if (IntKind.i64.wrap ((IntKind.i64.wrap (x_46 * (IntKind.i64.wrap (second_3 - x_47)))) - distance_27)) < b_22 then (IntKind.i64.wrap ((IntKind.i64.wrap (x_46 * (IntKind.i64.wrap (second_3 - x_47)))) - distance_27)) else b_22), h, rfl⟩⟩
      ·rintro z a2 S (⟨rfl, b_41, h, rfl⟩)
       subst hK_44
       refine runI 1 [] [0, 1, 2, 4, 5, 25] [] (mkS 26 [(0, .yld Lp_5.l 0), (1, .rop [i6 r_4.1]), (2, .rop [.sl (r_4.2.map A_Wing) none]), (4, i6 distance_27), (5, i6 i_21), (25, .bool false)]) (⟨[(C_parade_truth t_1), [i6 second_3], [i6 b_41]], [(0, 0)]⟩) (by kernel_rfl) trivial ?_
       refine ExI.nil ?_
       refine Ex.cond (b := false) rfl ?_
       refine Ex.skip ?_
       refine rg 3 [0, 1, 2, 4, 5] (mkS 26 [(0, .yld Lp_5.l 0), (1, .rop [i6 r_4.1]), (2, .rop [.sl (r_4.2.map A_Wing) none]), (4, i6 distance_27), (5, i6 (IntKind.i64.wrap (i_21 - 1)))]) ⟨[(C_parade_truth t_1), [i6 second_3], [i6 b_41]], [(0, 0)]⟩ ?_
       dsimp only
       exact ⟨_, _, Forgets.refl _ _ _, k, Nat.lt_succ_self k, distance_27, (IntKind.i64.wrap (i_21 - 1)), b_41, h, rfl, rfl⟩
    ·refine Ex.condF _ rfl hc_26 ?_
     refine Ex.exit ?_
     (try simp only [reduceCtorEq, AEx.ex.injEq, Nat.reduceEqDiff, if_true, if_false])
     exact ⟨_, _, forgetK [], b_22, h, rfl, rfl⟩
  ·rintro a S ⟨b_16, h, rfl, rfl⟩
   subst hK_19
   exact ⟨_, _, Forgets.refl _ _ _, .inl rfl, 0, rfl, ⟨by first | rfl | trivial, b_16, h, rfl⟩⟩
 ·rintro k S (⟨rfl, b_12, h, rfl⟩)
  subst hK_15
  refine Ex.seq (rg 2 [6] (mkS 33 [(6, i6 b_12)]) ⟨[(C_parade_truth t_1), [i6 second_3], [i6 b_12]], [(0, 0)]⟩ ?_)
  refine Ex.ret ?_
  obtain rfl := sJ h
  exact rt (i6 b_12)
def p_parade_truth_gap (N : Nat) (t_1 : T_parade_truth) (wing_2 : Int) (second_3 : Int) : Option (Int) := ((p_parade_truth_front N t_1 (IntKind.i64.wrap (wing_2 - 1)) second_3).bind fun r_4 => ((getI t_1.wings_ (IntKind.i64.wrap (wing_2 - 1))).bind fun x_5 => ((p_parade_truth_front N t_1 wing_2 second_3).bind fun r_7 => some (IntKind.i64.wrap ((IntKind.i64.wrap (r_4 - x_5.Length)) - r_7)))))
def v_parade_truth_gap (r : Int) : AV := i6 r
attribute [local simp] v_parade_truth_gap
theorem a_parade_truth_gap (t_1 : T_parade_truth) (wing_2 : Int) (second_3 : Int) : [(A_parade_truth t_1), i6 wing_2, i6 second_3].mapM (ren []) = some [(A_parade_truth t_1), i6 wing_2, i6 second_3] := by simp
theorem b_parade_truth_gap (r : Int) (n n2 m : Nat) : back n n2 m (v_parade_truth_gap r) = some (v_parade_truth_gap r) := by simp
theorem d_parade_truth_gap (N : Nat) (t_1 : T_parade_truth) (wing_2 : Int) (second_3 : Int) (r : Int) (h : p_parade_truth_gap N t_1 wing_2 second_3 = some r) : Does Try.prog 87 [(A_parade_truth t_1), i6 wing_2, i6 second_3] [] fun v c => v = v_parade_truth_gap r ∧ c = [] := by
 unfold p_parade_truth_gap at h
 refine Does.ofL comp87 _ _ rfl rfl ?_
 refine Ex.seq (rg 2 [1, 2, 3] (mkS 27 [(1, i6 wing_2), (2, i6 second_3), (3, .ptr 0 0)]) ⟨[(C_parade_truth t_1)], []⟩ ?_)
 refine Ex.seq ?_
 obtain ⟨r_4, hr_4, h⟩ := bE h
 obtain ⟨x_5, hx_5, h⟩ := bE h
 have hT_6 : DoesA Try.prog [⟨60, [(A_parade_truth t_1), i6 (IntKind.i64.wrap (wing_2 - 1)), i6 second_3], [], (v_parade_truth_front r_4), []⟩] ∧ ConsA [⟨60, [(A_parade_truth t_1), i6 (IntKind.i64.wrap (wing_2 - 1)), i6 second_3], [], (v_parade_truth_front r_4), []⟩] := ⟨⟨(d_parade_truth_front N t_1 (IntKind.i64.wrap (wing_2 - 1)) second_3 r_4 hr_4), rfl, trivial⟩, ⟨trivial, trivial⟩⟩
 refine Ex.drawE (a1 := mkS 27 [(1, i6 wing_2), (2, i6 second_3), (3, .ptr 0 0), (8, (A_parade_truth t_1)), (9, i6 wing_2), (10, i6 (IntKind.i64.wrap (wing_2 - 1))), (11, i6 second_3), (12, i6 r_4), (13, .ptr 0 0), (14, .sl (t_1.wings_.map A_Wing) none), (15, i6 wing_2), (16, i6 (IntKind.i64.wrap (wing_2 - 1))), (17, .rop (C_Wing x_5)), (18, .rop [i6 x_5.Length, i6 x_5.Pace.Lo, i6 x_5.Pace.Hi]), (19, i6 x_5.Length)]) (tabO_ok hT_6.1) [] [] [] ?_ ?_
 ·refine drS [0] 4 [] [] (mkS 27 [(1, i6 wing_2), (2, i6 second_3), (3, .ptr 0 0), (8, (A_parade_truth t_1)), (9, i6 wing_2), (10, i6 (IntKind.i64.wrap (wing_2 - 1))), (11, i6 second_3)]) (by simp) (by kernel_rfl) trivial (by kernel_rfl) ?_
  refine drC hT_6.2 0 _ [(A_parade_truth t_1), i6 (IntKind.i64.wrap (wing_2 - 1)), i6 second_3] (v_parade_truth_front r_4) rfl rfl rfl rfl rfl (fun _ => rfl) rfl (by simp; try rfl) (fun _ => b_parade_truth_front _ _ _ _) ?_
  refine drS [0] 7 [(4, .rop (C_Wing x_5))] [LGet (t_1.wings_.map A_Wing) (IntKind.i64.wrap (wing_2 - 1)) 4 (C_Wing x_5)] (mkS 27 [(1, i6 wing_2), (2, i6 second_3), (3, .ptr 0 0), (8, (A_parade_truth t_1)), (9, i6 wing_2), (10, i6 (IntKind.i64.wrap (wing_2 - 1))), (11, i6 second_3), (12, i6 r_4), (13, .ptr 0 0), (14, .sl (t_1.wings_.map A_Wing) none), (15, i6 wing_2), (16, i6 (IntKind.i64.wrap (wing_2 - 1))), (17, .rop (C_Wing x_5)), (18, .rop [i6 x_5.Length, i6 x_5.Pace.Lo, i6 x_5.Pace.Hi]), (19, i6 x_5.Length)]) (by simp) (by kernel_rfl) ⟨LGet.of hx_5 rfl, trivial⟩ (by kernel_rfl) ?_
  exact DrO.nil rfl
 ·dsimp only [List.getLastD_cons, List.getLastD_nil]
  refine rn 2 [1, 2, 3, 7] (mkS 27 [(1, i6 wing_2), (2, i6 second_3), (3, .ptr 0 0), (7, i6 (IntKind.i64.wrap (r_4 - x_5.Length)))]) ⟨[(C_parade_truth t_1)], []⟩ ?_
  refine ExO.nil ?_
  refine Ex.seq ?_
  obtain ⟨r_7, hr_7, h⟩ := bE h
  refine Ex.reg (rn 4 [21, 22, 23, 24] (mkS 27 [(21, i6 (IntKind.i64.wrap (r_4 - x_5.Length))), (22, (A_parade_truth t_1)), (23, i6 wing_2), (24, i6 second_3)]) ⟨[(C_parade_truth t_1)], []⟩ ?_)
  refine ExO.callL [] [(A_parade_truth t_1), i6 wing_2, i6 second_3] rfl rfl (a_parade_truth_front t_1 wing_2 second_3) rfl rfl (d_parade_truth_front N t_1 wing_2 second_3 r_7 hr_7) (b_parade_truth_front _ _ _ _) rfl ?_
  refine rn 2 [6] (mkS 27 [(6, i6 (IntKind.i64.wrap ((IntKind.i64.wrap (r_4 - x_5.Length)) - r_7)))]) ⟨[(C_parade_truth t_1)], []⟩ ?_
  refine ExO.nil ?_
  refine Ex.ret ?_
  obtain rfl := sJ h
  exact rt (i6 (IntKind.i64.wrap ((IntKind.i64.wrap (r_4 - x_5.Length)) - r_7)))
structure T_parade_opening where
 wing_ : Int
 second_ : Int
 gap_ : Int
 deriving Inhabited
def C_parade_opening (x : T_parade_opening) : List AV := [i6 x.wing_, i6 x.second_, i6 x.gap_]
attribute [local simp] C_parade_opening
def A_parade_opening (x : T_parade_opening) : AV := .agg (C_parade_opening x)
attribute [local simp] A_parade_opening
theorem KC_parade_opening (x : T_parade_opening) : cleanL (C_parade_opening x) = true := by simp
theorem KA_parade_opening (x : T_parade_opening) : (A_parade_opening x).clean = true := KC_parade_opening x
theorem KL_parade_opening (l : List T_parade_opening) : cleanL (l.map A_parade_opening) = true := cleanM KA_parade_opening l
attribute [local simp] KL_parade_opening
theorem KB_parade_opening (x : T_parade_opening) (n : Nat) (σ : List Nat) : (C_parade_opening x).mapM (re n σ) = some (C_parade_opening x) := by simp
attribute [local simp] KB_parade_opening
def p_parade_peak_parade_truth_gap (N : Nat) (a_1 : T_parade_truth) (wing_2 : Int) (from_3 : Int) (until_4 : Int) : Option (T_parade_opening) := (bif (decide (from_3 ≥ until_4)) then some (⟨wing_2, from_3, 0⟩ : T_parade_opening) else (letJ (fun (i_10 : Int) => ((p_parade_truth_gap N a_1 wing_2 (IntKind.i64.wrap (from_3 + i_10))).bind fun r_34 => some (⟨wing_2, (IntKind.i64.wrap (from_3 + i_10)), r_34⟩ : T_parade_opening))) (fun k_11 => (loop2 (fun rec_16 (i_14 : Int) (j_15 : Int) => (bif (decide (i_14 < j_15)) then (letJ (fun (i_20 : Int) (j_21 : Int) => (rec_16 i_20 j_21)) (fun k_22 => ((some (Int.fdiv (IntKind.u64.wrap (IntKind.i64.wrap (i_14 + j_15))) ((2 : Int) ^ (min (Int.toNat 1) (IntKind.bits .u64))))).bind fun n_25 => ((p_parade_truth_gap N a_1 wing_2 (IntKind.i64.wrap ((IntKind.i64.wrap (from_3 + (IntKind.i64.wrap n_25))) + 1))).bind fun r_30 => ((p_parade_truth_gap N a_1 wing_2 (IntKind.i64.wrap (from_3 + (IntKind.i64.wrap n_25)))).bind fun r_32 => (bif (!(decide (r_30 ≤ r_32))) then (k_22 (IntKind.i64.wrap ((IntKind.i64.wrap n_25) + 1)) j_15) else (k_22 i_14 (IntKind.i64.wrap n_25)))))))) else (k_11 i_14))) N 0 (IntKind.i64.wrap ((IntKind.i64.wrap (until_4 - 1)) - from_3))))))
def v_parade_peak_parade_truth_gap (r : T_parade_opening) : AV := (A_parade_opening r)
attribute [local simp] v_parade_peak_parade_truth_gap
theorem b_parade_peak_parade_truth_gap (r : T_parade_opening) (n n2 m : Nat) : back n n2 m (v_parade_peak_parade_truth_gap r) = some (v_parade_peak_parade_truth_gap r) := by simp
theorem d_parade_peak_parade_truth_gap (N : Nat) (a_1 : T_parade_truth) (wing_2 : Int) (from_3 : Int) (until_4 : Int) (r : T_parade_opening) (h : p_parade_peak_parade_truth_gap N a_1 wing_2 from_3 until_4 = some r) : Does Try.prog 85 [.fn 87 [(A_parade_truth a_1)] [], i6 wing_2, i6 from_3, i6 until_4] [] fun v c => v = v_parade_peak_parade_truth_gap r ∧ c = [] := by
 unfold p_parade_peak_parade_truth_gap at h
 refine Does.ofL comp85 _ _ rfl rfl ?_
 refine Ex.seq (rg 4 [3, 4, 5, 6, 8] (mkS 33 [(3, i6 until_4), (4, .ptr 0 0), (5, .ptr 1 0), (6, .ptr 2 0), (8, .ptr 3 0)]) ⟨[[.fn 87 [(A_parade_truth a_1)] []], [i6 wing_2], [i6 from_3], [i6 0, i6 0, i6 0]], []⟩ ?_)
 refine Ex.seq (Ex.seq ?_)
 refine rg 3 [3, 4, 5, 6, 8, 12] (mkS 33 [(3, i6 until_4), (4, .ptr 0 0), (5, .ptr 1 0), (6, .ptr 2 0), (8, .ptr 3 0), (12, .bool (decide (from_3 ≥ until_4)))]) ⟨[[.fn 87 [(A_parade_truth a_1)] []], [i6 wing_2], [i6 from_3], [i6 0, i6 0, i6 0]], []⟩ ?_
 rcases condI h with ⟨hc_5, h⟩ | ⟨hc_5, h⟩
 ·refine Ex.condT _ rfl hc_5 ?_
  refine Ex.seq (rg 4 [8] (mkS 33 [(8, .ptr 3 0)]) ⟨[[.fn 87 [(A_parade_truth a_1)] []], [i6 wing_2], [i6 from_3], [i6 wing_2, i6 from_3, i6 0]], []⟩ ?_)
  refine Ex.ret ?_
  obtain rfl := sJ h
  exact rt (.agg [i6 wing_2, i6 from_3, i6 0])
 ·refine Ex.condF _ rfl hc_5 ?_
  refine Ex.skip ?_
  refine Ex.seq ?_
  refine Ex.reg (rn 5 [4, 5, 6, 8, 19, 20] (mkS 33 [(4, .ptr 0 0), (5, .ptr 1 0), (6, .ptr 2 0), (8, .ptr 3 0), (19, i6 (IntKind.i64.wrap ((IntKind.i64.wrap (until_4 - 1)) - from_3))), (20, .fn 92 [] [.ptr 0 0, .ptr 1 0, .ptr 2 0])]) ⟨[[.fn 87 [(A_parade_truth a_1)] []], [i6 wing_2], [i6 from_3], [i6 0, i6 0, i6 0]], []⟩ ?_)
  refine ExO.inlC 91 [i6 (IntKind.i64.wrap ((IntKind.i64.wrap (until_4 - 1)) - from_3)), .fn 92 [] [.ptr 0 0, .ptr 1 0, .ptr 2 0]] _ comp91 (by simp [setAll]) rfl rfl ?_
  intro cx_6 hcn_7 hcm_8 hup_9
  refine Ex.castA (a2 := mkS 26 [(0, i6 (IntKind.i64.wrap ((IntKind.i64.wrap (until_4 - 1)) - from_3))), (1, .fn 92 [] [.ptr 0 0, .ptr 1 0, .ptr 2 0]), (2, .tup []), (3, .tup []), (4, .tup []), (5, .tup []), (6, .tup []), (7, .tup []), (8, .tup []), (9, .tup []), (10, .tup []), (11, .tup []), (12, .tup []), (13, .tup []), (14, .tup []), (15, .tup []), (16, .tup []), (17, .tup []), (18, .tup []), (19, .tup []), (20, .tup []), (21, .tup []), (22, .tup []), (23, .tup []), (24, .tup []), (25, .tup [])]) (S2 := ⟨[[.fn 87 [(A_parade_truth a_1)] []], [i6 wing_2], [i6 from_3], [i6 0, i6 0, i6 0]], []⟩) (by kernel_rfl) (by kernel_rfl) ?_
  refine Ex.seq (rg 1 [0, 1] (mkS 26 [(0, i6 (IntKind.i64.wrap ((IntKind.i64.wrap (until_4 - 1)) - from_3))), (1, .fn 92 [] [.ptr 0 0, .ptr 1 0, .ptr 2 0])]) ⟨[[.fn 87 [(A_parade_truth a_1)] []], [i6 wing_2], [i6 from_3], [i6 0, i6 0, i6 0]], []⟩ ?_)
  refine Ex.seq (rg 3 [1, 5, 6] (mkS 26 [(1, .fn 92 [] [.ptr 0 0, .ptr 1 0, .ptr 2 0]), (5, i6 0), (6, i6 (IntKind.i64.wrap ((IntKind.i64.wrap (until_4 - 1)) - from_3)))]) ⟨[[.fn 87 [(A_parade_truth a_1)] []], [i6 wing_2], [i6 from_3], [i6 0, i6 0, i6 0]], []⟩ ?_)
  refine Ex.seq ?_
  obtain ⟨K_12, hK_13, h⟩ := letE h
  refine Ex.blockJ (fun a S => ∃ (i_10 : Int), K_12 i_10 = some r ∧ a = mkS 26 [(5, i6 i_10)] ∧ S = ⟨[[.fn 87 [(A_parade_truth a_1)] []], [i6 wing_2], [i6 from_3], [i6 0, i6 0, i6 0]], []⟩) ?_ ?_
  ·obtain ⟨B_17, hB_18, h⟩ := loop2I h
   refine Ex.loopF (fun k a S => ∃ (i_14 : Int), ∃ (j_15 : Int), loop2 B_17 k i_14 j_15 = some r ∧ a = mkS 26 [(1, .fn 92 [] [.ptr 0 0, .ptr 1 0, .ptr 2 0]), (5, i6 i_14), (6, i6 j_15)] ∧ S = ⟨[[.fn 87 [(A_parade_truth a_1)] []], [i6 wing_2], [i6 from_3], [i6 0, i6 0, i6 0]], []⟩) N ⟨_, _, Forgets.refl _ _ _, 0, (IntKind.i64.wrap ((IntKind.i64.wrap (until_4 - 1)) - from_3)), h, rfl, rfl⟩ ?_
   rintro k a S ⟨i_14, j_15, h, rfl, rfl⟩
   cases k with
   | zero => exact (loop2Z h).elim
   | succ k =>
    replace h := loop2S h hB_18
    refine Ex.seq (Ex.seq ?_)
    refine rg 3 [1, 5, 6, 11] (mkS 26 [(1, .fn 92 [] [.ptr 0 0, .ptr 1 0, .ptr 2 0]), (5, i6 i_14), (6, i6 j_15), (11, .bool (decide (i_14 < j_15)))]) ⟨[[.fn 87 [(A_parade_truth a_1)] []], [i6 wing_2], [i6 from_3], [i6 0, i6 0, i6 0]], []⟩ ?_
    rcases condI h with ⟨hc_19, h⟩ | ⟨hc_19, h⟩
    ·refine Ex.condT _ rfl hc_19 ?_
     refine Ex.skip ?_
     obtain ⟨K_23, hK_24, h⟩ := letE h
     refine Ex.blockJ (fun a S => ∃ (i_20 : Int), ∃ (j_21 : Int), K_23 i_20 j_21 = some r ∧ a = mkS 26 [(1, .fn 92 [] [.ptr 0 0, .ptr 1 0, .ptr 2 0]), (5, i6 i_20), (6, i6 j_21)] ∧ S = ⟨[[.fn 87 [(A_parade_truth a_1)] []], [i6 wing_2], [i6 from_3], [i6 0, i6 0, i6 0]], []⟩) ?_ ?_
     ·refine Ex.seq ?_
      obtain ⟨n_25, hn_25, h⟩ := bE h
      refine regH 7 [(4, .eq (.int .u64 n_25))] [1, 5, 6, 7] [AV.int .u64 (Int.fdiv (IntKind.u64.wrap (IntKind.i64.wrap (i_14 + j_15))) ((2 : Int) ^ (min (Int.toNat 1) (IntKind.bits .u64)))) = AV.int .u64 n_25] (mkS 26 [(1, .fn 92 [] [.ptr 0 0, .ptr 1 0, .ptr 2 0]), (5, i6 i_14), (6, i6 j_15), (7, i6 (IntKind.i64.wrap n_25))]) (⟨[[.fn 87 [(A_parade_truth a_1)] []], [i6 wing_2], [i6 from_3], [i6 0, i6 0, i6 0]], []⟩) (by kernel_rfl) ⟨congrArg (AV.int .u64) (Option.some.inj hn_25), trivial⟩ rfl ?_
      refine Ex.seq ?_
      refine Ex.reg (rn 2 [1, 5, 6, 7, 18, 19] (mkS 26 [(1, .fn 92 [] [.ptr 0 0, .ptr 1 0, .ptr 2 0]), (5, i6 i_14), (6, i6 j_15), (7, i6 (IntKind.i64.wrap n_25)), (18, .fn 92 [] [.ptr 0 0, .ptr 1 0, .ptr 2 0]), (19, i6 (IntKind.i64.wrap n_25))]) ⟨[[.fn 87 [(A_parade_truth a_1)] []], [i6 wing_2], [i6 from_3], [i6 0, i6 0, i6 0]], []⟩ ?_)
      refine ExO.inlC 92 [i6 (IntKind.i64.wrap n_25), .ptr 0 0, .ptr 1 0, .ptr 2 0] _ comp92 (leC hcn_7 (by simp [setAll])) rfl rfl ?_
      intro cx_26 hcn_27 hcm_28 hup_29
      refine Ex.castA (a2 := mkS 20 [(0, i6 (IntKind.i64.wrap n_25)), (1, .ptr 0 0), (2, .ptr 1 0), (3, .ptr 2 0), (4, .tup []), (5, .tup []), (6, .tup []), (7, .tup []), (8, .tup []), (9, .tup []), (10, .tup []), (11, .tup []), (12, .tup []), (13, .tup []), (14, .tup []), (15, .tup []), (16, .tup []), (17, .tup []), (18, .tup []), (19, .tup [])]) (S2 := ⟨[[.fn 87 [(A_parade_truth a_1)] []], [i6 wing_2], [i6 from_3], [i6 0, i6 0, i6 0]], []⟩) (by kernel_rfl) (by kernel_rfl) ?_
      refine Ex.seq (rg 1 [0, 1, 2, 3] (mkS 20 [(0, i6 (IntKind.i64.wrap n_25)), (1, .ptr 0 0), (2, .ptr 1 0), (3, .ptr 2 0)]) ⟨[[.fn 87 [(A_parade_truth a_1)] []], [i6 wing_2], [i6 from_3], [i6 0, i6 0, i6 0]], []⟩ ?_)
      refine Ex.seq ?_
      obtain ⟨r_30, hr_30, h⟩ := bE h
      have hT_31 : DoesA Try.prog [⟨87, [(A_parade_truth a_1), i6 wing_2, i6 (IntKind.i64.wrap ((IntKind.i64.wrap (from_3 + (IntKind.i64.wrap n_25))) + 1))], [], (v_parade_truth_gap r_30), []⟩] ∧ ConsA [⟨87, [(A_parade_truth a_1), i6 wing_2, i6 (IntKind.i64.wrap ((IntKind.i64.wrap (from_3 + (IntKind.i64.wrap n_25))) + 1))], [], (v_parade_truth_gap r_30), []⟩] := ⟨⟨(d_parade_truth_gap N a_1 wing_2 (IntKind.i64.wrap ((IntKind.i64.wrap (from_3 + (IntKind.i64.wrap n_25))) + 1)) r_30 hr_30), rfl, trivial⟩, ⟨trivial, trivial⟩⟩
      refine Ex.drawE (a1 := mkS 20 [(0, i6 (IntKind.i64.wrap n_25)), (1, .ptr 0 0), (2, .ptr 1 0), (3, .ptr 2 0), (6, .fn 87 [(A_parade_truth a_1)] []), (7, i6 wing_2), (8, i6 from_3), (9, i6 (IntKind.i64.wrap n_25)), (10, i6 (IntKind.i64.wrap (from_3 + (IntKind.i64.wrap n_25)))), (11, i6 (IntKind.i64.wrap ((IntKind.i64.wrap (from_3 + (IntKind.i64.wrap n_25))) + 1))), (12, i6 r_30), (13, .fn 87 [(A_parade_truth a_1)] []), (14, i6 wing_2), (15, i6 from_3), (16, i6 (IntKind.i64.wrap n_25)), (17, i6 (IntKind.i64.wrap (from_3 + (IntKind.i64.wrap n_25))))]) (tabO_ok hT_31.1) [] [] [] ?_ ?_
      ·refine drS [0, 1, 2, 3] 6 [] [] (mkS 20 [(0, i6 (IntKind.i64.wrap n_25)), (1, .ptr 0 0), (2, .ptr 1 0), (3, .ptr 2 0), (6, .fn 87 [(A_parade_truth a_1)] []), (7, i6 wing_2), (8, i6 from_3), (9, i6 (IntKind.i64.wrap n_25)), (10, i6 (IntKind.i64.wrap (from_3 + (IntKind.i64.wrap n_25)))), (11, i6 (IntKind.i64.wrap ((IntKind.i64.wrap (from_3 + (IntKind.i64.wrap n_25))) + 1)))]) (by simp) (by kernel_rfl) trivial (by kernel_rfl) ?_
       refine drC hT_31.2 0 _ [(A_parade_truth a_1), i6 wing_2, i6 (IntKind.i64.wrap ((IntKind.i64.wrap (from_3 + (IntKind.i64.wrap n_25))) + 1))] (v_parade_truth_gap r_30) rfl rfl rfl rfl rfl (fun _ => rfl) rfl (by simp; try rfl) (fun _ => b_parade_truth_gap _ _ _ _) ?_
       refine drS [0, 1, 2, 3] 5 [] [] (mkS 20 [(0, i6 (IntKind.i64.wrap n_25)), (1, .ptr 0 0), (2, .ptr 1 0), (3, .ptr 2 0), (6, .fn 87 [(A_parade_truth a_1)] []), (7, i6 wing_2), (8, i6 from_3), (9, i6 (IntKind.i64.wrap n_25)), (10, i6 (IntKind.i64.wrap (from_3 + (IntKind.i64.wrap n_25)))), (11, i6 (IntKind.i64.wrap ((IntKind.i64.wrap (from_3 + (IntKind.i64.wrap n_25))) + 1))), (12, i6 r_30), (13, .fn 87 [(A_parade_truth a_1)] []), (14, i6 wing_2), (15, i6 from_3), (16, i6 (IntKind.i64.wrap n_25)), (17, i6 (IntKind.i64.wrap (from_3 + (IntKind.i64.wrap n_25))))]) (by simp) (by kernel_rfl) trivial (by kernel_rfl) ?_
       exact DrO.nil rfl
      ·dsimp only [List.getLastD_cons, List.getLastD_nil]
       obtain ⟨r_32, hr_32, h⟩ := bE h
       refine ExO.callL [] [(A_parade_truth a_1), i6 wing_2, i6 (IntKind.i64.wrap (from_3 + (IntKind.i64.wrap n_25)))] rfl rfl (a_parade_truth_gap a_1 wing_2 (IntKind.i64.wrap (from_3 + (IntKind.i64.wrap n_25)))) rfl rfl (d_parade_truth_gap N a_1 wing_2 (IntKind.i64.wrap (from_3 + (IntKind.i64.wrap n_25))) r_32 hr_32) (b_parade_truth_gap _ _ _ _) rfl ?_
       refine rn 2 [5] (mkS 20 [(5, .bool (decide (r_30 ≤ r_32)))]) ⟨[[.fn 87 [(A_parade_truth a_1)] []], [i6 wing_2], [i6 from_3], [i6 0, i6 0, i6 0]], []⟩ ?_
       refine ExO.nil ?_
       refine Ex.ret ?_
       refine ⟨.inr rfl, .bool (decide (r_30 ≤ r_32)), by kernel_rfl, ?_⟩
       refine rn 1 [1, 5, 6, 7, 21] (mkS 26 [(1, .fn 92 [] [.ptr 0 0, .ptr 1 0, .ptr 2 0]), (5, i6 i_14), (6, i6 j_15), (7, i6 (IntKind.i64.wrap n_25)), (21, .bool (!(decide (r_30 ≤ r_32))))]) ⟨[[.fn 87 [(A_parade_truth a_1)] []], [i6 wing_2], [i6 from_3], [i6 0, i6 0, i6 0]], []⟩ ?_
       refine ExO.nil ?_
       rcases condI h with ⟨hc_33, h⟩ | ⟨hc_33, h⟩
       ·refine Ex.condT _ rfl hc_33 ?_
        refine rg 3 [1, 5, 6] (mkS 26 [(1, .fn 92 [] [.ptr 0 0, .ptr 1 0, .ptr 2 0]), (5, i6 (IntKind.i64.wrap ((IntKind.i64.wrap n_25) + 1))), (6, i6 j_15)]) ⟨[[.fn 87 [(A_parade_truth a_1)] []], [i6 wing_2], [i6 from_3], [i6 0, i6 0, i6 0]], []⟩ ?_
        (try simp only [reduceCtorEq, AEx.ex.injEq, Nat.reduceEqDiff, if_true, if_false])
        exact ⟨_, _, Forgets.refl _ _ _, (IntKind.i64.wrap ((IntKind.i64.wrap n_25) + 1)), j_15, h, rfl, rfl⟩
       ·refine Ex.condF _ rfl hc_33 ?_
        refine rg 2 [1, 5, 6] (mkS 26 [(1, .fn 92 [] [.ptr 0 0, .ptr 1 0, .ptr 2 0]), (5, i6 i_14), (6, i6 (IntKind.i64.wrap n_25))]) ⟨[[.fn 87 [(A_parade_truth a_1)] []], [i6 wing_2], [i6 from_3], [i6 0, i6 0, i6 0]], []⟩ ?_
        (try simp only [reduceCtorEq, AEx.ex.injEq, Nat.reduceEqDiff, if_true, if_false])
        exact ⟨_, _, Forgets.refl _ _ _, i_14, (IntKind.i64.wrap n_25), h, rfl, rfl⟩
     ·rintro a S ⟨i_20, j_21, h, rfl, rfl⟩
      subst hK_24
      dsimp only
      exact ⟨_, _, Forgets.refl _ _ _, k, Nat.lt_succ_self k, i_20, j_21, h, rfl, rfl⟩
    ·refine Ex.condF _ rfl hc_19 ?_
     refine Ex.exit ?_
     (try simp only [reduceCtorEq, AEx.ex.injEq, Nat.reduceEqDiff, if_true, if_false])
     exact ⟨_, _, forgetK [5], i_14, h, rfl, rfl⟩
  ·rintro a S ⟨i_10, h, rfl, rfl⟩
   subst hK_13
   refine Ex.seq (rg 2 [4] (mkS 26 [(4, i6 i_10)]) ⟨[[.fn 87 [(A_parade_truth a_1)] []], [i6 wing_2], [i6 from_3], [i6 0, i6 0, i6 0]], []⟩ ?_)
   refine Ex.ret ?_
   refine ⟨.inr rfl, i6 i_10, by kernel_rfl, ?_⟩
   refine rn 1 [4, 5, 6, 8, 9] (mkS 33 [(4, .ptr 0 0), (5, .ptr 1 0), (6, .ptr 2 0), (8, .ptr 3 0), (9, i6 i_10)]) ⟨[[.fn 87 [(A_parade_truth a_1)] []], [i6 wing_2], [i6 from_3], [i6 0, i6 0, i6 0]], []⟩ ?_
   refine ExO.nil ?_
   refine Ex.seq ?_
   obtain ⟨r_34, hr_34, h⟩ := bE h
   have hT_35 : DoesA Try.prog [⟨87, [(A_parade_truth a_1), i6 wing_2, i6 (IntKind.i64.wrap (from_3 + i_10))], [], (v_parade_truth_gap r_34), []⟩] ∧ ConsA [⟨87, [(A_parade_truth a_1), i6 wing_2, i6 (IntKind.i64.wrap (from_3 + i_10))], [], (v_parade_truth_gap r_34), []⟩] := ⟨⟨(d_parade_truth_gap N a_1 wing_2 (IntKind.i64.wrap (from_3 + i_10)) r_34 hr_34), rfl, trivial⟩, ⟨trivial, trivial⟩⟩
   refine Ex.drawE (a1 := mkS 33 [(4, .ptr 0 0), (5, .ptr 1 0), (6, .ptr 2 0), (8, .ptr 3 0), (9, i6 i_10), (22, i6 wing_2), (23, i6 from_3), (24, i6 i_10), (25, i6 (IntKind.i64.wrap (from_3 + i_10))), (26, .fn 87 [(A_parade_truth a_1)] []), (27, i6 wing_2), (28, i6 from_3), (29, i6 i_10), (30, i6 (IntKind.i64.wrap (from_3 + i_10))), (31, i6 r_34)]) (tabO_ok hT_35.1) [] [] [] ?_ ?_
   ·refine drS [0, 1, 2, 3] 9 [] [] (mkS 33 [(4, .ptr 0 0), (5, .ptr 1 0), (6, .ptr 2 0), (8, .ptr 3 0), (9, i6 i_10), (22, i6 wing_2), (23, i6 from_3), (24, i6 i_10), (25, i6 (IntKind.i64.wrap (from_3 + i_10))), (26, .fn 87 [(A_parade_truth a_1)] []), (27, i6 wing_2), (28, i6 from_3), (29, i6 i_10), (30, i6 (IntKind.i64.wrap (from_3 + i_10)))]) (by simp) (by kernel_rfl) trivial (by kernel_rfl) ?_
    refine drC hT_35.2 0 _ [(A_parade_truth a_1), i6 wing_2, i6 (IntKind.i64.wrap (from_3 + i_10))] (v_parade_truth_gap r_34) rfl rfl rfl rfl rfl (fun _ => rfl) rfl (by simp; try rfl) (fun _ => b_parade_truth_gap _ _ _ _) ?_
    exact DrO.nil rfl
   ·dsimp only [List.getLastD_cons, List.getLastD_nil]
    refine rn 2 [8] (mkS 33 [(8, .ptr 3 0)]) ⟨[[.fn 87 [(A_parade_truth a_1)] []], [i6 wing_2], [i6 from_3], [i6 wing_2, i6 (IntKind.i64.wrap (from_3 + i_10)), i6 r_34]], []⟩ ?_
    refine ExO.nil ?_
    refine Ex.ret ?_
    obtain rfl := sJ h
    exact rt (.agg [i6 wing_2, i6 (IntKind.i64.wrap (from_3 + i_10)), i6 r_34])
def p_parade_watchedPeak (N : Nat) (s_1 : T_School) (starts_2 : (List Int)) (wing_3 : Int) (end_4 : Int) : Option (T_parade_opening) := ((p_parade_allAt N s_1 starts_2 1).bind fun r_5 => ((p_parade_truth_leaves N r_5 (IntKind.i64.wrap (wing_3 - 1)) s_1.Route).bind fun r_7 => ((p_parade_apart N s_1 starts_2 wing_3 end_4).bind fun r_8 => ((getI starts_2 wing_3).bind fun x_9 => ((p_parade_peak_parade_truth_gap N r_8 wing_3 x_9 r_7).bind fun r_11 => some r_11)))))
def v_parade_watchedPeak (r : T_parade_opening) : AV := (A_parade_opening r)
attribute [local simp] v_parade_watchedPeak
theorem a_parade_watchedPeak (s_1 : T_School) (starts_2 : (List Int)) (wing_3 : Int) (end_4 : Int) : [(A_School s_1), .sl (starts_2.map (AV.int .i64)) none, i6 wing_3, i6 end_4].mapM (ren []) = some [(A_School s_1), .sl (starts_2.map (AV.int .i64)) none, i6 wing_3, i6 end_4] := by simp
theorem b_parade_watchedPeak (r : T_parade_opening) (n n2 m : Nat) : back n n2 m (v_parade_watchedPeak r) = some (v_parade_watchedPeak r) := by simp
theorem d_parade_watchedPeak (N : Nat) (s_1 : T_School) (starts_2 : (List Int)) (wing_3 : Int) (end_4 : Int) (r : T_parade_opening) (h : p_parade_watchedPeak N s_1 starts_2 wing_3 end_4 = some r) : Does Try.prog 70 [(A_School s_1), .sl (starts_2.map (AV.int .i64)) none, i6 wing_3, i6 end_4] [] fun v c => v = v_parade_watchedPeak r ∧ c = [] := by
 unfold p_parade_watchedPeak at h
 refine Does.ofL comp70 _ _ rfl rfl ?_
 refine Ex.seq (rg 2 [1, 2, 3, 4, 8] (mkS 31 [(1, .sl (starts_2.map (AV.int .i64)) none), (2, i6 wing_3), (3, i6 end_4), (4, .ptr 0 0), (8, .ptr 1 0)]) ⟨[(C_School s_1), [i6 0, i6 0, i6 0]], []⟩ ?_)
 refine Ex.seq ?_
 obtain ⟨r_5, hr_5, h⟩ := bE h
 have hT_6 : DoesA Try.prog [⟨58, [(A_School s_1), .sl (starts_2.map (AV.int .i64)) none, i6 1], [], (v_parade_allAt r_5), []⟩] ∧ ConsA [⟨58, [(A_School s_1), .sl (starts_2.map (AV.int .i64)) none, i6 1], [], (v_parade_allAt r_5), []⟩] := ⟨⟨(d_parade_allAt N s_1 starts_2 1 r_5 hr_5), rfl, trivial⟩, ⟨trivial, trivial⟩⟩
 refine Ex.drawE (a1 := mkS 31 [(1, .sl (starts_2.map (AV.int .i64)) none), (2, i6 wing_3), (3, i6 end_4), (4, .ptr 0 0), (8, .ptr 1 0), (10, (A_School s_1)), (11, .sl (starts_2.map (AV.int .i64)) none), (12, (A_parade_truth r_5)), (13, i6 wing_3), (14, i6 (IntKind.i64.wrap (wing_3 - 1))), (15, .ptr 0 0), (16, i6 s_1.Route)]) (tabO_ok hT_6.1) [] [] [] ?_ ?_
 ·refine drS [0, 1] 2 [] [] (mkS 31 [(1, .sl (starts_2.map (AV.int .i64)) none), (2, i6 wing_3), (3, i6 end_4), (4, .ptr 0 0), (8, .ptr 1 0), (10, (A_School s_1)), (11, .sl (starts_2.map (AV.int .i64)) none)]) (by simp) (by kernel_rfl) trivial (by kernel_rfl) ?_
  refine drC hT_6.2 0 _ [(A_School s_1), .sl (starts_2.map (AV.int .i64)) none, i6 1] (v_parade_allAt r_5) rfl rfl rfl rfl rfl (fun _ => rfl) rfl (by simp; try rfl) (fun _ => b_parade_allAt _ _ _ _) ?_
  refine drS [0, 1] 4 [] [] (mkS 31 [(1, .sl (starts_2.map (AV.int .i64)) none), (2, i6 wing_3), (3, i6 end_4), (4, .ptr 0 0), (8, .ptr 1 0), (10, (A_School s_1)), (11, .sl (starts_2.map (AV.int .i64)) none), (12, (A_parade_truth r_5)), (13, i6 wing_3), (14, i6 (IntKind.i64.wrap (wing_3 - 1))), (15, .ptr 0 0), (16, i6 s_1.Route)]) (by simp) (by kernel_rfl) trivial (by kernel_rfl) ?_
  exact DrO.nil rfl
 ·dsimp only [List.getLastD_cons, List.getLastD_nil]
  obtain ⟨r_7, hr_7, h⟩ := bE h
  refine ExO.callL [] [(A_parade_truth r_5), i6 (IntKind.i64.wrap (wing_3 - 1)), i6 s_1.Route] rfl rfl (a_parade_truth_leaves r_5 (IntKind.i64.wrap (wing_3 - 1)) s_1.Route) rfl rfl (d_parade_truth_leaves N r_5 (IntKind.i64.wrap (wing_3 - 1)) s_1.Route r_7 hr_7) (b_parade_truth_leaves _ _ _ _) rfl ?_
  refine rn 1 [1, 2, 3, 4, 8, 9] (mkS 31 [(1, .sl (starts_2.map (AV.int .i64)) none), (2, i6 wing_3), (3, i6 end_4), (4, .ptr 0 0), (8, .ptr 1 0), (9, i6 r_7)]) ⟨[(C_School s_1), [i6 0, i6 0, i6 0]], []⟩ ?_
  refine ExO.nil ?_
  refine Ex.seq ?_
  obtain ⟨r_8, hr_8, h⟩ := bE h
  obtain ⟨x_9, hx_9, h⟩ := bE h
  have hT_10 : DoesA Try.prog [⟨86, [(A_School s_1), .sl (starts_2.map (AV.int .i64)) none, i6 wing_3, i6 end_4], [], (v_parade_apart r_8), []⟩] ∧ ConsA [⟨86, [(A_School s_1), .sl (starts_2.map (AV.int .i64)) none, i6 wing_3, i6 end_4], [], (v_parade_apart r_8), []⟩] := ⟨⟨(d_parade_apart N s_1 starts_2 wing_3 end_4 r_8 hr_8), rfl, trivial⟩, ⟨trivial, trivial⟩⟩
  refine Ex.drawE (a1 := mkS 31 [(1, .sl (starts_2.map (AV.int .i64)) none), (2, i6 wing_3), (3, i6 end_4), (4, .ptr 0 0), (8, .ptr 1 0), (9, i6 r_7), (18, (A_School s_1)), (19, .sl (starts_2.map (AV.int .i64)) none), (20, i6 wing_3), (21, i6 end_4), (22, (A_parade_truth r_8)), (23, .fn 87 [(A_parade_truth r_8)] []), (24, i6 wing_3), (25, .sl (starts_2.map (AV.int .i64)) none), (26, i6 wing_3), (27, .rop [i6 x_9]), (28, i6 x_9), (29, i6 r_7)]) (tabO_ok hT_10.1) [] [] [] ?_ ?_
  ·refine drS [0, 1] 4 [] [] (mkS 31 [(1, .sl (starts_2.map (AV.int .i64)) none), (2, i6 wing_3), (3, i6 end_4), (4, .ptr 0 0), (8, .ptr 1 0), (9, i6 r_7), (18, (A_School s_1)), (19, .sl (starts_2.map (AV.int .i64)) none), (20, i6 wing_3), (21, i6 end_4)]) (by simp) (by kernel_rfl) trivial (by kernel_rfl) ?_
   refine drC hT_10.2 0 _ [(A_School s_1), .sl (starts_2.map (AV.int .i64)) none, i6 wing_3, i6 end_4] (v_parade_apart r_8) rfl rfl rfl rfl rfl (fun _ => rfl) rfl (by simp; try rfl) (fun _ => b_parade_apart _ _ _ _) ?_
   refine drS [0, 1] 7 [(4, .rop [i6 x_9])] [LGet (starts_2.map (AV.int .i64)) wing_3 1 [i6 x_9]] (mkS 31 [(1, .sl (starts_2.map (AV.int .i64)) none), (2, i6 wing_3), (3, i6 end_4), (4, .ptr 0 0), (8, .ptr 1 0), (9, i6 r_7), (18, (A_School s_1)), (19, .sl (starts_2.map (AV.int .i64)) none), (20, i6 wing_3), (21, i6 end_4), (22, (A_parade_truth r_8)), (23, .fn 87 [(A_parade_truth r_8)] []), (24, i6 wing_3), (25, .sl (starts_2.map (AV.int .i64)) none), (26, i6 wing_3), (27, .rop [i6 x_9]), (28, i6 x_9), (29, i6 r_7)]) (by simp) (by kernel_rfl) ⟨LGet.of hx_9 rfl, trivial⟩ (by kernel_rfl) ?_
   exact DrO.nil rfl
  ·dsimp only [List.getLastD_cons, List.getLastD_nil]
   obtain ⟨r_11, hr_11, h⟩ := bE h
   refine ExO.callL [] [.fn 87 [(A_parade_truth r_8)] [], i6 wing_3, i6 x_9, i6 r_7] rfl rfl (by simp; try rfl) rfl rfl (d_parade_peak_parade_truth_gap N r_8 wing_3 x_9 r_7 r_11 hr_11) (b_parade_peak_parade_truth_gap _ _ _ _) rfl ?_
   refine rn 1 [8] (mkS 31 [(8, .ptr 1 0)]) ⟨[(C_School s_1), (C_parade_opening r_11)], []⟩ ?_
   refine ExO.nil ?_
   refine Ex.ret ?_
   obtain rfl := sJ h
   exact rt ((A_parade_opening r_11))
def p_parade_opens (N : Nat) (s_1 : T_School) (starts_2 : (List Int)) (wing_3 : Int) (gap_4 : Int) : Option (Int) := ((p_parade_watchedPeak N s_1 starts_2 wing_3 1).bind fun r_5 => (bif (decide (r_5.gap_ > gap_4)) then some 1 else ((p_parade_watchedPeak N s_1 starts_2 wing_3 0).bind fun r_7 => (bif (decide (r_7.gap_ > gap_4)) then some 3 else some 2))))
def v_parade_opens (r : Int) : AV := i6 r
attribute [local simp] v_parade_opens
theorem a_parade_opens (s_1 : T_School) (starts_2 : (List Int)) (wing_3 : Int) (gap_4 : Int) : [(A_School s_1), .sl (starts_2.map (AV.int .i64)) none, i6 wing_3, i6 gap_4].mapM (ren []) = some [(A_School s_1), .sl (starts_2.map (AV.int .i64)) none, i6 wing_3, i6 gap_4] := by simp
theorem b_parade_opens (r : Int) (n n2 m : Nat) : back n n2 m (v_parade_opens r) = some (v_parade_opens r) := by simp
theorem d_parade_opens (N : Nat) (s_1 : T_School) (starts_2 : (List Int)) (wing_3 : Int) (gap_4 : Int) (r : Int) (h : p_parade_opens N s_1 starts_2 wing_3 gap_4 = some r) : Does Try.prog 50 [(A_School s_1), .sl (starts_2.map (AV.int .i64)) none, i6 wing_3, i6 gap_4] [] fun v c => v = v_parade_opens r ∧ c = [] := by
 unfold p_parade_opens at h
 refine Does.ofL comp50 _ _ rfl rfl ?_
 refine Ex.seq (rg 2 [1, 2, 3, 4] (mkS 25 [(1, .sl (starts_2.map (AV.int .i64)) none), (2, i6 wing_3), (3, i6 gap_4), (4, .ptr 0 0)]) ⟨[(C_School s_1)], []⟩ ?_)
 refine Ex.seq ?_
 refine Ex.blockK ?_
 refine Ex.seq ?_
 obtain ⟨r_5, hr_5, h⟩ := bE h
 refine Ex.reg (rn 3 [1, 2, 3, 4, 10, 11, 12] (mkS 25 [(1, .sl (starts_2.map (AV.int .i64)) none), (2, i6 wing_3), (3, i6 gap_4), (4, .ptr 0 0), (10, (A_School s_1)), (11, .sl (starts_2.map (AV.int .i64)) none), (12, i6 wing_3)]) ⟨[(C_School s_1)], []⟩ ?_)
 refine ExO.callL [] [(A_School s_1), .sl (starts_2.map (AV.int .i64)) none, i6 wing_3, i6 1] rfl rfl (a_parade_watchedPeak s_1 starts_2 wing_3 1) rfl rfl (d_parade_watchedPeak N s_1 starts_2 wing_3 1 r_5 hr_5) (b_parade_watchedPeak _ _ _ _) rfl ?_
 refine rn 4 [1, 2, 3, 4, 9] (mkS 25 [(1, .sl (starts_2.map (AV.int .i64)) none), (2, i6 wing_3), (3, i6 gap_4), (4, .ptr 0 0), (9, .bool (decide (r_5.gap_ > gap_4)))]) ⟨[(C_School s_1)], []⟩ ?_
 refine ExO.nil ?_
 rcases condI h with ⟨hc_6, h⟩ | ⟨hc_6, h⟩
 ·refine Ex.condT _ rfl hc_6 ?_
  refine Ex.seq (rg 1 [8] (mkS 25 [(8, i6 1)]) ⟨[(C_School s_1)], []⟩ ?_)
  refine Ex.ret ?_
  obtain rfl := sJ h
  exact rt (i6 1)
 ·refine Ex.condF _ rfl hc_6 ?_
  refine Ex.seq ?_
  obtain ⟨r_7, hr_7, h⟩ := bE h
  refine Ex.reg (rn 3 [3, 18, 19, 20] (mkS 25 [(3, i6 gap_4), (18, (A_School s_1)), (19, .sl (starts_2.map (AV.int .i64)) none), (20, i6 wing_3)]) ⟨[(C_School s_1)], []⟩ ?_)
  refine ExO.callL [] [(A_School s_1), .sl (starts_2.map (AV.int .i64)) none, i6 wing_3, i6 0] rfl rfl (a_parade_watchedPeak s_1 starts_2 wing_3 0) rfl rfl (d_parade_watchedPeak N s_1 starts_2 wing_3 0 r_7 hr_7) (b_parade_watchedPeak _ _ _ _) rfl ?_
  refine rn 4 [17] (mkS 25 [(17, .bool (decide (r_7.gap_ > gap_4)))]) ⟨[(C_School s_1)], []⟩ ?_
  refine ExO.nil ?_
  rcases condI h with ⟨hc_8, h⟩ | ⟨hc_8, h⟩
  ·refine Ex.condT _ rfl hc_8 ?_
   refine Ex.seq (rg 1 [8] (mkS 25 [(8, i6 3)]) ⟨[(C_School s_1)], []⟩ ?_)
   refine Ex.ret ?_
   obtain rfl := sJ h
   exact rt (i6 3)
  ·refine Ex.condF _ rfl hc_8 ?_
   refine Ex.skip ?_
   refine Ex.seq (rg 1 [8] (mkS 25 [(8, i6 2)]) ⟨[(C_School s_1)], []⟩ ?_)
   refine Ex.ret ?_
   obtain rfl := sJ h
   exact rt (i6 2)
def p_parade_Opens (N : Nat) (s_1 : T_School) (starts_2 : (List Int)) (r_3 : T_Rules) : Option ((List Int) × Int) := ((p_parade_CheckStarts N s_1 starts_2).bind fun r_4 => (bif (r_4 != 0) then some ([], r_4) else ((p_parade_checkRules N r_3).bind fun r_6 => (bif (r_6 != 0) then some ([], r_6) else (letJ (fun (verdicts_8 : List Int) => some (verdicts_8, 0)) (fun k_9 => (loop2 (fun rec_14 (verdicts_12 : List Int) (wing_13 : Int) => (bif (decide (wing_13 < ((s_1.Wings.length : Nat) : Int))) then ((p_parade_opens N s_1 starts_2 wing_13 r_3.Gap).bind fun r_18 => ((pushI verdicts_12 ([r_18] : List Int)).bind fun l_19 => (rec_14 l_19 (IntKind.i64.wrap (wing_13 + 1))))) else (k_9 verdicts_12))) N [2] 1)))))))
def v_parade_Opens (r : (List Int) × Int) : AV := .tup [.sl (r.1.map (AV.int .i64)) none, i6 r.2]
attribute [local simp] v_parade_Opens
theorem a_parade_Opens (s_1 : T_School) (starts_2 : (List Int)) (r_3 : T_Rules) : [(A_School s_1), .sl (starts_2.map (AV.int .i64)) none, (A_Rules r_3)].mapM (ren []) = some [(A_School s_1), .sl (starts_2.map (AV.int .i64)) none, (A_Rules r_3)] := by simp
theorem b_parade_Opens (r : (List Int) × Int) (n n2 m : Nat) : back n n2 m (v_parade_Opens r) = some (v_parade_Opens r) := by simp
theorem d_parade_Opens (N : Nat) (s_1 : T_School) (starts_2 : (List Int)) (r_3 : T_Rules) (r : (List Int) × Int) (h : p_parade_Opens N s_1 starts_2 r_3 = some r) : Does Try.prog 21 [(A_School s_1), .sl (starts_2.map (AV.int .i64)) none, (A_Rules r_3)] [] fun v c => v = v_parade_Opens r ∧ c = [] := by
 unfold p_parade_Opens at h
 refine Does.ofL comp21 _ _ rfl rfl ?_
 refine Ex.seq (rg 4 [1, 3, 5] (mkS 41 [(1, .sl (starts_2.map (AV.int .i64)) none), (3, .ptr 0 0), (5, .ptr 1 0)]) ⟨[(C_School s_1), (C_Rules r_3)], []⟩ ?_)
 refine Ex.seq (Ex.seq ?_)
 obtain ⟨r_4, hr_4, h⟩ := bE h
 refine Ex.reg (rn 2 [1, 3, 5, 12, 13] (mkS 41 [(1, .sl (starts_2.map (AV.int .i64)) none), (3, .ptr 0 0), (5, .ptr 1 0), (12, (A_School s_1)), (13, .sl (starts_2.map (AV.int .i64)) none)]) ⟨[(C_School s_1), (C_Rules r_3)], []⟩ ?_)
 refine ExO.callL [] [(A_School s_1), .sl (starts_2.map (AV.int .i64)) none] rfl rfl (a_parade_CheckStarts s_1 starts_2) rfl rfl (d_parade_CheckStarts N s_1 starts_2 r_4 hr_4) (b_parade_CheckStarts _ _ _ _) rfl ?_
 refine rn 1 [1, 3, 5, 8] (mkS 41 [(1, .sl (starts_2.map (AV.int .i64)) none), (3, .ptr 0 0), (5, .ptr 1 0), (8, i6 r_4)]) ⟨[(C_School s_1), (C_Rules r_3)], []⟩ ?_
 refine ExO.nil ?_
 refine Ex.seq (rg 2 [1, 3, 5, 8, 16] (mkS 41 [(1, .sl (starts_2.map (AV.int .i64)) none), (3, .ptr 0 0), (5, .ptr 1 0), (8, i6 r_4), (16, .bool (r_4 != 0))]) ⟨[(C_School s_1), (C_Rules r_3)], []⟩ ?_)
 rcases condI h with ⟨hc_5, h⟩ | ⟨hc_5, h⟩
 ·refine Ex.condT _ rfl hc_5 ?_
  refine Ex.seq (rg 3 [6, 7] (mkS 41 [(6, .nils), (7, i6 r_4)]) ⟨[(C_School s_1), (C_Rules r_3)], []⟩ ?_)
  refine Ex.ret ?_
  obtain rfl := sJ h
  exact rt (.tup [.nils, i6 r_4])
 ·refine Ex.condF _ rfl hc_5 ?_
  refine Ex.skip ?_
  refine Ex.seq (Ex.seq ?_)
  obtain ⟨r_6, hr_6, h⟩ := bE h
  refine Ex.reg (rn 1 [1, 3, 5, 18] (mkS 41 [(1, .sl (starts_2.map (AV.int .i64)) none), (3, .ptr 0 0), (5, .ptr 1 0), (18, (A_Rules r_3))]) ⟨[(C_School s_1), (C_Rules r_3)], []⟩ ?_)
  refine ExO.callL [] [(A_Rules r_3)] rfl rfl (a_parade_checkRules r_3) rfl rfl (d_parade_checkRules N r_3 r_6 hr_6) (b_parade_checkRules _ _ _ _) rfl ?_
  refine rn 1 [1, 3, 5, 9] (mkS 41 [(1, .sl (starts_2.map (AV.int .i64)) none), (3, .ptr 0 0), (5, .ptr 1 0), (9, i6 r_6)]) ⟨[(C_School s_1), (C_Rules r_3)], []⟩ ?_
  refine ExO.nil ?_
  refine Ex.seq (rg 2 [1, 3, 5, 9, 21] (mkS 41 [(1, .sl (starts_2.map (AV.int .i64)) none), (3, .ptr 0 0), (5, .ptr 1 0), (9, i6 r_6), (21, .bool (r_6 != 0))]) ⟨[(C_School s_1), (C_Rules r_3)], []⟩ ?_)
  rcases condI h with ⟨hc_7, h⟩ | ⟨hc_7, h⟩
  ·refine Ex.condT _ rfl hc_7 ?_
   refine Ex.seq (rg 3 [6, 7] (mkS 41 [(6, .nils), (7, i6 r_6)]) ⟨[(C_School s_1), (C_Rules r_3)], []⟩ ?_)
   refine Ex.ret ?_
   obtain rfl := sJ h
   exact rt (.tup [.nils, i6 r_6])
  ·refine Ex.condF _ rfl hc_7 ?_
   refine Ex.skip ?_
   refine Ex.seq (rg 2 [1, 3, 5, 10] (mkS 41 [(1, .sl (starts_2.map (AV.int .i64)) none), (3, .ptr 0 0), (5, .ptr 1 0), (10, .sl (([2] : List Int).map (AV.int .i64)) (some 0))]) ⟨[(C_School s_1), (C_Rules r_3)], [(1, 1)]⟩ ?_)
   refine Ex.seq (Ex.seq ?_)
   refine rg 1 [1, 3, 5, 10, 11] (mkS 41 [(1, .sl (starts_2.map (AV.int .i64)) none), (3, .ptr 0 0), (5, .ptr 1 0), (10, .sl (([2] : List Int).map (AV.int .i64)) (some 0)), (11, i6 1)]) ⟨[(C_School s_1), (C_Rules r_3)], [(1, 1)]⟩ ?_
   obtain ⟨K_10, hK_11, h⟩ := letE h
   refine Ex.blockJ (fun a S => ∃ (verdicts_8 : List Int), K_10 verdicts_8 = some r ∧ a = mkS 41 [(10, .sl (verdicts_8.map (AV.int .i64)) (some 0))] ∧ S = ⟨[], [(verdicts_8.length, 1)]⟩) ?_ ?_
   ·obtain ⟨B_15, hB_16, h⟩ := loop2I h
    refine Ex.loopF (fun k a S => ∃ (verdicts_12 : List Int), ∃ (wing_13 : Int), loop2 B_15 k verdicts_12 wing_13 = some r ∧ a = mkS 41 [(1, .sl (starts_2.map (AV.int .i64)) none), (3, .ptr 0 0), (5, .ptr 1 0), (10, .sl (verdicts_12.map (AV.int .i64)) (some 0)), (11, i6 wing_13)] ∧ S = ⟨[(C_School s_1), (C_Rules r_3)], [(verdicts_12.length, 1)]⟩) N ⟨_, _, Forgets.refl _ _ _, [2], 1, h, rfl, rfl⟩ ?_
    rintro k a S ⟨verdicts_12, wing_13, h, rfl, rfl⟩
    cases k with
    | zero => exact (loop2Z h).elim
    | succ k =>
     replace h := loop2S h hB_16
     refine Ex.seq (Ex.seq ?_)
     refine regH 5 [(3, .eq (i6 ((s_1.Wings.length : Nat) : Int)))] [1, 3, 5, 10, 11, 28] [AV.int .i64 (((s_1.Wings.map A_Wing).length : Nat) : Int) = AV.int .i64 ((s_1.Wings.length : Nat) : Int)] (mkS 41 [(1, .sl (starts_2.map (AV.int .i64)) none), (3, .ptr 0 0), (5, .ptr 1 0), (10, .sl (verdicts_12.map (AV.int .i64)) (some 0)), (11, i6 wing_13), (28, .bool (decide (wing_13 < ((s_1.Wings.length : Nat) : Int))))]) (⟨[(C_School s_1), (C_Rules r_3)], [(verdicts_12.length, 1)]⟩) (by kernel_rfl) ⟨lenM _ _, trivial⟩ rfl ?_
     rcases condI h with ⟨hc_17, h⟩ | ⟨hc_17, h⟩
     ·refine Ex.condT _ rfl hc_17 ?_
      refine Ex.skip ?_
      refine Ex.seq ?_
      refine Ex.blockK ?_
      obtain ⟨r_18, hr_18, h⟩ := bE h
      refine Ex.reg (rn 6 [1, 3, 5, 11, 31, 32, 33, 34, 36] (mkS 41 [(1, .sl (starts_2.map (AV.int .i64)) none), (3, .ptr 0 0), (5, .ptr 1 0), (11, i6 wing_13), (31, .sl (verdicts_12.map (AV.int .i64)) (some 0)), (32, (A_School s_1)), (33, .sl (starts_2.map (AV.int .i64)) none), (34, i6 wing_13), (36, i6 r_3.Gap)]) ⟨[(C_School s_1), (C_Rules r_3)], [(verdicts_12.length, 1)]⟩ ?_)
      refine ExO.callL [] [(A_School s_1), .sl (starts_2.map (AV.int .i64)) none, i6 wing_13, i6 r_3.Gap] rfl rfl (a_parade_opens s_1 starts_2 wing_13 r_3.Gap) rfl rfl (d_parade_opens N s_1 starts_2 wing_13 r_3.Gap r_18 hr_18) (b_parade_opens _ _ _ _) rfl ?_
      obtain ⟨l_19, hl_19, h⟩ := bE h
      refine runH 3 [(1, .app (l_19.map (AV.int .i64)) l_19.length)] [1, 3, 5, 10, 11] [LApp verdicts_12.length (verdicts_12.map (AV.int .i64)) (([r_18] : List Int).map (AV.int .i64)) 1 (l_19.map (AV.int .i64)) l_19.length] (mkS 41 [(1, .sl (starts_2.map (AV.int .i64)) none), (3, .ptr 0 0), (5, .ptr 1 0), (10, .sl (l_19.map (AV.int .i64)) (some 0)), (11, i6 wing_13)]) (⟨[(C_School s_1), (C_Rules r_3)], [(l_19.length, 1), (1, 1)]⟩) (by kernel_rfl) ⟨LApp.of hl_19 (fun _ => rfl), trivial⟩ ?_
      refine ExO.nil ?_
      refine rg 3 [1, 3, 5, 10, 11] (mkS 41 [(1, .sl (starts_2.map (AV.int .i64)) none), (3, .ptr 0 0), (5, .ptr 1 0), (10, .sl (l_19.map (AV.int .i64)) (some 0)), (11, i6 (IntKind.i64.wrap (wing_13 + 1)))]) ⟨[(C_School s_1), (C_Rules r_3)], [(l_19.length, 1), (1, 1)]⟩ ?_
      dsimp only
      exact ⟨_, _, forgetA (m := 41) 2 [0] [(1, .sl (starts_2.map (AV.int .i64)) none), (3, .ptr 0 0), (5, .ptr 1 0), (10, .sl (l_19.map (AV.int .i64)) (some 0)), (11, i6 (IntKind.i64.wrap (wing_13 + 1)))] [(C_School s_1), (C_Rules r_3)] [(l_19.length, 1)] (by simp [setAll]) (by simp) ⟨(reN (cleanI _ _)), rfl, rfl, (reT (cleanI _ _) rfl), rfl, trivial⟩ (by simp) rfl (by decide), k, Nat.lt_succ_self k, l_19, (IntKind.i64.wrap (wing_13 + 1)), h, rfl, rfl⟩
     ·refine Ex.condF _ rfl hc_17 ?_
      refine Ex.exit ?_
      (try simp only [reduceCtorEq, AEx.ex.injEq, Nat.reduceEqDiff, if_true, if_false])
      exact ⟨_, _, forgetA (m := 41) 0 [0] [(10, .sl (verdicts_12.map (AV.int .i64)) (some 0))] [] [(verdicts_12.length, 1)] (by simp [setAll]) (by simp) ⟨(reT (cleanI _ _) rfl), trivial⟩ (by simp) rfl (by decide), verdicts_12, h, rfl, rfl⟩
   ·rintro a S ⟨verdicts_8, h, rfl, rfl⟩
    subst hK_11
    refine Ex.seq (rg 3 [6, 7] (mkS 41 [(6, .sl (verdicts_8.map (AV.int .i64)) (some 0)), (7, i6 0)]) ⟨[], [(verdicts_8.length, 1)]⟩ ?_)
    refine Ex.ret ?_
    obtain rfl := sJ h
    exact rt (.tup [.sl (verdicts_8.map (AV.int .i64)) (some 0), i6 0])
def p_parade_widest_1 (N : Nat) (a_1 : T_parade_opening) (b_2 : T_parade_opening) : Option (Bool) := some (decide (a_1.gap_ > b_2.gap_))
def v_parade_widest_1 (r : Bool) : AV := .bool r
attribute [local simp] v_parade_widest_1
theorem a_parade_widest_1 (a_1 : T_parade_opening) (b_2 : T_parade_opening) : [(A_parade_opening a_1), (A_parade_opening b_2)].mapM (ren []) = some [(A_parade_opening a_1), (A_parade_opening b_2)] := by simp
theorem b_parade_widest_1 (r : Bool) (n n2 m : Nat) : back n n2 m (v_parade_widest_1 r) = some (v_parade_widest_1 r) := by simp
theorem d_parade_widest_1 (N : Nat) (a_1 : T_parade_opening) (b_2 : T_parade_opening) (r : Bool) (h : p_parade_widest_1 N a_1 b_2 = some r) : Does Try.prog 71 [(A_parade_opening a_1), (A_parade_opening b_2)] [] fun v c => v = v_parade_widest_1 r ∧ c = [] := by
 unfold p_parade_widest_1 at h
 refine Does.ofL comp71 _ _ rfl rfl ?_
 refine Ex.seq (rg 3 [2, 3] (mkS 10 [(2, .ptr 0 0), (3, .ptr 1 0)]) ⟨[(C_parade_opening a_1), (C_parade_opening b_2)], []⟩ ?_)
 refine Ex.seq (rg 6 [4] (mkS 10 [(4, .bool (decide (a_1.gap_ > b_2.gap_)))]) ⟨[(C_parade_opening a_1), (C_parade_opening b_2)], []⟩ ?_)
 refine Ex.ret ?_
 obtain rfl := sJ h
 exact rt (.bool (decide (a_1.gap_ > b_2.gap_)))
def p_parade_openings (N : Nat) (s_1 : T_School) (starts_2 : (List Int)) : Option (T_School × (List Int)) := some (s_1, starts_2)
def v_parade_openings (r : T_School × (List Int)) : AV := .fn 88 [] [.rop (C_School r.1), .rop [.sl (r.2.map (AV.int .i64)) none]]
attribute [local simp] v_parade_openings
theorem a_parade_openings (s_1 : T_School) (starts_2 : (List Int)) : [(A_School s_1), .sl (starts_2.map (AV.int .i64)) none].mapM (ren []) = some [(A_School s_1), .sl (starts_2.map (AV.int .i64)) none] := by simp
theorem b_parade_openings (r : T_School × (List Int)) (n n2 m : Nat) : back n n2 m (v_parade_openings r) = some (v_parade_openings r) := by simp
theorem d_parade_openings (N : Nat) (s_1 : T_School) (starts_2 : (List Int)) (r : T_School × (List Int)) (h : p_parade_openings N s_1 starts_2 = some r) : Does Try.prog 73 [(A_School s_1), .sl (starts_2.map (AV.int .i64)) none] [] fun v c => v = v_parade_openings r ∧ c = [] := by
 unfold p_parade_openings at h
 refine Does.ofL comp73 _ _ rfl rfl ?_
 refine Ex.seq (rg 3 [2, 3] (mkS 6 [(2, .ptr 0 0), (3, .ptr 1 0)]) ⟨[(C_School s_1), [.sl (starts_2.map (AV.int .i64)) none]], []⟩ ?_)
 refine Ex.seq (rg 2 [4] (mkS 6 [(4, .fn 88 [] [.ptr 0 0, .ptr 1 0])]) ⟨[(C_School s_1), [.sl (starts_2.map (AV.int .i64)) none]], []⟩ ?_)
 refine Ex.forget (forgetK [4]) ?_
 refine Ex.castA (a2 := mkS 6 [(4, .fn 88 [] [.ptr 0 0, .ptr 1 0])]) (S2 := ⟨[(C_School s_1), [.sl (starts_2.map (AV.int .i64)) none]], []⟩) (by kernel_rfl) (by kernel_rfl) ?_
 obtain rfl := sJ h
 refine Ex.forget (chillP 4 0 (C_School s_1) _ rfl rfl) ?_
 refine Ex.forget (chillP 4 1 [.sl (starts_2.map (AV.int .i64)) none] _ rfl rfl) ?_
 refine Ex.castA (a2 := mkS 6 [(4, .fn 88 [] [.rop (C_School s_1), .rop [.sl (starts_2.map (AV.int .i64)) none]])]) (S2 := ⟨[[], []], []⟩) (by kernel_rfl) (by kernel_rfl) ?_
 refine Ex.ret ?_
 exact rt (.fn 88 [] [.rop (C_School s_1), .rop [.sl (starts_2.map (AV.int .i64)) none]])
def p_parade_best_parade_opening_parade_openings_1rr_parade_widest_1 (N : Nat) (a_1 : T_School) (a_2 : (List Int)) : Option (T_parade_opening × Bool) := (letJ (fun (b_10 : Int) (b_11 : Int) (b_12 : Int) (b_13 : Bool) => some ((⟨b_10, b_11, b_12⟩ : T_parade_opening), b_13)) (fun k_14 => (letJ (fun (b_17 : Int) (b_18 : Int) (b_19 : Int) (b_20 : Bool) => (k_14 b_17 b_18 b_19 b_20)) (fun k_21 => (loop5 (fun rec_29 (wing_24 : Int) (b_25 : Int) (b_26 : Int) (b_27 : Int) (b_28 : Bool) => (bif (decide (wing_24 < ((a_1.Wings.length : Nat) : Int))) then ((p_parade_watchedPeak N a_1 a_2 wing_24 0).bind fun r_33 => (letJ (fun (b_42 : Int) (b_43 : Int) (b_44 : Int) (b_45 : Bool) => (rec_29 (IntKind.i64.wrap (wing_24 + 1)) b_42 b_43 b_44 b_45)) (fun k_46 => (letJ (fun (b_49 : Int) (b_50 : Int) (b_51 : Int) (b_52 : Bool) => (k_46 b_49 b_50 b_51 b_52)) (fun k_53 => (letJ (fun (y_56 : Bool) => (bif y_56 then (k_53 r_33.wing_ r_33.second_ r_33.gap_ true) else (k_53 b_25 b_26 b_27 b_28))) (fun k_57 => (bif (!b_28) then (k_57 true) else ((p_parade_widest_1 N r_33 (⟨b_25, b_26, b_27⟩ : T_parade_opening)).bind fun r_61 => (k_57 r_61)))))))))) else (k_21 b_25 b_26 b_27 b_28))) N 1 0 0 0 false)))))
def v_parade_best_parade_opening_parade_openings_1rr_parade_widest_1 (r : T_parade_opening × Bool) : AV := .tup [(A_parade_opening r.1), .bool r.2]
attribute [local simp] v_parade_best_parade_opening_parade_openings_1rr_parade_widest_1
theorem b_parade_best_parade_opening_parade_openings_1rr_parade_widest_1 (r : T_parade_opening × Bool) (n n2 m : Nat) : back n n2 m (v_parade_best_parade_opening_parade_openings_1rr_parade_widest_1 r) = some (v_parade_best_parade_opening_parade_openings_1rr_parade_widest_1 r) := by simp
theorem d_parade_best_parade_opening_parade_openings_1rr_parade_widest_1 (N : Nat) (a_1 : T_School) (a_2 : (List Int)) (r : T_parade_opening × Bool) (h : p_parade_best_parade_opening_parade_openings_1rr_parade_widest_1 N a_1 a_2 = some r) : Does Try.prog 72 [.fn 88 [] [.rop (C_School a_1), .rop [.sl (a_2.map (AV.int .i64)) none]], .fn 71 [] []] [] fun v c => v = v_parade_best_parade_opening_parade_openings_1rr_parade_widest_1 r ∧ c = [] := by
 unfold p_parade_best_parade_opening_parade_openings_1rr_parade_widest_1 at h
 refine Does.ofL comp72 _ _ rfl rfl ?_
 refine Ex.seq (rg 3 [0, 3, 4, 5] (mkS 22 [(0, .fn 88 [] [.rop (C_School a_1), .rop [.sl (a_2.map (AV.int .i64)) none]]), (3, .ptr 0 0), (4, .ptr 1 0), (5, .bool false)]) ⟨[[.fn 71 [] []], [i6 0, i6 0, i6 0]], []⟩ ?_)
 refine Ex.seq (rg 1 [0, 3, 4, 5, 6] (mkS 22 [(0, .fn 88 [] [.rop (C_School a_1), .rop [.sl (a_2.map (AV.int .i64)) none]]), (3, .ptr 0 0), (4, .ptr 1 0), (5, .bool false), (6, .ptr 2 0)]) ⟨[[.fn 71 [] []], [i6 0, i6 0, i6 0], [i6 0, i6 0, i6 0]], []⟩ ?_)
 refine Ex.seq (rg 2 [0, 3, 4, 5, 6, 7] (mkS 22 [(0, .fn 88 [] [.rop (C_School a_1), .rop [.sl (a_2.map (AV.int .i64)) none]]), (3, .ptr 0 0), (4, .ptr 1 0), (5, .bool false), (6, .ptr 2 0), (7, .ptr 3 0)]) ⟨[[.fn 71 [] []], [i6 0, i6 0, i6 0], [i6 0, i6 0, i6 0], [.bool false]], []⟩ ?_)
 refine Ex.seq (Ex.seq ?_)
 refine rg 1 [3, 4, 5, 6, 7, 9] (mkS 22 [(3, .ptr 0 0), (4, .ptr 1 0), (5, .bool false), (6, .ptr 2 0), (7, .ptr 3 0), (9, .fn 88 [] [.rop (C_School a_1), .rop [.sl (a_2.map (AV.int .i64)) none]])]) ⟨[[.fn 71 [] []], [i6 0, i6 0, i6 0], [i6 0, i6 0, i6 0], [.bool false]], []⟩ ?_
 refine Ex.blockK ?_
 obtain ⟨K_15, hK_16, h⟩ := letE h
 refine Ex.rangeJ (fun k S => (k = 0 ∧ ∃ (b_10 : Int), ∃ (b_11 : Int), ∃ (b_12 : Int), ∃ (b_13 : Bool), K_15 b_10 b_11 b_12 b_13 = some r ∧ S = ⟨[[.fn 71 [] []], [i6 0, i6 0, i6 0], [i6 b_10, i6 b_11, i6 b_12], [.bool b_13]], [(0, 0)]⟩)) 88 [.rop (C_School a_1), .rop [.sl (a_2.map (AV.int .i64)) none]] _ rfl comp88 rfl (by simp [setAll]) (by exact trivial) (mkS 19 [(1, .rop (C_School a_1)), (2, .rop [.sl (a_2.map (AV.int .i64)) none]), (3, .tup []), (4, .tup []), (5, .tup []), (6, .tup []), (7, .tup []), (8, .tup []), (9, .tup []), (10, .tup []), (11, .tup []), (12, .tup []), (13, .tup []), (14, .tup []), (15, .tup []), (16, .tup []), (17, .tup []), (18, .tup [])]) (⟨[[.fn 71 [] []], [i6 0, i6 0, i6 0], [i6 0, i6 0, i6 0], [.bool false]], [(0, 0)]⟩) (fun _ => by kernel_rfl) (by kernel_rfl) ?_ ?_
 ·intro cx_4 Lp_3 hcn_5 hcm_6 hLt_7 hL_8 hup_9
  refine Ex.castA (a2 := mkS 19 [(0, .yld Lp_3.l 0), (1, .rop (C_School a_1)), (2, .rop [.sl (a_2.map (AV.int .i64)) none]), (3, .tup []), (4, .tup []), (5, .tup []), (6, .tup []), (7, .tup []), (8, .tup []), (9, .tup []), (10, .tup []), (11, .tup []), (12, .tup []), (13, .tup []), (14, .tup []), (15, .tup []), (16, .tup []), (17, .tup []), (18, .tup [])]) (S2 := ⟨[[.fn 71 [] []], [i6 0, i6 0, i6 0], [i6 0, i6 0, i6 0], [.bool false]], [(0, 0)]⟩) (by kernel_rfl) rfl ?_
  refine Ex.seq (rg 1 [0, 1, 2, 4] (mkS 19 [(0, .yld Lp_3.l 0), (1, .rop (C_School a_1)), (2, .rop [.sl (a_2.map (AV.int .i64)) none]), (4, i6 1)]) ⟨[[.fn 71 [] []], [i6 0, i6 0, i6 0], [i6 0, i6 0, i6 0], [.bool false]], [(0, 0)]⟩ ?_)
  obtain ⟨K_22, hK_23, h⟩ := letE h
  refine Ex.blockJ (fun a S => ∃ (b_17 : Int), ∃ (b_18 : Int), ∃ (b_19 : Int), ∃ (b_20 : Bool), K_22 b_17 b_18 b_19 b_20 = some r ∧ a = mkS 19 [] ∧ S = ⟨[[.fn 71 [] []], [i6 0, i6 0, i6 0], [i6 b_17, i6 b_18, i6 b_19], [.bool b_20]], [(0, 0)]⟩) ?_ ?_
  ·obtain ⟨B_30, hB_31, h⟩ := loop5I h
   refine Ex.loopF (fun k a S => ∃ (wing_24 : Int), ∃ (b_25 : Int), ∃ (b_26 : Int), ∃ (b_27 : Int), ∃ (b_28 : Bool), loop5 B_30 k wing_24 b_25 b_26 b_27 b_28 = some r ∧ a = mkS 19 [(0, .yld Lp_3.l 0), (1, .rop (C_School a_1)), (2, .rop [.sl (a_2.map (AV.int .i64)) none]), (4, i6 wing_24)] ∧ S = ⟨[[.fn 71 [] []], [i6 0, i6 0, i6 0], [i6 b_25, i6 b_26, i6 b_27], [.bool b_28]], [(0, 0)]⟩) N ⟨_, _, Forgets.refl _ _ _, 1, 0, 0, 0, false, h, rfl, rfl⟩ ?_
   rintro k a S ⟨wing_24, b_25, b_26, b_27, b_28, h, rfl, rfl⟩
   cases k with
   | zero => exact (loop5Z h).elim
   | succ k =>
    replace h := loop5S h hB_31
    refine Ex.seq (Ex.seq ?_)
    refine regH 5 [(3, .eq (i6 ((a_1.Wings.length : Nat) : Int)))] [0, 1, 2, 4, 9] [AV.int .i64 (((a_1.Wings.map A_Wing).length : Nat) : Int) = AV.int .i64 ((a_1.Wings.length : Nat) : Int)] (mkS 19 [(0, .yld Lp_3.l 0), (1, .rop (C_School a_1)), (2, .rop [.sl (a_2.map (AV.int .i64)) none]), (4, i6 wing_24), (9, .bool (decide (wing_24 < ((a_1.Wings.length : Nat) : Int))))]) (⟨[[.fn 71 [] []], [i6 0, i6 0, i6 0], [i6 b_25, i6 b_26, i6 b_27], [.bool b_28]], [(0, 0)]⟩) (by kernel_rfl) ⟨lenM _ _, trivial⟩ rfl ?_
    rcases condI h with ⟨hc_32, h⟩ | ⟨hc_32, h⟩
    ·refine Ex.condT _ rfl hc_32 ?_
     refine Ex.skip ?_
     refine Ex.seq ?_
     refine Ex.blockK ?_
     refine Ex.seq ?_
     obtain ⟨r_33, hr_33, h⟩ := bE h
     refine Ex.regI ?_
     refine runI 4 [] [0, 1, 2, 4, 12, 13, 14, 15] [] (mkS 19 [(0, .yld Lp_3.l 0), (1, .rop (C_School a_1)), (2, .rop [.sl (a_2.map (AV.int .i64)) none]), (4, i6 wing_24), (12, .yld Lp_3.l 0), (13, (A_School a_1)), (14, .sl (a_2.map (AV.int .i64)) none), (15, i6 wing_24)]) (⟨[[.fn 71 [] []], [i6 0, i6 0, i6 0], [i6 b_25, i6 b_26, i6 b_27], [.bool b_28]], [(0, 0)]⟩) (by kernel_rfl) trivial ?_
     refine ExI.one ?_
     refine ExO.callL [] [(A_School a_1), .sl (a_2.map (AV.int .i64)) none, i6 wing_24, i6 0] rfl rfl (a_parade_watchedPeak a_1 a_2 wing_24 0) rfl rfl (d_parade_watchedPeak N a_1 a_2 wing_24 0 r_33 hr_33) (b_parade_watchedPeak _ _ _ _) rfl ?_
     refine ExO.nil ?_
     obtain ⟨K_47, hK_48, h⟩ := letE h
     refine ExI.yieldT 0 hLt_7 hL_8 [(A_parade_opening r_33)] rfl rfl rfl (by kernel_rfl) rfl rfl (leC hcn_5 (by simp [setAll])) ?_
     intro ca_34 cb_35 ha_36 hb_37 hma_38 hmb_39 hup_40 hbz_41
     refine Ex.castA (a2 := mkS 22 [(3, .ptr 0 0), (4, .ptr 1 0), (5, .bool false), (6, .ptr 2 0), (7, .ptr 3 0), (9, .fn 88 [] [.rop (C_School a_1), .rop [.sl (a_2.map (AV.int .i64)) none]]), (10, (A_parade_opening r_33))]) (S2 := ⟨[[.fn 71 [] []], [i6 0, i6 0, i6 0], [i6 b_25, i6 b_26, i6 b_27], [.bool b_28]], [(0, 0)]⟩) (by kernel_rfl) (by kernel_rfl) ?_
     refine Ex.two (fun z S => (z = AEx.norm ∧ ∃ (b_42 : Int), ∃ (b_43 : Int), ∃ (b_44 : Int), ∃ (b_45 : Bool), K_47 b_42 b_43 b_44 b_45 = some r ∧ S = ⟨[[.fn 71 [] []], [i6 0, i6 0, i6 0], [i6 b_42, i6 b_43, i6 b_44], [.bool b_45]], [(0, 0)]⟩)) ?_ ?_
     ·refine rg 2 [3, 6, 7, 8] (mkS 22 [(3, .ptr 0 0), (6, .ptr 2 0), (7, .ptr 3 0), (8, .ptr 4 0)]) ⟨[[.fn 71 [] []], [i6 0, i6 0, i6 0], [i6 b_25, i6 b_26, i6 b_27], [.bool b_28], (C_parade_opening r_33)], [(0, 0)]⟩ ?_
      refine ⟨rfl, rfl, ?_⟩
      obtain ⟨K_54, hK_55, h⟩ := letE h
      refine Ex.blockJ (fun a S => ∃ (b_49 : Int), ∃ (b_50 : Int), ∃ (b_51 : Int), ∃ (b_52 : Bool), K_54 b_49 b_50 b_51 b_52 = some r ∧ a = mkS 22 [] ∧ S = ⟨[[.fn 71 [] []], [i6 0, i6 0, i6 0], [i6 b_49, i6 b_50, i6 b_51], [.bool b_52]], [(0, 0)]⟩) ?_ ?_
      ·obtain ⟨K_58, hK_59, h⟩ := letE h
       refine Ex.seqJ (fun a S => ∃ (y_56 : Bool), K_58 y_56 = some r ∧ a = mkS 22 [(6, .ptr 2 0), (7, .ptr 3 0), (8, .ptr 4 0), (18, .bool y_56)] ∧ S = ⟨[[.fn 71 [] []], [i6 0, i6 0, i6 0], [i6 b_25, i6 b_26, i6 b_27], [.bool b_28], (C_parade_opening r_33)], [(0, 0)]⟩) ?_ ?_
       ·rcases condI h with ⟨hc_60, h⟩ | ⟨hc_60, h⟩
        ·refine regH 8 [(2, .eq (.bool true))] [6, 7, 8, 18] [AV.bool (!b_28) = AV.bool true] (mkS 22 [(6, .ptr 2 0), (7, .ptr 3 0), (8, .ptr 4 0), (18, .bool true)]) (⟨[[.fn 71 [] []], [i6 0, i6 0, i6 0], [i6 b_25, i6 b_26, i6 b_27], [.bool b_28], (C_parade_opening r_33)], [(0, 0)]⟩) (by kernel_rfl) ⟨congrArg AV.bool hc_60, trivial⟩ rfl ?_
         (try simp only [reduceCtorEq, AEx.ex.injEq, Nat.reduceEqDiff, if_true, if_false])
         exact ⟨_, _, Forgets.refl _ _ _, true, h, rfl, rfl⟩
        ·obtain ⟨r_61, hr_61, h⟩ := bE h
         refine Ex.reg ?_
         refine runH 6 [(2, .eq (.bool false))] [6, 7, 8, 13, 14, 15, 16] [AV.bool (!b_28) = AV.bool false] (mkS 22 [(6, .ptr 2 0), (7, .ptr 3 0), (8, .ptr 4 0), (13, .bool false), (14, .fn 71 [] []), (15, (A_parade_opening r_33)), (16, .agg [i6 b_25, i6 b_26, i6 b_27])]) (⟨[[.fn 71 [] []], [i6 0, i6 0, i6 0], [i6 b_25, i6 b_26, i6 b_27], [.bool b_28], (C_parade_opening r_33)], [(0, 0)]⟩) (by kernel_rfl) ⟨congrArg AV.bool hc_60, trivial⟩ ?_
         refine ExO.callL [] [(A_parade_opening r_33), .agg [i6 b_25, i6 b_26, i6 b_27]] rfl rfl (a_parade_widest_1 r_33 (⟨b_25, b_26, b_27⟩ : T_parade_opening)) rfl rfl (d_parade_widest_1 N r_33 (⟨b_25, b_26, b_27⟩ : T_parade_opening) r_61 hr_61) (b_parade_widest_1 _ _ _ _) rfl ?_
         refine rn 1 [6, 7, 8, 18] (mkS 22 [(6, .ptr 2 0), (7, .ptr 3 0), (8, .ptr 4 0), (18, .bool r_61)]) ⟨[[.fn 71 [] []], [i6 0, i6 0, i6 0], [i6 b_25, i6 b_26, i6 b_27], [.bool b_28], (C_parade_opening r_33)], [(0, 0)]⟩ ?_
         refine ExO.nil ?_
         (try simp only [reduceCtorEq, AEx.ex.injEq, Nat.reduceEqDiff, if_true, if_false])
         exact ⟨_, _, Forgets.refl _ _ _, r_61, h, rfl, rfl⟩
       ·rintro a S ⟨y_56, h, rfl, rfl⟩
        subst hK_59
        rcases condI h with ⟨hc_62, h⟩ | ⟨hc_62, h⟩
        ·refine Ex.condT _ rfl hc_62 ?_
         refine rg 3 [] (mkS 22 []) ⟨[[.fn 71 [] []], [i6 0, i6 0, i6 0], (C_parade_opening r_33), [.bool true], (C_parade_opening r_33)], [(0, 0)]⟩ ?_
         (try simp only [reduceCtorEq, AEx.ex.injEq, Nat.reduceEqDiff, if_true, if_false])
         exact ⟨_, _, forgetA (m := 22) 4 [0] [] [[.fn 71 [] []], [i6 0, i6 0, i6 0], (C_parade_opening r_33), [.bool true]] [(0, 0)] (leC hb_37 (by simp [setAll])) (by simp) trivial (by simp) rfl (by decide) (sig0 1 hmb_39 rfl), r_33.wing_, r_33.second_, r_33.gap_, true, h, rfl, rfl⟩
        ·refine Ex.condF _ rfl hc_62 ?_
         refine Ex.skip ?_
         (try simp only [reduceCtorEq, AEx.ex.injEq, Nat.reduceEqDiff, if_true, if_false])
         exact ⟨_, _, forgetA (m := 22) 4 [0] [] [[.fn 71 [] []], [i6 0, i6 0, i6 0], [i6 b_25, i6 b_26, i6 b_27], [.bool b_28]] [(0, 0)] (leC hb_37 (by simp [setAll])) (by simp) trivial (by simp) rfl (by decide) (sig0 1 hmb_39 rfl), b_25, b_26, b_27, b_28, h, rfl, rfl⟩
      ·rintro a S ⟨b_49, b_50, b_51, b_52, h, rfl, rfl⟩
       subst hK_55
       (try simp only [reduceCtorEq, AEx.ex.injEq, Nat.reduceEqDiff, if_true, if_false])
       exact ⟨_, _, Forgets.refl _ _ _, ⟨by first | rfl | trivial, b_49, b_50, b_51, b_52, h, rfl⟩⟩
     ·rintro z a2 S (⟨rfl, b_42, b_43, b_44, b_45, h, rfl⟩)
      subst hK_48
      refine runI 1 [] [0, 1, 2, 4, 18] [] (mkS 19 [(0, .yld Lp_3.l 0), (1, .rop (C_School a_1)), (2, .rop [.sl (a_2.map (AV.int .i64)) none]), (4, i6 wing_24), (18, .bool false)]) (⟨[[.fn 71 [] []], [i6 0, i6 0, i6 0], [i6 b_42, i6 b_43, i6 b_44], [.bool b_45]], [(0, 0)]⟩) (by kernel_rfl) trivial ?_
      refine ExI.nil ?_
      refine Ex.cond (b := false) rfl ?_
      refine Ex.skip ?_
      refine rg 3 [0, 1, 2, 4] (mkS 19 [(0, .yld Lp_3.l 0), (1, .rop (C_School a_1)), (2, .rop [.sl (a_2.map (AV.int .i64)) none]), (4, i6 (IntKind.i64.wrap (wing_24 + 1)))]) ⟨[[.fn 71 [] []], [i6 0, i6 0, i6 0], [i6 b_42, i6 b_43, i6 b_44], [.bool b_45]], [(0, 0)]⟩ ?_
      dsimp only
      exact ⟨_, _, Forgets.refl _ _ _, k, Nat.lt_succ_self k, (IntKind.i64.wrap (wing_24 + 1)), b_42, b_43, b_44, b_45, h, rfl, rfl⟩
    ·refine Ex.condF _ rfl hc_32 ?_
     refine Ex.exit ?_
     (try simp only [reduceCtorEq, AEx.ex.injEq, Nat.reduceEqDiff, if_true, if_false])
     exact ⟨_, _, forgetK [], b_25, b_26, b_27, b_28, h, rfl, rfl⟩
  ·rintro a S ⟨b_17, b_18, b_19, b_20, h, rfl, rfl⟩
   subst hK_23
   exact ⟨_, _, Forgets.refl _ _ _, .inl rfl, 0, rfl, ⟨by first | rfl | trivial, b_17, b_18, b_19, b_20, h, rfl⟩⟩
 ·rintro k S (⟨rfl, b_10, b_11, b_12, b_13, h, rfl⟩)
  subst hK_16
  refine Ex.seq ?_
  refine Ex.drawE (a1 := mkS 22 [(3, .ptr 0 0), (4, .ptr 1 0), (5, .bool false), (6, .ptr 2 0), (7, .ptr 3 0), (9, .fn 88 [] [.rop (C_School a_1), .rop [.sl (a_2.map (AV.int .i64)) none]]), (20, .agg [i6 b_10, i6 b_11, i6 b_12]), (21, .bool b_13)]) (noClr_ok _) [] [] [⟨[[.fn 71 [] []], [i6 b_10, i6 b_11, i6 b_12], [i6 b_10, i6 b_11, i6 b_12], [.bool b_13]], [(0, 0)]⟩] ?_ ?_
  ·refine drS [0, 2, 3] 2 [] [] (mkS 22 [(3, .ptr 0 0), (4, .ptr 1 0), (5, .bool false), (6, .ptr 2 0), (7, .ptr 3 0), (9, .fn 88 [] [.rop (C_School a_1), .rop [.sl (a_2.map (AV.int .i64)) none]]), (20, .agg [i6 b_10, i6 b_11, i6 b_12]), (21, .bool b_13)]) (by simp) (by kernel_rfl) trivial (by kernel_rfl) ?_
   refine drE none none (.tup []) _ _ rfl rfl rfl rfl rfl (by kernel_rfl) trivial ?_
   exact DrO.nil rfl
  ·dsimp only [List.getLastD_cons, List.getLastD_nil]
   refine rn 1 [4, 5] (mkS 22 [(4, .ptr 1 0), (5, .bool b_13)]) ⟨[[.fn 71 [] []], [i6 b_10, i6 b_11, i6 b_12], [i6 b_10, i6 b_11, i6 b_12], [.bool b_13]], [(0, 0)]⟩ ?_
   refine ExO.nil ?_
   refine Ex.ret ?_
   obtain rfl := sJ h
   exact rt (.tup [.agg [i6 b_10, i6 b_11, i6 b_12], .bool b_13])
def p_parade_widest (N : Nat) (s_1 : T_School) (starts_2 : (List Int)) : Option (T_parade_opening) := ((p_parade_openings N s_1 starts_2).bind fun r_3 => ((p_parade_best_parade_opening_parade_openings_1rr_parade_widest_1 N r_3.1 r_3.2).bind fun r_4 => (letJ (fun (y_5 : Bool) => (bif y_5 then some (⟨(-1), (-1), 0⟩ : T_parade_opening) else some r_4.1)) (fun k_6 => (bif (!r_4.2) then (k_6 true) else (k_6 (r_4.1.gap_ == 0)))))))
def v_parade_widest (r : T_parade_opening) : AV := (A_parade_opening r)
attribute [local simp] v_parade_widest
theorem a_parade_widest (s_1 : T_School) (starts_2 : (List Int)) : [(A_School s_1), .sl (starts_2.map (AV.int .i64)) none].mapM (ren []) = some [(A_School s_1), .sl (starts_2.map (AV.int .i64)) none] := by simp
theorem b_parade_widest (r : T_parade_opening) (n n2 m : Nat) : back n n2 m (v_parade_widest r) = some (v_parade_widest r) := by simp
theorem d_parade_widest (N : Nat) (s_1 : T_School) (starts_2 : (List Int)) (r : T_parade_opening) (h : p_parade_widest N s_1 starts_2 = some r) : Does Try.prog 51 [(A_School s_1), .sl (starts_2.map (AV.int .i64)) none] [] fun v c => v = v_parade_widest r ∧ c = [] := by
 unfold p_parade_widest at h
 refine Does.ofL comp51 _ _ rfl rfl ?_
 refine Ex.seq (rg 2 [1, 2, 4] (mkS 25 [(1, .sl (starts_2.map (AV.int .i64)) none), (2, .ptr 0 0), (4, .ptr 1 0)]) ⟨[(C_School s_1), [i6 0, i6 0, i6 0]], []⟩ ?_)
 refine Ex.seq (rg 1 [1, 2, 4, 5] (mkS 25 [(1, .sl (starts_2.map (AV.int .i64)) none), (2, .ptr 0 0), (4, .ptr 1 0), (5, .fn 71 [] [])]) ⟨[(C_School s_1), [i6 0, i6 0, i6 0]], []⟩ ?_)
 refine Ex.seq ?_
 obtain ⟨r_3, hr_3, h⟩ := bE h
 refine Ex.reg (rn 2 [4, 5, 9, 10] (mkS 25 [(4, .ptr 1 0), (5, .fn 71 [] []), (9, (A_School s_1)), (10, .sl (starts_2.map (AV.int .i64)) none)]) ⟨[(C_School s_1), [i6 0, i6 0, i6 0]], []⟩ ?_)
 refine ExO.callL [] [(A_School s_1), .sl (starts_2.map (AV.int .i64)) none] rfl rfl (a_parade_openings s_1 starts_2) rfl rfl (d_parade_openings N s_1 starts_2 r_3 hr_3) (b_parade_openings _ _ _ _) rfl ?_
 obtain ⟨r_4, hr_4, h⟩ := bE h
 refine rn 1 [4, 11, 12] (mkS 25 [(4, .ptr 1 0), (11, .fn 88 [] [.rop (C_School r_3.1), .rop [.sl (r_3.2.map (AV.int .i64)) none]]), (12, .fn 71 [] [])]) ⟨[(C_School s_1), [i6 0, i6 0, i6 0]], []⟩ ?_
 refine ExO.callL [] [.fn 88 [] [.rop (C_School r_3.1), .rop [.sl (r_3.2.map (AV.int .i64)) none]], .fn 71 [] []] rfl rfl (by simp; try rfl) rfl rfl (d_parade_best_parade_opening_parade_openings_1rr_parade_widest_1 N r_3.1 r_3.2 r_4 hr_4) (b_parade_best_parade_opening_parade_openings_1rr_parade_widest_1 _ _ _ _) rfl ?_
 refine rn 6 [4, 6, 7] (mkS 25 [(4, .ptr 1 0), (6, .ptr 2 0), (7, .bool r_4.2)]) ⟨[(C_School s_1), [i6 0, i6 0, i6 0], (C_parade_opening r_4.1)], []⟩ ?_
 refine ExO.nil ?_
 refine Ex.seq ?_
 obtain ⟨K_7, hK_8, h⟩ := letE h
 refine Ex.seqJ (fun a S => ∃ (y_5 : Bool), K_7 y_5 = some r ∧ a = mkS 25 [(4, .ptr 1 0), (6, .ptr 2 0), (22, .bool y_5)] ∧ S = ⟨[(C_School s_1), [i6 0, i6 0, i6 0], (C_parade_opening r_4.1)], []⟩) ?_ ?_
 ·rcases condI h with ⟨hc_9, h⟩ | ⟨hc_9, h⟩
  ·refine regH 7 [(2, .eq (.bool true))] [4, 6, 22] [AV.bool (!r_4.2) = AV.bool true] (mkS 25 [(4, .ptr 1 0), (6, .ptr 2 0), (22, .bool true)]) (⟨[(C_School s_1), [i6 0, i6 0, i6 0], (C_parade_opening r_4.1)], []⟩) (by kernel_rfl) ⟨congrArg AV.bool hc_9, trivial⟩ rfl ?_
   (try simp only [reduceCtorEq, AEx.ex.injEq, Nat.reduceEqDiff, if_true, if_false])
   exact ⟨_, _, Forgets.refl _ _ _, true, h, rfl, rfl⟩
  ·refine regH 7 [(2, .eq (.bool false))] [4, 6, 22] [AV.bool (!r_4.2) = AV.bool false] (mkS 25 [(4, .ptr 1 0), (6, .ptr 2 0), (22, .bool (r_4.1.gap_ == 0))]) (⟨[(C_School s_1), [i6 0, i6 0, i6 0], (C_parade_opening r_4.1)], []⟩) (by kernel_rfl) ⟨congrArg AV.bool hc_9, trivial⟩ rfl ?_
   (try simp only [reduceCtorEq, AEx.ex.injEq, Nat.reduceEqDiff, if_true, if_false])
   exact ⟨_, _, Forgets.refl _ _ _, (r_4.1.gap_ == 0), h, rfl, rfl⟩
 ·rintro a S ⟨y_5, h, rfl, rfl⟩
  subst hK_8
  rcases condI h with ⟨hc_10, h⟩ | ⟨hc_10, h⟩
  ·refine Ex.condT _ rfl hc_10 ?_
   refine Ex.seq (rg 2 [4] (mkS 25 [(4, .ptr 1 0)]) ⟨[(C_School s_1), [i6 (-1), i6 (-1), i6 0], (C_parade_opening r_4.1)], []⟩ ?_)
   refine Ex.ret ?_
   obtain rfl := sJ h
   exact rt (.agg [i6 (-1), i6 (-1), i6 0])
  ·refine Ex.condF _ rfl hc_10 ?_
   refine Ex.skip ?_
   refine Ex.seq (rg 2 [4] (mkS 25 [(4, .ptr 1 0)]) ⟨[(C_School s_1), (C_parade_opening r_4.1), (C_parade_opening r_4.1)], []⟩ ?_)
   refine Ex.ret ?_
   obtain rfl := sJ h
   exact rt ((A_parade_opening r_4.1))
def p_parade_Widest (N : Nat) (s_1 : T_School) (starts_2 : (List Int)) : Option (Int × Int × Int × Int) := ((p_parade_CheckStarts N s_1 starts_2).bind fun r_3 => (bif (r_3 != 0) then some (0, 0, 0, r_3) else ((p_parade_widest N s_1 starts_2).bind fun r_5 => some (r_5.wing_, r_5.second_, r_5.gap_, 0))))
def v_parade_Widest (r : Int × Int × Int × Int) : AV := .tup [i6 r.1, i6 r.2.1, i6 r.2.2.1, i6 r.2.2.2]
attribute [local simp] v_parade_Widest
theorem a_parade_Widest (s_1 : T_School) (starts_2 : (List Int)) : [(A_School s_1), .sl (starts_2.map (AV.int .i64)) none].mapM (ren []) = some [(A_School s_1), .sl (starts_2.map (AV.int .i64)) none] := by simp
theorem b_parade_Widest (r : Int × Int × Int × Int) (n n2 m : Nat) : back n n2 m (v_parade_Widest r) = some (v_parade_Widest r) := by simp
theorem d_parade_Widest (N : Nat) (s_1 : T_School) (starts_2 : (List Int)) (r : Int × Int × Int × Int) (h : p_parade_Widest N s_1 starts_2 = some r) : Does Try.prog 22 [(A_School s_1), .sl (starts_2.map (AV.int .i64)) none] [] fun v c => v = v_parade_Widest r ∧ c = [] := by
 unfold p_parade_Widest at h
 refine Does.ofL comp22 _ _ rfl rfl ?_
 refine Ex.seq (rg 5 [1, 2] (mkS 25 [(1, .sl (starts_2.map (AV.int .i64)) none), (2, .ptr 0 0)]) ⟨[(C_School s_1)], []⟩ ?_)
 refine Ex.seq (Ex.seq ?_)
 obtain ⟨r_3, hr_3, h⟩ := bE h
 refine Ex.reg (rn 2 [1, 2, 10, 11] (mkS 25 [(1, .sl (starts_2.map (AV.int .i64)) none), (2, .ptr 0 0), (10, (A_School s_1)), (11, .sl (starts_2.map (AV.int .i64)) none)]) ⟨[(C_School s_1)], []⟩ ?_)
 refine ExO.callL [] [(A_School s_1), .sl (starts_2.map (AV.int .i64)) none] rfl rfl (a_parade_CheckStarts s_1 starts_2) rfl rfl (d_parade_CheckStarts N s_1 starts_2 r_3 hr_3) (b_parade_CheckStarts _ _ _ _) rfl ?_
 refine rn 1 [1, 2, 8] (mkS 25 [(1, .sl (starts_2.map (AV.int .i64)) none), (2, .ptr 0 0), (8, i6 r_3)]) ⟨[(C_School s_1)], []⟩ ?_
 refine ExO.nil ?_
 refine Ex.seq (rg 2 [1, 2, 8, 14] (mkS 25 [(1, .sl (starts_2.map (AV.int .i64)) none), (2, .ptr 0 0), (8, i6 r_3), (14, .bool (r_3 != 0))]) ⟨[(C_School s_1)], []⟩ ?_)
 rcases condI h with ⟨hc_4, h⟩ | ⟨hc_4, h⟩
 ·refine Ex.condT _ rfl hc_4 ?_
  refine Ex.seq (rg 5 [4, 5, 6, 7] (mkS 25 [(4, i6 0), (5, i6 0), (6, i6 0), (7, i6 r_3)]) ⟨[(C_School s_1)], []⟩ ?_)
  refine Ex.ret ?_
  obtain rfl := sJ h
  exact rt (.tup [i6 0, i6 0, i6 0, i6 r_3])
 ·refine Ex.condF _ rfl hc_4 ?_
  refine Ex.skip ?_
  refine Ex.seq ?_
  obtain ⟨r_5, hr_5, h⟩ := bE h
  refine Ex.reg (rn 2 [16, 17] (mkS 25 [(16, (A_School s_1)), (17, .sl (starts_2.map (AV.int .i64)) none)]) ⟨[(C_School s_1)], []⟩ ?_)
  refine ExO.callL [] [(A_School s_1), .sl (starts_2.map (AV.int .i64)) none] rfl rfl (a_parade_widest s_1 starts_2) rfl rfl (d_parade_widest N s_1 starts_2 r_5 hr_5) (b_parade_widest _ _ _ _) rfl ?_
  refine rn 2 [9] (mkS 25 [(9, .ptr 1 0)]) ⟨[(C_School s_1), (C_parade_opening r_5)], []⟩ ?_
  refine ExO.nil ?_
  refine Ex.seq ?_
  refine Ex.drawE (a1 := mkS 25 [(4, i6 r_5.wing_), (5, i6 r_5.second_), (9, .ptr 1 0), (19, .ptr 1 0), (20, i6 r_5.wing_), (21, .ptr 1 1), (22, i6 r_5.second_), (23, .ptr 1 2), (24, i6 r_5.gap_)]) (noClr_ok _) [] [] [] ?_ ?_
  ·refine drS [0, 1] 8 [] [] (mkS 25 [(4, i6 r_5.wing_), (5, i6 r_5.second_), (9, .ptr 1 0), (19, .ptr 1 0), (20, i6 r_5.wing_), (21, .ptr 1 1), (22, i6 r_5.second_), (23, .ptr 1 2), (24, i6 r_5.gap_)]) (by simp) (by kernel_rfl) trivial (by kernel_rfl) ?_
   exact DrO.nil rfl
  ·dsimp only [List.getLastD_cons, List.getLastD_nil]
   refine rn 2 [4, 5, 6, 7] (mkS 25 [(4, i6 r_5.wing_), (5, i6 r_5.second_), (6, i6 r_5.gap_), (7, i6 0)]) ⟨[(C_School s_1), (C_parade_opening r_5)], []⟩ ?_
   refine ExO.nil ?_
   refine Ex.ret ?_
   obtain rfl := sJ h
   exact rt (.tup [i6 r_5.wing_, i6 r_5.second_, i6 r_5.gap_, i6 0])
end Go.Proofs.Ytloklokkognalaa
end
