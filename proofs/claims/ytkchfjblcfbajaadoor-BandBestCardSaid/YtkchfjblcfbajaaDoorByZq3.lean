/- Part 4 of what the law needs: own work, put together. -/
import Derived.Test.YtkchfjblcfbajaaDoorByZq2
set_option linter.unusedVariables false
set_option linter.unusedSimpArgs false
set_option maxRecDepth 10000
set_option maxHeartbeats 4000000
section
namespace Go.Proofs.YtkchfjblcfbajaaDoor
open Go.RowKit
attribute [local simp] ren ren1 AV.plain AV.plain1 AV.clean cleanL cleanI cleanBo cleanSt cleanII plFB clFB faFB KL_bk_Drum KL_Span A_bk_Drum C_bk_Drum A_Span C_Span back back1 re re1 fadeS fadeV List.idxOf? List.findIdx? List.findIdx?.go KB_bk_Drum KB_Span
def p_bk_Fit (N : Nat) (x_1 : Int) (n_2 : Int) : Option (Int) := (bif (decide (n_2 < 2)) then some 0 else ((nzI n_2).bind fun u_4 => (bif (decide ((Int.tmod x_1 n_2) < 0)) then some (IntKind.i64.wrap ((Int.tmod x_1 n_2) + n_2)) else some (Int.tmod x_1 n_2))))
def v_bk_Fit (r : Int) : AV := i6 r
attribute [local simp] v_bk_Fit
theorem b_bk_Fit (r : Int) (n n2 m : Nat) : back n n2 m (v_bk_Fit r) = some (v_bk_Fit r) := by simp
theorem d_bk_Fit (N : Nat) (x_1 : Int) (n_2 : Int) (r : Int) (h : p_bk_Fit N x_1 n_2 = some r) : Does Tryd.prog 84 [i6 x_1, i6 n_2] [] fun v c => v = v_bk_Fit r ∧ c = [] := by
 unfold p_bk_Fit at h
 refine Does.ofL comp84 _ _ rfl rfl ?_
 refine Ex.seq (rg 1 [0, 1] (mkS 16 [(0, i6 x_1), (1, i6 n_2)]) ⟨[], []⟩ ?_)
 refine Ex.seq (Ex.seq ?_)
 refine rg 2 [0, 1, 6] (mkS 16 [(0, i6 x_1), (1, i6 n_2), (6, .bool (decide (n_2 < 2)))]) ⟨[], []⟩ ?_
 rcases condI h with ⟨hc_3, h⟩ | ⟨hc_3, h⟩
 ·refine Ex.condT _ rfl hc_3 ?_
  refine Ex.seq (rg 1 [4] (mkS 16 [(4, i6 0)]) ⟨[], []⟩ ?_)
  refine Ex.ret ?_
  obtain rfl := sJ h
  exact rt (i6 0)
 ·refine Ex.condF _ rfl hc_3 ?_
  refine Ex.skip ?_
  refine Ex.seq ?_
  obtain ⟨u_4, hu_4, h⟩ := bE h
  refine regH 4 [(2, .bin (i6 (Int.tmod x_1 n_2)))] [0, 1] [binA .rem (i6 x_1) (i6 n_2) = some (i6 (Int.tmod x_1 n_2))] (mkS 16 [(0, i6 (Int.tmod x_1 n_2)), (1, i6 n_2)]) (⟨[], []⟩) (by kernel_rfl) ⟨binR hu_4, trivial⟩ rfl ?_
  refine Ex.seq (Ex.seq ?_)
  refine rg 2 [0, 1, 11] (mkS 16 [(0, i6 (Int.tmod x_1 n_2)), (1, i6 n_2), (11, .bool (decide ((Int.tmod x_1 n_2) < 0)))]) ⟨[], []⟩ ?_
  rcases condI h with ⟨hc_5, h⟩ | ⟨hc_5, h⟩
  ·refine Ex.condT _ rfl hc_5 ?_
   refine rg 4 [0] (mkS 16 [(0, i6 (IntKind.i64.wrap ((Int.tmod x_1 n_2) + n_2)))]) ⟨[], []⟩ ?_
   refine Ex.seq (rg 2 [4] (mkS 16 [(4, i6 (IntKind.i64.wrap ((Int.tmod x_1 n_2) + n_2)))]) ⟨[], []⟩ ?_)
   refine Ex.ret ?_
   obtain rfl := sJ h
   exact rt (i6 (IntKind.i64.wrap ((Int.tmod x_1 n_2) + n_2)))
  ·refine Ex.condF _ rfl hc_5 ?_
   refine Ex.skip ?_
   refine Ex.seq (rg 2 [4] (mkS 16 [(4, i6 (Int.tmod x_1 n_2))]) ⟨[], []⟩ ?_)
   refine Ex.ret ?_
   obtain rfl := sJ h
   exact rt (i6 (Int.tmod x_1 n_2))
structure T_Street where
 A : Int
 B : Int
 deriving Inhabited
def C_Street (x : T_Street) : List AV := [i6 x.A, i6 x.B]
attribute [local simp] C_Street
def A_Street (x : T_Street) : AV := .agg (C_Street x)
attribute [local simp] A_Street
theorem KC_Street (x : T_Street) : cleanL (C_Street x) = true := by simp
theorem KA_Street (x : T_Street) : (A_Street x).clean = true := KC_Street x
theorem KL_Street (l : List T_Street) : cleanL (l.map A_Street) = true := cleanM KA_Street l
attribute [local simp] KL_Street
theorem KB_Street (x : T_Street) (n : Nat) (σ : List Nat) : (C_Street x).mapM (re n σ) = some (C_Street x) := by simp
attribute [local simp] KB_Street
def p_br6_Other (N : Nat) (s_1 : T_Street) (square_2 : Int) : Option (Int) := (bif (square_2 == s_1.A) then some s_1.B else (bif (square_2 == s_1.B) then some s_1.A else some (-1)))
def v_br6_Other (r : Int) : AV := i6 r
attribute [local simp] v_br6_Other
theorem a_br6_Other (s_1 : T_Street) (square_2 : Int) : [(A_Street s_1), i6 square_2].mapM (ren []) = some [(A_Street s_1), i6 square_2] := by simp
theorem b_br6_Other (r : Int) (n n2 m : Nat) : back n n2 m (v_br6_Other r) = some (v_br6_Other r) := by simp
theorem d_br6_Other (N : Nat) (s_1 : T_Street) (square_2 : Int) (r : Int) (h : p_br6_Other N s_1 square_2 = some r) : Does Tryd.prog 56 [(A_Street s_1), i6 square_2] [] fun v c => v = v_br6_Other r ∧ c = [] := by
 unfold p_br6_Other at h
 refine Does.ofL comp56 _ _ rfl rfl ?_
 refine Ex.seq (rg 2 [1, 2] (mkS 18 [(1, i6 square_2), (2, .ptr 0 0)]) ⟨[(C_Street s_1)], []⟩ ?_)
 refine Ex.seq (Ex.seq ?_)
 refine rg 1 [2, 5] (mkS 18 [(2, .ptr 0 0), (5, i6 square_2)]) ⟨[(C_Street s_1)], []⟩ ?_
 refine Ex.blockK ?_
 refine Ex.seq (rg 4 [2, 5, 6] (mkS 18 [(2, .ptr 0 0), (5, i6 square_2), (6, .bool (square_2 == s_1.A))]) ⟨[(C_Street s_1)], []⟩ ?_)
 rcases condI h with ⟨hc_3, h⟩ | ⟨hc_3, h⟩
 ·refine Ex.condT _ rfl hc_3 ?_
  refine Ex.seq (rg 3 [4] (mkS 18 [(4, i6 s_1.B)]) ⟨[(C_Street s_1)], []⟩ ?_)
  refine Ex.ret ?_
  obtain rfl := sJ h
  exact rt (i6 s_1.B)
 ·refine Ex.condF _ rfl hc_3 ?_
  refine Ex.seq (rg 4 [2, 12] (mkS 18 [(2, .ptr 0 0), (12, .bool (square_2 == s_1.B))]) ⟨[(C_Street s_1)], []⟩ ?_)
  rcases condI h with ⟨hc_4, h⟩ | ⟨hc_4, h⟩
  ·refine Ex.condT _ rfl hc_4 ?_
   refine Ex.seq (rg 3 [4] (mkS 18 [(4, i6 s_1.A)]) ⟨[(C_Street s_1)], []⟩ ?_)
   refine Ex.ret ?_
   obtain rfl := sJ h
   exact rt (i6 s_1.A)
  ·refine Ex.condF _ rfl hc_4 ?_
   refine Ex.skip ?_
   refine Ex.seq (rg 1 [4] (mkS 18 [(4, i6 (-1))]) ⟨[(C_Street s_1)], []⟩ ?_)
   refine Ex.ret ?_
   obtain rfl := sJ h
   exact rt (i6 (-1))
structure T_Group where
 Size : T_Span
 At : T_Span
 Stay : Int
 First : Int
 Path : (List Int)
 deriving Inhabited
def C_Group (x : T_Group) : List AV := [i6 x.Size.Lo, i6 x.Size.Hi, i6 x.At.Lo, i6 x.At.Hi, i6 x.Stay, i6 x.First, .sl (x.Path.map (AV.int .i64)) none]
attribute [local simp] C_Group
def A_Group (x : T_Group) : AV := .agg (C_Group x)
attribute [local simp] A_Group
theorem KC_Group (x : T_Group) : cleanL (C_Group x) = true := by simp
theorem KA_Group (x : T_Group) : (A_Group x).clean = true := KC_Group x
theorem KL_Group (l : List T_Group) : cleanL (l.map A_Group) = true := cleanM KA_Group l
attribute [local simp] KL_Group
theorem KB_Group (x : T_Group) (n : Nat) (σ : List Nat) : (C_Group x).mapM (re n σ) = some (C_Group x) := by simp
attribute [local simp] KB_Group
structure T_Town where
 Rooms : (List Int)
 Streets : (List T_Street)
 Groups : (List T_Group)
 Steps : Int
 deriving Inhabited
def C_Town (x : T_Town) : List AV := [.sl (x.Rooms.map (AV.int .i64)) none, .sl (x.Streets.map A_Street) none, .sl (x.Groups.map A_Group) none, i6 x.Steps]
attribute [local simp] C_Town
def A_Town (x : T_Town) : AV := .agg (C_Town x)
attribute [local simp] A_Town
theorem KC_Town (x : T_Town) : cleanL (C_Town x) = true := by simp
theorem KA_Town (x : T_Town) : (A_Town x).clean = true := KC_Town x
theorem KL_Town (l : List T_Town) : cleanL (l.map A_Town) = true := cleanM KA_Town l
attribute [local simp] KL_Town
theorem KB_Town (x : T_Town) (n : Nat) (σ : List Nat) : (C_Town x).mapM (re n σ) = some (C_Town x) := by simp
attribute [local simp] KB_Town
theorem IJ_bk_Drum (x y : T_bk_Drum) (h : A_bk_Drum x = A_bk_Drum y) : x = y := by
 have h := AV.agg.inj h
 simp only [C_bk_Drum, List.cons.injEq, AV.int.injEq, AV.bool.injEq, AV.str.injEq, AV.sl.injEq, true_and, and_true] at h
 have h0 := h
 obtain ⟨x0⟩ := x; obtain ⟨y0⟩ := y; simp_all
theorem k_bk_Drum_Roll (N : Nat) (d_1 : T_bk_Drum) (n_2 : Int) (d_1z : T_bk_Drum) (n_2z : Int) (r s : Int × T_bk_Drum) (hr : p_bk_Drum_Roll N d_1 n_2 = some r) (hs : p_bk_Drum_Roll N d_1z n_2z = some s) : ConsR ⟨19, [.ptr 0 0, i6 n_2], [(C_bk_Drum d_1)], v_bk_Drum_Roll r, [(C_bk_Drum r.2)]⟩ ⟨19, [.ptr 0 0, i6 n_2z], [(C_bk_Drum d_1z)], v_bk_Drum_Roll s, [(C_bk_Drum s.2)]⟩ := by
 intro _ h1 h2
 have h1 : ([.ptr 0 0, i6 n_2] : List AV) = [.ptr 0 0, i6 n_2z] := h1
 have h2 : ([(C_bk_Drum d_1)] : List (List AV)) = [(C_bk_Drum d_1z)] := h2
 obtain rfl : d_1 = d_1z := IJ_bk_Drum _ _ (congrArg AV.agg (List.cons.inj h2).1)
 obtain rfl : n_2 = n_2z := (intInj _) _ _ (List.cons.inj (List.cons.inj h1).2).1
 rw [hr] at hs; cases hs; exact ⟨rfl, rfl⟩
def p_bk_TownOf (N : Nat) (d_1 : T_bk_Drum) (squares_2 : Int) (streets_3 : Int) (groups_4 : Int) : Option (T_Town × T_bk_Drum) := ((p_bk_Drum_Any N d_1 [4, 11]).bind fun r_5 => ((p_bk_Drum_Roll N r_5.2 r_5.1).bind fun r_6 => ((p_bk_Drum_Mid N r_6.2 1 squares_2).bind fun r_7 => (letJ (fun (b_8 : Int) (b_9 : List Int) => ((p_bk_Drum_Roll N (⟨b_8⟩ : T_bk_Drum) (IntKind.i64.wrap (streets_3 + 1))).bind fun r_25 => (letJ (fun (b_26 : Int) (b_27 : List T_Street) => ((p_bk_Drum_Roll N (⟨b_26⟩ : T_bk_Drum) (IntKind.i64.wrap (groups_4 + 1))).bind fun r_48 => (letJ (fun (b_49 : Int) (b_50 : List T_Group) => some ((⟨b_9, b_27, b_50, r_6.1⟩ : T_Town), (⟨b_49⟩ : T_bk_Drum))) (fun k_51 => (loop3 (fun rec_57 (i_54 : Int) (b_55 : Int) (b_56 : List T_Group) => (bif (decide (i_54 > 0)) then ((p_bk_Drum_Any N (⟨b_55⟩ : T_bk_Drum) [30, 90]).bind fun r_61 => ((p_bk_Drum_Span N r_61.2 0 r_61.1).bind fun r_62 => ((p_bk_Drum_Any N r_62.2 [0, 4]).bind fun r_63 => ((p_bk_Drum_Span N r_63.2 0 r_63.1).bind fun r_64 => ((p_bk_Drum_Mid N r_64.2 1 4).bind fun r_65 => ((p_bk_Drum_Roll N r_65.2 r_7.1).bind fun r_66 => ((p_bk_Drum_Roll N r_66.2 5).bind fun r_67 => (letJ (fun (b_68 : Int) (b_69 : List Int) => ((pushI b_56 ([(⟨r_62.1, r_64.1, r_65.1, r_66.1, b_69⟩ : T_Group)] : List T_Group)).bind fun l_97 => (rec_57 (IntKind.i64.wrap (i_54 - 1)) b_68 l_97))) (fun k_70 => (loop4 (fun rec_77 (at_73 : Int) (k_74 : Int) (b_75 : Int) (b_76 : List Int) => (letJ (fun (y_80 : Bool) => (bif y_80 then (letJ (fun (at_86 : Int) (b_87 : Int) (b_88 : List Int) => (rec_77 at_86 (IntKind.i64.wrap (k_74 - 1)) b_87 b_88)) (fun k_89 => ((p_bk_Drum_Roll N (⟨b_75⟩ : T_bk_Drum) ((b_27.length : Nat) : Int)).bind fun r_92 => ((getI b_27 r_92.1).bind fun x_93 => ((p_br6_Other N x_93 at_73).bind fun r_94 => (bif (decide (r_94 ≥ 0)) then ((pushI b_76 ([r_92.1] : List Int)).bind fun l_96 => (k_89 r_94 r_92.2.beat_ l_96)) else (k_89 at_73 r_92.2.beat_ b_76))))))) else (k_70 b_75 b_76))) (fun k_81 => (bif (decide (k_74 > 0)) then (k_81 (decide (((b_27.length : Nat) : Int) > 0))) else (k_81 false))))) N r_66.1 r_67.1 r_67.2.beat_ [])))))))))) else (k_51 b_55 b_56))) N r_48.1 r_48.2.beat_ []))))) (fun k_28 => (loop3 (fun rec_34 (i_31 : Int) (b_32 : Int) (b_33 : List T_Street) => (letJ (fun (y_37 : Bool) => (bif y_37 then ((p_bk_Drum_Roll N (⟨b_32⟩ : T_bk_Drum) r_7.1).bind fun r_43 => ((p_bk_Drum_Mid N r_43.2 1 (IntKind.i64.wrap (r_7.1 - 1))).bind fun r_44 => ((p_bk_Fit N (IntKind.i64.wrap (r_43.1 + r_44.1)) r_7.1).bind fun r_45 => ((pushI b_33 ([(⟨r_43.1, r_45⟩ : T_Street)] : List T_Street)).bind fun l_47 => (rec_34 (IntKind.i64.wrap (i_31 - 1)) r_44.2.beat_ l_47))))) else (k_28 b_32 b_33))) (fun k_38 => (bif (decide (i_31 > 0)) then (k_38 (decide (r_7.1 > 1))) else (k_38 false))))) N r_25.1 r_25.2.beat_ []))))) (fun k_10 => (loop3 (fun rec_16 (i_13 : Int) (b_14 : Int) (b_15 : List Int) => (bif (decide (i_13 < r_7.1)) then ((p_bk_Drum_Roll N (⟨b_14⟩ : T_bk_Drum) 60).bind fun r_20 => ((p_bk_Drum_Roll N r_20.2 150).bind fun r_21 => ((p_bk_Drum_Any N r_21.2 [r_20.1, r_21.1, 500]).bind fun r_22 => ((pushI b_15 ([r_22.1] : List Int)).bind fun l_24 => (rec_16 (IntKind.i64.wrap (i_13 + 1)) r_22.2.beat_ l_24))))) else (k_10 b_14 b_15))) N 0 r_7.2.beat_ []))))))
def v_bk_TownOf (r : T_Town × T_bk_Drum) : AV := (A_Town r.1)
attribute [local simp] v_bk_TownOf
theorem b_bk_TownOf (r : T_Town × T_bk_Drum) (n n2 m : Nat) : back n n2 m (v_bk_TownOf r) = some (v_bk_TownOf r) := by simp
theorem d_bk_TownOf (N : Nat) (d_1 : T_bk_Drum) (squares_2 : Int) (streets_3 : Int) (groups_4 : Int) (r : T_Town × T_bk_Drum) (h : p_bk_TownOf N d_1 squares_2 streets_3 groups_4 = some r) : Does Tryd.prog 54 [.ptr 0 0, i6 squares_2, i6 streets_3, i6 groups_4] [(C_bk_Drum d_1)] fun v c => v = v_bk_TownOf r ∧ c = [(C_bk_Drum r.2)] := by
 unfold p_bk_TownOf at h
 refine Does.ofL comp54 _ _ rfl rfl ?_
 refine Ex.seq (rg 1 [0, 1, 2, 3, 8] (mkS 142 [(0, .ptr 0 0), (1, i6 squares_2), (2, i6 streets_3), (3, i6 groups_4), (8, .ptr 1 0)]) ⟨[(C_bk_Drum d_1), [.nils, .nils, .nils, i6 0]], []⟩ ?_)
 refine Ex.seq ?_
 obtain ⟨r_5, hr_5, h⟩ := bE h
 refine Ex.reg (rn 3 [0, 1, 2, 3, 8, 20, 21, 22] (mkS 142 [(0, .ptr 0 0), (1, i6 squares_2), (2, i6 streets_3), (3, i6 groups_4), (8, .ptr 1 0), (20, .ptr 0 0), (21, .ptr 0 0), (22, .sl (([4, 11] : List Int).map (AV.int .i64)) (some 0))]) ⟨[(C_bk_Drum d_1), [.nils, .nils, .nils, i6 0]], [(2, 1)]⟩ ?_)
 refine ExO.callL [0] [.ptr 0 0, .sl (([4, 11] : List Int).map (AV.int .i64)) (some 0)] rfl rfl (by simp; try rfl) rfl (by simp) (d_bk_Drum_Any N d_1 [4, 11] r_5 hr_5) (b_bk_Drum_Any _ _ _ _) (by simp) ?_
 obtain ⟨r_6, hr_6, h⟩ := bE h
 refine ExO.callL [0] [.ptr 0 0, i6 r_5.1] rfl rfl (by simp; try rfl) rfl (by simp) (d_bk_Drum_Roll N r_5.2 r_5.1 r_6 hr_6) (b_bk_Drum_Roll _ _ _ _) (by simp) ?_
 refine rn 3 [0, 1, 2, 3, 8, 9] (mkS 142 [(0, .ptr 0 0), (1, i6 squares_2), (2, i6 streets_3), (3, i6 groups_4), (8, .ptr 1 0), (9, .ptr 2 0)]) ⟨[(C_bk_Drum r_6.2), [.nils, .nils, .nils, i6 0], [.nils, .nils, .nils, i6 r_6.1]], [(2, 1)]⟩ ?_
 refine ExO.nil ?_
 refine Ex.seq ?_
 obtain ⟨r_7, hr_7, h⟩ := bE h
 refine Ex.reg (rn 2 [0, 2, 3, 8, 9, 26, 27] (mkS 142 [(0, .ptr 0 0), (2, i6 streets_3), (3, i6 groups_4), (8, .ptr 1 0), (9, .ptr 2 0), (26, .ptr 0 0), (27, i6 squares_2)]) ⟨[(C_bk_Drum r_6.2), [.nils, .nils, .nils, i6 0], [.nils, .nils, .nils, i6 r_6.1]], [(2, 1)]⟩ ?_)
 refine ExO.callL [0] [.ptr 0 0, i6 1, i6 squares_2] rfl rfl (by simp; try rfl) rfl (by simp) (d_bk_Drum_Mid N r_6.2 1 squares_2 r_7 hr_7) (b_bk_Drum_Mid _ _ _ _) (by simp) ?_
 refine rn 1 [0, 2, 3, 8, 9, 10] (mkS 142 [(0, .ptr 0 0), (2, i6 streets_3), (3, i6 groups_4), (8, .ptr 1 0), (9, .ptr 2 0), (10, i6 r_7.1)]) ⟨[(C_bk_Drum r_7.2), [.nils, .nils, .nils, i6 0], [.nils, .nils, .nils, i6 r_6.1]], [(2, 1)]⟩ ?_
 refine ExO.nil ?_
 refine Ex.seq (Ex.seq ?_)
 refine rg 1 [0, 2, 3, 8, 9, 10, 11] (mkS 142 [(0, .ptr 0 0), (2, i6 streets_3), (3, i6 groups_4), (8, .ptr 1 0), (9, .ptr 2 0), (10, i6 r_7.1), (11, i6 0)]) ⟨[(C_bk_Drum r_7.2), [.nils, .nils, .nils, i6 0], [.nils, .nils, .nils, i6 r_6.1]], [(2, 1)]⟩ ?_
 obtain ⟨K_11, hK_12, h⟩ := letE h
 refine Ex.blockJ (fun a S => ∃ (b_8 : Int), ∃ (b_9 : List Int), K_11 b_8 b_9 = some r ∧ a = mkS 142 [(0, .ptr 0 0), (2, i6 streets_3), (3, i6 groups_4), (8, .ptr 1 0), (9, .ptr 2 0), (10, i6 r_7.1)] ∧ S = ⟨[[.int .u64 b_8], [.nils, .nils, .nils, i6 0], [.sl (b_9.map (AV.int .i64)) (some 0), .nils, .nils, i6 r_6.1]], [(b_9.length, 1)]⟩) ?_ ?_
 ·refine Ex.forget (nilB 2 0 1 [.nils, .nils, .nils, i6 r_6.1] rfl rfl) ?_
  refine Ex.castA (a2 := mkS 142 [(0, .ptr 0 0), (2, i6 streets_3), (3, i6 groups_4), (8, .ptr 1 0), (9, .ptr 2 0), (10, i6 r_7.1), (11, i6 0)]) (S2 := ⟨[(C_bk_Drum r_7.2), [.nils, .nils, .nils, i6 0], [.sl (([] : List Int).map (AV.int .i64)) (some 1), .nils, .nils, i6 r_6.1]], [(2, 1), (0, 1)]⟩) (by kernel_rfl) (by kernel_rfl) ?_
  obtain ⟨B_17, hB_18, h⟩ := loop3I h
  refine Ex.loopF (fun k a S => ∃ (i_13 : Int), ∃ (b_14 : Int), ∃ (b_15 : List Int), loop3 B_17 k i_13 b_14 b_15 = some r ∧ a = mkS 142 [(0, .ptr 0 0), (2, i6 streets_3), (3, i6 groups_4), (8, .ptr 1 0), (9, .ptr 2 0), (10, i6 r_7.1), (11, i6 i_13)] ∧ S = ⟨[[.int .u64 b_14], [.nils, .nils, .nils, i6 0], [.sl (b_15.map (AV.int .i64)) (some 0), .nils, .nils, i6 r_6.1]], [(b_15.length, 1)]⟩) N ⟨_, _, forgetA (m := 142) 3 [1] [(0, .ptr 0 0), (2, i6 streets_3), (3, i6 groups_4), (8, .ptr 1 0), (9, .ptr 2 0), (10, i6 r_7.1), (11, i6 0)] [(C_bk_Drum r_7.2), [.nils, .nils, .nils, i6 0], [.sl (([] : List Int).map (AV.int .i64)) (some 0), .nils, .nils, i6 r_6.1]] [(0, 1)] (by simp [setAll]) (by simp) ⟨rfl, rfl, rfl, rfl, rfl, rfl, rfl, trivial⟩ (by simp) rfl (by decide), 0, r_7.2.beat_, [], h, rfl, rfl⟩ ?_
  rintro k a S ⟨i_13, b_14, b_15, h, rfl, rfl⟩
  cases k with
  | zero => exact (loop3Z h).elim
  | succ k =>
   replace h := loop3S h hB_18
   refine Ex.seq (Ex.seq ?_)
   refine rg 3 [0, 2, 3, 8, 9, 10, 11, 31] (mkS 142 [(0, .ptr 0 0), (2, i6 streets_3), (3, i6 groups_4), (8, .ptr 1 0), (9, .ptr 2 0), (10, i6 r_7.1), (11, i6 i_13), (31, .bool (decide (i_13 < r_7.1)))]) ⟨[[.int .u64 b_14], [.nils, .nils, .nils, i6 0], [.sl (b_15.map (AV.int .i64)) (some 0), .nils, .nils, i6 r_6.1]], [(b_15.length, 1)]⟩ ?_
   rcases condI h with ⟨hc_19, h⟩ | ⟨hc_19, h⟩
   ·refine Ex.condT _ rfl hc_19 ?_
    refine Ex.skip ?_
    refine Ex.seq ?_
    refine Ex.blockK ?_
    obtain ⟨r_20, hr_20, h⟩ := bE h
    obtain ⟨r_21, hr_21, h⟩ := bE h
    obtain ⟨r_22, hr_22, h⟩ := bE h
    have hT_23 : DoesA Tryd.prog [⟨19, [.ptr 0 0, i6 60], [[.int .u64 b_14]], (v_bk_Drum_Roll r_20), [(C_bk_Drum r_20.2)]⟩, ⟨19, [.ptr 0 0, i6 150], [(C_bk_Drum r_20.2)], (v_bk_Drum_Roll r_21), [(C_bk_Drum r_21.2)]⟩, ⟨36, [.ptr 0 0, .sl (([r_20.1, r_21.1, 500] : List Int).map (AV.int .i64)) none], [(C_bk_Drum r_21.2)], (v_bk_Drum_Any r_22), [(C_bk_Drum r_22.2)]⟩] ∧ ConsA [⟨19, [.ptr 0 0, i6 60], [[.int .u64 b_14]], (v_bk_Drum_Roll r_20), [(C_bk_Drum r_20.2)]⟩, ⟨19, [.ptr 0 0, i6 150], [(C_bk_Drum r_20.2)], (v_bk_Drum_Roll r_21), [(C_bk_Drum r_21.2)]⟩, ⟨36, [.ptr 0 0, .sl (([r_20.1, r_21.1, 500] : List Int).map (AV.int .i64)) none], [(C_bk_Drum r_21.2)], (v_bk_Drum_Any r_22), [(C_bk_Drum r_22.2)]⟩] := ⟨⟨(d_bk_Drum_Roll N (⟨b_14⟩ : T_bk_Drum) 60 r_20 hr_20), rfl, (d_bk_Drum_Roll N r_20.2 150 r_21 hr_21), rfl, (d_bk_Drum_Any N r_21.2 [r_20.1, r_21.1, 500] r_22 hr_22), rfl, trivial⟩, ⟨⟨k_bk_Drum_Roll N (⟨b_14⟩ : T_bk_Drum) 60 r_20.2 150 r_20 r_21 hr_20 hr_21, ConsR.ne rfl, trivial⟩, ⟨ConsR.ne rfl, trivial⟩, trivial, trivial⟩⟩
    refine Ex.drawE (a1 := mkS 142 [(0, .ptr 0 0), (2, i6 streets_3), (3, i6 groups_4), (8, .ptr 1 0), (9, .ptr 2 0), (10, i6 r_7.1), (11, i6 i_13), (31, .bool (decide (i_13 < r_7.1))), (34, .ptr 2 0), (35, .sl (b_15.map (AV.int .i64)) (some 0)), (36, .ptr 0 0), (37, .ptr 0 0), (38, i6 r_20.1), (39, .ptr 0 0), (40, i6 r_21.1), (41, .sl (([r_20.1, r_21.1, 500] : List Int).map (AV.int .i64)) (some 1)), (42, i6 r_22.1), (43, .sl (([r_22.1] : List Int).map (AV.int .i64)) (some 2))]) (tabO_ok hT_23.1) [] [(3, 1), (1, 1)] [⟨[(C_bk_Drum r_20.2), [.nils, .nils, .nils, i6 0], [.sl (b_15.map (AV.int .i64)) (some 0), .nils, .nils, i6 r_6.1]], [(b_15.length, 1), (3, 1), (1, 1)]⟩, ⟨[(C_bk_Drum r_21.2), [.nils, .nils, .nils, i6 0], [.sl (b_15.map (AV.int .i64)) (some 0), .nils, .nils, i6 r_6.1]], [(b_15.length, 1), (3, 1), (1, 1)]⟩, ⟨[(C_bk_Drum r_22.2), [.nils, .nils, .nils, i6 0], [.sl (b_15.map (AV.int .i64)) (some 0), .nils, .nils, i6 r_6.1]], [(b_15.length, 1), (3, 1), (1, 1)]⟩] ?_ ?_
    ·refine drS [1, 2] 4 [] [] (mkS 142 [(0, .ptr 0 0), (2, i6 streets_3), (3, i6 groups_4), (8, .ptr 1 0), (9, .ptr 2 0), (10, i6 r_7.1), (11, i6 i_13), (31, .bool (decide (i_13 < r_7.1))), (34, .ptr 2 0), (35, .sl (b_15.map (AV.int .i64)) (some 0)), (36, .ptr 0 0), (37, .ptr 0 0)]) (by simp) (by kernel_rfl) trivial (by kernel_rfl) ?_
     refine drB hT_23.2 0 _ [0] [.ptr 0 0, i6 60] (v_bk_Drum_Roll r_20) _ _ rfl rfl rfl rfl rfl rfl rfl rfl (by simp; try rfl) rfl (by simp) (b_bk_Drum_Roll _ _ _ _) (by simp) rfl ?_
     refine drS [1, 2] 1 [] [] (mkS 142 [(0, .ptr 0 0), (2, i6 streets_3), (3, i6 groups_4), (8, .ptr 1 0), (9, .ptr 2 0), (10, i6 r_7.1), (11, i6 i_13), (31, .bool (decide (i_13 < r_7.1))), (34, .ptr 2 0), (35, .sl (b_15.map (AV.int .i64)) (some 0)), (36, .ptr 0 0), (37, .ptr 0 0), (38, i6 r_20.1), (39, .ptr 0 0)]) (by simp) (by kernel_rfl) trivial (by kernel_rfl) ?_
     refine drB hT_23.2 1 _ [0] [.ptr 0 0, i6 150] (v_bk_Drum_Roll r_21) _ _ rfl rfl rfl rfl rfl rfl rfl rfl (by simp; try rfl) rfl (by simp) (b_bk_Drum_Roll _ _ _ _) (by simp) rfl ?_
     refine drR 1 1 (([r_20.1, r_21.1, 500] : List Int).map (AV.int .i64)) rfl rfl (fun _ => by kernel_rfl) (by simp) rfl rfl ?_
     refine drB hT_23.2 2 _ [0] [.ptr 0 0, .sl (([r_20.1, r_21.1, 500] : List Int).map (AV.int .i64)) (some 1)] (v_bk_Drum_Any r_22) _ _ rfl rfl rfl rfl rfl rfl rfl rfl (by simp; try rfl) rfl (by simp) (b_bk_Drum_Any _ _ _ _) (by simp) rfl ?_
     refine drR 2 1 (([r_22.1] : List Int).map (AV.int .i64)) rfl rfl (fun _ => by kernel_rfl) (by simp) rfl rfl ?_
     exact DrO.nil rfl
    ·dsimp only [List.getLastD_cons, List.getLastD_nil]
     obtain ⟨l_24, hl_24, h⟩ := bE h
     refine runH 3 [(0, .app (l_24.map (AV.int .i64)) l_24.length)] [0, 2, 3, 8, 9, 10, 11] [LApp b_15.length (b_15.map (AV.int .i64)) (([r_22.1] : List Int).map (AV.int .i64)) 1 (l_24.map (AV.int .i64)) l_24.length] (mkS 142 [(0, .ptr 0 0), (2, i6 streets_3), (3, i6 groups_4), (8, .ptr 1 0), (9, .ptr 2 0), (10, i6 r_7.1), (11, i6 i_13)]) (⟨[(C_bk_Drum r_22.2), [.nils, .nils, .nils, i6 0], [.sl (l_24.map (AV.int .i64)) (some 0), .nils, .nils, i6 r_6.1]], [(l_24.length, 1), (3, 1), (1, 1)]⟩) (by kernel_rfl) ⟨LApp.of hl_24 (fun _ => rfl), trivial⟩ ?_
     refine ExO.nil ?_
     refine rg 3 [0, 2, 3, 8, 9, 10, 11] (mkS 142 [(0, .ptr 0 0), (2, i6 streets_3), (3, i6 groups_4), (8, .ptr 1 0), (9, .ptr 2 0), (10, i6 r_7.1), (11, i6 (IntKind.i64.wrap (i_13 + 1)))]) ⟨[(C_bk_Drum r_22.2), [.nils, .nils, .nils, i6 0], [.sl (l_24.map (AV.int .i64)) (some 0), .nils, .nils, i6 r_6.1]], [(l_24.length, 1), (3, 1), (1, 1)]⟩ ?_
     dsimp only
     exact ⟨_, _, forgetA (m := 142) 3 [0] [(0, .ptr 0 0), (2, i6 streets_3), (3, i6 groups_4), (8, .ptr 1 0), (9, .ptr 2 0), (10, i6 r_7.1), (11, i6 (IntKind.i64.wrap (i_13 + 1)))] [(C_bk_Drum r_22.2), [.nils, .nils, .nils, i6 0], [.sl (l_24.map (AV.int .i64)) (some 0), .nils, .nils, i6 r_6.1]] [(l_24.length, 1)] (by simp [setAll]) (by simp) ⟨rfl, rfl, rfl, rfl, rfl, rfl, rfl, trivial⟩ (by simp) rfl (by decide), k, Nat.lt_succ_self k, (IntKind.i64.wrap (i_13 + 1)), r_22.2.beat_, l_24, h, rfl, rfl⟩
   ·refine Ex.condF _ rfl hc_19 ?_
    refine Ex.exit ?_
    (try simp only [reduceCtorEq, AEx.ex.injEq, Nat.reduceEqDiff, if_true, if_false])
    exact ⟨_, _, forgetK [0, 2, 3, 8, 9, 10], b_14, b_15, h, rfl, rfl⟩
 ·rintro a S ⟨b_8, b_9, h, rfl, rfl⟩
  subst hK_12
  refine Ex.seq (Ex.seq ?_)
  obtain ⟨r_25, hr_25, h⟩ := bE h
  refine Ex.reg (rn 3 [0, 3, 8, 9, 10, 46, 48] (mkS 142 [(0, .ptr 0 0), (3, i6 groups_4), (8, .ptr 1 0), (9, .ptr 2 0), (10, i6 r_7.1), (46, .ptr 0 0), (48, i6 (IntKind.i64.wrap (streets_3 + 1)))]) ⟨[[.int .u64 b_8], [.nils, .nils, .nils, i6 0], [.sl (b_9.map (AV.int .i64)) (some 0), .nils, .nils, i6 r_6.1]], [(b_9.length, 1)]⟩ ?_)
  refine ExO.callL [0] [.ptr 0 0, i6 (IntKind.i64.wrap (streets_3 + 1))] rfl rfl (by simp; try rfl) rfl (by simp) (d_bk_Drum_Roll N (⟨b_8⟩ : T_bk_Drum) (IntKind.i64.wrap (streets_3 + 1)) r_25 hr_25) (b_bk_Drum_Roll _ _ _ _) (by simp) ?_
  refine rn 1 [0, 3, 8, 9, 10, 12] (mkS 142 [(0, .ptr 0 0), (3, i6 groups_4), (8, .ptr 1 0), (9, .ptr 2 0), (10, i6 r_7.1), (12, i6 r_25.1)]) ⟨[(C_bk_Drum r_25.2), [.nils, .nils, .nils, i6 0], [.sl (b_9.map (AV.int .i64)) (some 0), .nils, .nils, i6 r_6.1]], [(b_9.length, 1)]⟩ ?_
  refine ExO.nil ?_
  obtain ⟨K_29, hK_30, h⟩ := letE h
  refine Ex.blockJ (fun a S => ∃ (b_26 : Int), ∃ (b_27 : List T_Street), K_29 b_26 b_27 = some r ∧ a = mkS 142 [(0, .ptr 0 0), (3, i6 groups_4), (8, .ptr 1 0), (9, .ptr 2 0), (10, i6 r_7.1)] ∧ S = ⟨[[.int .u64 b_26], [.nils, .nils, .nils, i6 0], [.sl (b_9.map (AV.int .i64)) (some 0), .sl (b_27.map A_Street) (some 1), .nils, i6 r_6.1]], [(b_9.length, 1), (b_27.length, 2)]⟩) ?_ ?_
  ·refine Ex.forget (nilB 2 1 2 [.sl (b_9.map (AV.int .i64)) (some 0), .nils, .nils, i6 r_6.1] rfl rfl) ?_
   refine Ex.castA (a2 := mkS 142 [(0, .ptr 0 0), (3, i6 groups_4), (8, .ptr 1 0), (9, .ptr 2 0), (10, i6 r_7.1), (12, i6 r_25.1)]) (S2 := ⟨[(C_bk_Drum r_25.2), [.nils, .nils, .nils, i6 0], [.sl (b_9.map (AV.int .i64)) (some 0), .sl (([] : List T_Street).map A_Street) (some 1), .nils, i6 r_6.1]], [(b_9.length, 1), (0, 2)]⟩) (by kernel_rfl) (by kernel_rfl) ?_
   obtain ⟨B_35, hB_36, h⟩ := loop3I h
   refine Ex.loopF (fun k a S => ∃ (i_31 : Int), ∃ (b_32 : Int), ∃ (b_33 : List T_Street), loop3 B_35 k i_31 b_32 b_33 = some r ∧ a = mkS 142 [(0, .ptr 0 0), (3, i6 groups_4), (8, .ptr 1 0), (9, .ptr 2 0), (10, i6 r_7.1), (12, i6 i_31)] ∧ S = ⟨[[.int .u64 b_32], [.nils, .nils, .nils, i6 0], [.sl (b_9.map (AV.int .i64)) (some 0), .sl (b_33.map A_Street) (some 1), .nils, i6 r_6.1]], [(b_9.length, 1), (b_33.length, 2)]⟩) N ⟨_, _, Forgets.refl _ _ _, r_25.1, r_25.2.beat_, [], h, rfl, rfl⟩ ?_
   rintro k a S ⟨i_31, b_32, b_33, h, rfl, rfl⟩
   cases k with
   | zero => exact (loop3Z h).elim
   | succ k =>
    replace h := loop3S h hB_36
    refine Ex.seq ?_
    obtain ⟨K_39, hK_40, h⟩ := letE h
    refine Ex.seqJ (fun a S => ∃ (y_37 : Bool), K_39 y_37 = some r ∧ a = mkS 142 [(0, .ptr 0 0), (3, i6 groups_4), (8, .ptr 1 0), (9, .ptr 2 0), (10, i6 r_7.1), (12, i6 i_31), (55, .bool y_37)] ∧ S = ⟨[[.int .u64 b_32], [.nils, .nils, .nils, i6 0], [.sl (b_9.map (AV.int .i64)) (some 0), .sl (b_33.map A_Street) (some 1), .nils, i6 r_6.1]], [(b_9.length, 1), (b_33.length, 2)]⟩) ?_ ?_
    ·rcases condI h with ⟨hc_41, h⟩ | ⟨hc_41, h⟩
     ·refine regH 6 [(2, .eq (.bool true))] [0, 3, 8, 9, 10, 12, 55] [AV.bool (decide (i_31 > 0)) = AV.bool true] (mkS 142 [(0, .ptr 0 0), (3, i6 groups_4), (8, .ptr 1 0), (9, .ptr 2 0), (10, i6 r_7.1), (12, i6 i_31), (55, .bool (decide (r_7.1 > 1)))]) (⟨[[.int .u64 b_32], [.nils, .nils, .nils, i6 0], [.sl (b_9.map (AV.int .i64)) (some 0), .sl (b_33.map A_Street) (some 1), .nils, i6 r_6.1]], [(b_9.length, 1), (b_33.length, 2)]⟩) (by kernel_rfl) ⟨congrArg AV.bool hc_41, trivial⟩ rfl ?_
      (try simp only [reduceCtorEq, AEx.ex.injEq, Nat.reduceEqDiff, if_true, if_false])
      exact ⟨_, _, Forgets.refl _ _ _, (decide (r_7.1 > 1)), h, rfl, rfl⟩
     ·refine regH 6 [(2, .eq (.bool false))] [0, 3, 8, 9, 10, 12, 55] [AV.bool (decide (i_31 > 0)) = AV.bool false] (mkS 142 [(0, .ptr 0 0), (3, i6 groups_4), (8, .ptr 1 0), (9, .ptr 2 0), (10, i6 r_7.1), (12, i6 i_31), (55, .bool false)]) (⟨[[.int .u64 b_32], [.nils, .nils, .nils, i6 0], [.sl (b_9.map (AV.int .i64)) (some 0), .sl (b_33.map A_Street) (some 1), .nils, i6 r_6.1]], [(b_9.length, 1), (b_33.length, 2)]⟩) (by kernel_rfl) ⟨congrArg AV.bool hc_41, trivial⟩ rfl ?_
      (try simp only [reduceCtorEq, AEx.ex.injEq, Nat.reduceEqDiff, if_true, if_false])
      exact ⟨_, _, Forgets.refl _ _ _, false, h, rfl, rfl⟩
    ·rintro a S ⟨y_37, h, rfl, rfl⟩
     subst hK_40
     rcases condI h with ⟨hc_42, h⟩ | ⟨hc_42, h⟩
     ·refine Ex.condT _ rfl hc_42 ?_
      refine Ex.skip ?_
      refine Ex.seq ?_
      refine Ex.blockK ?_
      refine Ex.seq ?_
      obtain ⟨r_43, hr_43, h⟩ := bE h
      refine Ex.reg (rn 2 [0, 3, 8, 9, 10, 12, 58, 59] (mkS 142 [(0, .ptr 0 0), (3, i6 groups_4), (8, .ptr 1 0), (9, .ptr 2 0), (10, i6 r_7.1), (12, i6 i_31), (58, .ptr 0 0), (59, i6 r_7.1)]) ⟨[[.int .u64 b_32], [.nils, .nils, .nils, i6 0], [.sl (b_9.map (AV.int .i64)) (some 0), .sl (b_33.map A_Street) (some 1), .nils, i6 r_6.1]], [(b_9.length, 1), (b_33.length, 2)]⟩ ?_)
      refine ExO.callL [0] [.ptr 0 0, i6 r_7.1] rfl rfl (by simp; try rfl) rfl (by simp) (d_bk_Drum_Roll N (⟨b_32⟩ : T_bk_Drum) r_7.1 r_43 hr_43) (b_bk_Drum_Roll _ _ _ _) (by simp) ?_
      refine rn 1 [0, 3, 8, 9, 10, 12, 13] (mkS 142 [(0, .ptr 0 0), (3, i6 groups_4), (8, .ptr 1 0), (9, .ptr 2 0), (10, i6 r_7.1), (12, i6 i_31), (13, i6 r_43.1)]) ⟨[(C_bk_Drum r_43.2), [.nils, .nils, .nils, i6 0], [.sl (b_9.map (AV.int .i64)) (some 0), .sl (b_33.map A_Street) (some 1), .nils, i6 r_6.1]], [(b_9.length, 1), (b_33.length, 2)]⟩ ?_
      refine ExO.nil ?_
      obtain ⟨r_44, hr_44, h⟩ := bE h
      obtain ⟨r_45, hr_45, h⟩ := bE h
      have hT_46 : DoesA Tryd.prog [⟨55, [.ptr 0 0, i6 1, i6 (IntKind.i64.wrap (r_7.1 - 1))], [(C_bk_Drum r_43.2)], (v_bk_Drum_Mid r_44), [(C_bk_Drum r_44.2)]⟩, ⟨84, [i6 (IntKind.i64.wrap (r_43.1 + r_44.1)), i6 r_7.1], [], (v_bk_Fit r_45), []⟩] ∧ ConsA [⟨55, [.ptr 0 0, i6 1, i6 (IntKind.i64.wrap (r_7.1 - 1))], [(C_bk_Drum r_43.2)], (v_bk_Drum_Mid r_44), [(C_bk_Drum r_44.2)]⟩, ⟨84, [i6 (IntKind.i64.wrap (r_43.1 + r_44.1)), i6 r_7.1], [], (v_bk_Fit r_45), []⟩] := ⟨⟨(d_bk_Drum_Mid N r_43.2 1 (IntKind.i64.wrap (r_7.1 - 1)) r_44 hr_44), rfl, (d_bk_Fit N (IntKind.i64.wrap (r_43.1 + r_44.1)) r_7.1 r_45 hr_45), rfl, trivial⟩, ⟨⟨ConsR.ne rfl, trivial⟩, trivial, trivial⟩⟩
      refine Ex.drawE (a1 := mkS 142 [(0, .ptr 0 0), (3, i6 groups_4), (8, .ptr 1 0), (9, .ptr 2 0), (10, i6 r_7.1), (12, i6 i_31), (13, i6 r_43.1), (61, .ptr 2 1), (62, .sl (b_33.map A_Street) (some 1)), (63, i6 r_43.1), (64, i6 r_43.1), (65, .ptr 0 0), (66, i6 r_7.1), (67, i6 (IntKind.i64.wrap (r_7.1 - 1))), (68, i6 r_44.1), (69, i6 (IntKind.i64.wrap (r_43.1 + r_44.1))), (70, i6 r_7.1), (71, i6 r_45), (72, .agg [i6 r_43.1, i6 r_45]), (73, .sl (([(⟨r_43.1, r_45⟩ : T_Street)] : List T_Street).map A_Street) (some 2))]) (tabO_ok hT_46.1) [] [(1, 2)] [⟨[(C_bk_Drum r_44.2), [.nils, .nils, .nils, i6 0], [.sl (b_9.map (AV.int .i64)) (some 0), .sl (b_33.map A_Street) (some 1), .nils, i6 r_6.1]], [(b_9.length, 1), (b_33.length, 2), (1, 2)]⟩] ?_ ?_
      ·refine drS [1, 2] 7 [] [] (mkS 142 [(0, .ptr 0 0), (3, i6 groups_4), (8, .ptr 1 0), (9, .ptr 2 0), (10, i6 r_7.1), (12, i6 i_31), (13, i6 r_43.1), (61, .ptr 2 1), (62, .sl (b_33.map A_Street) (some 1)), (63, i6 r_43.1), (64, i6 r_43.1), (65, .ptr 0 0), (66, i6 r_7.1), (67, i6 (IntKind.i64.wrap (r_7.1 - 1)))]) (by simp) (by kernel_rfl) trivial (by kernel_rfl) ?_
       refine drB hT_46.2 0 _ [0] [.ptr 0 0, i6 1, i6 (IntKind.i64.wrap (r_7.1 - 1))] (v_bk_Drum_Mid r_44) _ _ rfl rfl rfl rfl rfl rfl rfl rfl (by simp; try rfl) rfl (by simp) (b_bk_Drum_Mid _ _ _ _) (by simp) rfl ?_
       refine drS [1, 2] 2 [] [] (mkS 142 [(0, .ptr 0 0), (3, i6 groups_4), (8, .ptr 1 0), (9, .ptr 2 0), (10, i6 r_7.1), (12, i6 i_31), (13, i6 r_43.1), (61, .ptr 2 1), (62, .sl (b_33.map A_Street) (some 1)), (63, i6 r_43.1), (64, i6 r_43.1), (65, .ptr 0 0), (66, i6 r_7.1), (67, i6 (IntKind.i64.wrap (r_7.1 - 1))), (68, i6 r_44.1), (69, i6 (IntKind.i64.wrap (r_43.1 + r_44.1))), (70, i6 r_7.1)]) (by simp) (by kernel_rfl) trivial (by kernel_rfl) ?_
       refine drC hT_46.2 1 _ [i6 (IntKind.i64.wrap (r_43.1 + r_44.1)), i6 r_7.1] (v_bk_Fit r_45) rfl rfl rfl rfl rfl (fun _ => rfl) rfl (by simp; try rfl) (fun _ => b_bk_Fit _ _ _ _) ?_
       refine drS [1, 2] 1 [] [] (mkS 142 [(0, .ptr 0 0), (3, i6 groups_4), (8, .ptr 1 0), (9, .ptr 2 0), (10, i6 r_7.1), (12, i6 i_31), (13, i6 r_43.1), (61, .ptr 2 1), (62, .sl (b_33.map A_Street) (some 1)), (63, i6 r_43.1), (64, i6 r_43.1), (65, .ptr 0 0), (66, i6 r_7.1), (67, i6 (IntKind.i64.wrap (r_7.1 - 1))), (68, i6 r_44.1), (69, i6 (IntKind.i64.wrap (r_43.1 + r_44.1))), (70, i6 r_7.1), (71, i6 r_45), (72, .agg [i6 r_43.1, i6 r_45])]) (by simp) (by kernel_rfl) trivial (by kernel_rfl) ?_
       refine drR 2 2 (([(⟨r_43.1, r_45⟩ : T_Street)] : List T_Street).map A_Street) rfl rfl (fun _ => by kernel_rfl) (by simp) rfl rfl ?_
       exact DrO.nil rfl
      ·dsimp only [List.getLastD_cons, List.getLastD_nil]
       obtain ⟨l_47, hl_47, h⟩ := bE h
       refine runH 3 [(0, .app (l_47.map A_Street) l_47.length)] [0, 3, 8, 9, 10, 12] [LApp b_33.length (b_33.map A_Street) (([(⟨r_43.1, r_45⟩ : T_Street)] : List T_Street).map A_Street) 2 (l_47.map A_Street) l_47.length] (mkS 142 [(0, .ptr 0 0), (3, i6 groups_4), (8, .ptr 1 0), (9, .ptr 2 0), (10, i6 r_7.1), (12, i6 i_31)]) (⟨[(C_bk_Drum r_44.2), [.nils, .nils, .nils, i6 0], [.sl (b_9.map (AV.int .i64)) (some 0), .sl (l_47.map A_Street) (some 1), .nils, i6 r_6.1]], [(b_9.length, 1), (l_47.length, 2), (1, 2)]⟩) (by kernel_rfl) ⟨LApp.of hl_47 (fun _ => rfl), trivial⟩ ?_
       refine ExO.nil ?_
       refine rg 3 [0, 3, 8, 9, 10, 12] (mkS 142 [(0, .ptr 0 0), (3, i6 groups_4), (8, .ptr 1 0), (9, .ptr 2 0), (10, i6 r_7.1), (12, i6 (IntKind.i64.wrap (i_31 - 1)))]) ⟨[(C_bk_Drum r_44.2), [.nils, .nils, .nils, i6 0], [.sl (b_9.map (AV.int .i64)) (some 0), .sl (l_47.map A_Street) (some 1), .nils, i6 r_6.1]], [(b_9.length, 1), (l_47.length, 2), (1, 2)]⟩ ?_
       dsimp only
       exact ⟨_, _, forgetA (m := 142) 3 [0, 1] [(0, .ptr 0 0), (3, i6 groups_4), (8, .ptr 1 0), (9, .ptr 2 0), (10, i6 r_7.1), (12, i6 (IntKind.i64.wrap (i_31 - 1)))] [(C_bk_Drum r_44.2), [.nils, .nils, .nils, i6 0], [.sl (b_9.map (AV.int .i64)) (some 0), .sl (l_47.map A_Street) (some 1), .nils, i6 r_6.1]] [(b_9.length, 1), (l_47.length, 2)] (by simp [setAll]) (by simp) ⟨rfl, rfl, rfl, rfl, rfl, rfl, trivial⟩ (by simp) rfl (by decide), k, Nat.lt_succ_self k, (IntKind.i64.wrap (i_31 - 1)), r_44.2.beat_, l_47, h, rfl, rfl⟩
     ·refine Ex.condF _ rfl hc_42 ?_
      refine Ex.exit ?_
      (try simp only [reduceCtorEq, AEx.ex.injEq, Nat.reduceEqDiff, if_true, if_false])
      exact ⟨_, _, forgetK [0, 3, 8, 9, 10], b_32, b_33, h, rfl, rfl⟩
  ·rintro a S ⟨b_26, b_27, h, rfl, rfl⟩
   subst hK_30
   refine Ex.seq (Ex.seq ?_)
   obtain ⟨r_48, hr_48, h⟩ := bE h
   refine Ex.reg (rn 3 [0, 8, 9, 10, 76, 78] (mkS 142 [(0, .ptr 0 0), (8, .ptr 1 0), (9, .ptr 2 0), (10, i6 r_7.1), (76, .ptr 0 0), (78, i6 (IntKind.i64.wrap (groups_4 + 1)))]) ⟨[[.int .u64 b_26], [.nils, .nils, .nils, i6 0], [.sl (b_9.map (AV.int .i64)) (some 0), .sl (b_27.map A_Street) (some 1), .nils, i6 r_6.1]], [(b_9.length, 1), (b_27.length, 2)]⟩ ?_)
   refine ExO.callL [0] [.ptr 0 0, i6 (IntKind.i64.wrap (groups_4 + 1))] rfl rfl (by simp; try rfl) rfl (by simp) (d_bk_Drum_Roll N (⟨b_26⟩ : T_bk_Drum) (IntKind.i64.wrap (groups_4 + 1)) r_48 hr_48) (b_bk_Drum_Roll _ _ _ _) (by simp) ?_
   refine rn 1 [0, 8, 9, 10, 14] (mkS 142 [(0, .ptr 0 0), (8, .ptr 1 0), (9, .ptr 2 0), (10, i6 r_7.1), (14, i6 r_48.1)]) ⟨[(C_bk_Drum r_48.2), [.nils, .nils, .nils, i6 0], [.sl (b_9.map (AV.int .i64)) (some 0), .sl (b_27.map A_Street) (some 1), .nils, i6 r_6.1]], [(b_9.length, 1), (b_27.length, 2)]⟩ ?_
   refine ExO.nil ?_
   obtain ⟨K_52, hK_53, h⟩ := letE h
   refine Ex.blockJ (fun a S => ∃ (b_49 : Int), ∃ (b_50 : List T_Group), K_52 b_49 b_50 = some r ∧ a = mkS 142 [(8, .ptr 1 0), (9, .ptr 2 0)] ∧ S = ⟨[[.int .u64 b_49], [.nils, .nils, .nils, i6 0], [.sl (b_9.map (AV.int .i64)) (some 0), .sl (b_27.map A_Street) (some 1), .sl (b_50.map A_Group) (some 2), i6 r_6.1]], [(b_9.length, 1), (b_27.length, 2), (b_50.length, 7)]⟩) ?_ ?_
   ·refine Ex.forget (nilB 2 2 7 [.sl (b_9.map (AV.int .i64)) (some 0), .sl (b_27.map A_Street) (some 1), .nils, i6 r_6.1] rfl rfl) ?_
    refine Ex.castA (a2 := mkS 142 [(0, .ptr 0 0), (8, .ptr 1 0), (9, .ptr 2 0), (10, i6 r_7.1), (14, i6 r_48.1)]) (S2 := ⟨[(C_bk_Drum r_48.2), [.nils, .nils, .nils, i6 0], [.sl (b_9.map (AV.int .i64)) (some 0), .sl (b_27.map A_Street) (some 1), .sl (([] : List T_Group).map A_Group) (some 2), i6 r_6.1]], [(b_9.length, 1), (b_27.length, 2), (0, 7)]⟩) (by kernel_rfl) (by kernel_rfl) ?_
    obtain ⟨B_58, hB_59, h⟩ := loop3I h
    refine Ex.loopF (fun k a S => ∃ (i_54 : Int), ∃ (b_55 : Int), ∃ (b_56 : List T_Group), loop3 B_58 k i_54 b_55 b_56 = some r ∧ a = mkS 142 [(0, .ptr 0 0), (8, .ptr 1 0), (9, .ptr 2 0), (10, i6 r_7.1), (14, i6 i_54)] ∧ S = ⟨[[.int .u64 b_55], [.nils, .nils, .nils, i6 0], [.sl (b_9.map (AV.int .i64)) (some 0), .sl (b_27.map A_Street) (some 1), .sl (b_56.map A_Group) (some 2), i6 r_6.1]], [(b_9.length, 1), (b_27.length, 2), (b_56.length, 7)]⟩) N ⟨_, _, Forgets.refl _ _ _, r_48.1, r_48.2.beat_, [], h, rfl, rfl⟩ ?_
    rintro k a S ⟨i_54, b_55, b_56, h, rfl, rfl⟩
    cases k with
    | zero => exact (loop3Z h).elim
    | succ k =>
     replace h := loop3S h hB_59
     refine Ex.seq (Ex.seq ?_)
     refine rg 2 [0, 8, 9, 10, 14, 81] (mkS 142 [(0, .ptr 0 0), (8, .ptr 1 0), (9, .ptr 2 0), (10, i6 r_7.1), (14, i6 i_54), (81, .bool (decide (i_54 > 0)))]) ⟨[[.int .u64 b_55], [.nils, .nils, .nils, i6 0], [.sl (b_9.map (AV.int .i64)) (some 0), .sl (b_27.map A_Street) (some 1), .sl (b_56.map A_Group) (some 2), i6 r_6.1]], [(b_9.length, 1), (b_27.length, 2), (b_56.length, 7)]⟩ ?_
     rcases condI h with ⟨hc_60, h⟩ | ⟨hc_60, h⟩
     ·refine Ex.condT _ rfl hc_60 ?_
      refine Ex.skip ?_
      refine Ex.seq ?_
      refine Ex.blockK ?_
      refine Ex.seq ?_
      obtain ⟨r_61, hr_61, h⟩ := bE h
      refine Ex.reg (rn 3 [0, 8, 9, 10, 14, 84, 85, 86] (mkS 142 [(0, .ptr 0 0), (8, .ptr 1 0), (9, .ptr 2 0), (10, i6 r_7.1), (14, i6 i_54), (84, .ptr 0 0), (85, .ptr 0 0), (86, .sl (([30, 90] : List Int).map (AV.int .i64)) (some 3))]) ⟨[[.int .u64 b_55], [.nils, .nils, .nils, i6 0], [.sl (b_9.map (AV.int .i64)) (some 0), .sl (b_27.map A_Street) (some 1), .sl (b_56.map A_Group) (some 2), i6 r_6.1]], [(b_9.length, 1), (b_27.length, 2), (b_56.length, 7), (2, 1)]⟩ ?_)
      refine ExO.callL [0] [.ptr 0 0, .sl (([30, 90] : List Int).map (AV.int .i64)) (some 3)] rfl rfl (by simp; try rfl) rfl (by simp) (d_bk_Drum_Any N (⟨b_55⟩ : T_bk_Drum) [30, 90] r_61 hr_61) (b_bk_Drum_Any _ _ _ _) (by simp) ?_
      obtain ⟨r_62, hr_62, h⟩ := bE h
      refine ExO.callL [0] [.ptr 0 0, i6 0, i6 r_61.1] rfl rfl (by simp; try rfl) rfl (by simp) (d_bk_Drum_Span N r_61.2 0 r_61.1 r_62 hr_62) (b_bk_Drum_Span _ _ _ _) (by simp) ?_
      obtain ⟨r_63, hr_63, h⟩ := bE h
      refine rn 3 [0, 8, 9, 10, 14, 88, 89, 90, 91] (mkS 142 [(0, .ptr 0 0), (8, .ptr 1 0), (9, .ptr 2 0), (10, i6 r_7.1), (14, i6 i_54), (88, (A_Span r_62.1)), (89, .ptr 0 0), (90, .ptr 0 0), (91, .sl (([0, 4] : List Int).map (AV.int .i64)) (some 4))]) ⟨[(C_bk_Drum r_62.2), [.nils, .nils, .nils, i6 0], [.sl (b_9.map (AV.int .i64)) (some 0), .sl (b_27.map A_Street) (some 1), .sl (b_56.map A_Group) (some 2), i6 r_6.1]], [(b_9.length, 1), (b_27.length, 2), (b_56.length, 7), (2, 1), (2, 1)]⟩ ?_
      refine ExO.callL [0] [.ptr 0 0, .sl (([0, 4] : List Int).map (AV.int .i64)) (some 4)] rfl rfl (by simp; try rfl) rfl (by simp) (d_bk_Drum_Any N r_62.2 [0, 4] r_63 hr_63) (b_bk_Drum_Any _ _ _ _) (by simp) ?_
      obtain ⟨r_64, hr_64, h⟩ := bE h
      refine ExO.callL [0] [.ptr 0 0, i6 0, i6 r_63.1] rfl rfl (by simp; try rfl) rfl (by simp) (d_bk_Drum_Span N r_63.2 0 r_63.1 r_64 hr_64) (b_bk_Drum_Span _ _ _ _) (by simp) ?_
      obtain ⟨r_65, hr_65, h⟩ := bE h
      refine rn 1 [0, 8, 9, 10, 14, 88, 93, 94] (mkS 142 [(0, .ptr 0 0), (8, .ptr 1 0), (9, .ptr 2 0), (10, i6 r_7.1), (14, i6 i_54), (88, (A_Span r_62.1)), (93, (A_Span r_64.1)), (94, .ptr 0 0)]) ⟨[(C_bk_Drum r_64.2), [.nils, .nils, .nils, i6 0], [.sl (b_9.map (AV.int .i64)) (some 0), .sl (b_27.map A_Street) (some 1), .sl (b_56.map A_Group) (some 2), i6 r_6.1]], [(b_9.length, 1), (b_27.length, 2), (b_56.length, 7), (2, 1), (2, 1)]⟩ ?_
      refine ExO.callL [0] [.ptr 0 0, i6 1, i6 4] rfl rfl (by simp; try rfl) rfl (by simp) (d_bk_Drum_Mid N r_64.2 1 4 r_65 hr_65) (b_bk_Drum_Mid _ _ _ _) (by simp) ?_
      obtain ⟨r_66, hr_66, h⟩ := bE h
      refine rn 2 [0, 8, 9, 10, 14, 88, 93, 95, 96, 97] (mkS 142 [(0, .ptr 0 0), (8, .ptr 1 0), (9, .ptr 2 0), (10, i6 r_7.1), (14, i6 i_54), (88, (A_Span r_62.1)), (93, (A_Span r_64.1)), (95, i6 r_65.1), (96, .ptr 0 0), (97, i6 r_7.1)]) ⟨[(C_bk_Drum r_65.2), [.nils, .nils, .nils, i6 0], [.sl (b_9.map (AV.int .i64)) (some 0), .sl (b_27.map A_Street) (some 1), .sl (b_56.map A_Group) (some 2), i6 r_6.1]], [(b_9.length, 1), (b_27.length, 2), (b_56.length, 7), (2, 1), (2, 1)]⟩ ?_
      refine ExO.callL [0] [.ptr 0 0, i6 r_7.1] rfl rfl (by simp; try rfl) rfl (by simp) (d_bk_Drum_Roll N r_65.2 r_7.1 r_66 hr_66) (b_bk_Drum_Roll _ _ _ _) (by simp) ?_
      refine rn 3 [0, 8, 9, 10, 14, 15] (mkS 142 [(0, .ptr 0 0), (8, .ptr 1 0), (9, .ptr 2 0), (10, i6 r_7.1), (14, i6 i_54), (15, .ptr 3 0)]) ⟨[(C_bk_Drum r_66.2), [.nils, .nils, .nils, i6 0], [.sl (b_9.map (AV.int .i64)) (some 0), .sl (b_27.map A_Street) (some 1), .sl (b_56.map A_Group) (some 2), i6 r_6.1], [i6 r_62.1.Lo, i6 r_62.1.Hi, i6 r_64.1.Lo, i6 r_64.1.Hi, i6 r_65.1, i6 r_66.1, .nils]], [(b_9.length, 1), (b_27.length, 2), (b_56.length, 7), (2, 1), (2, 1)]⟩ ?_
      refine ExO.nil ?_
      refine Ex.seq (rg 3 [0, 8, 9, 10, 14, 15, 16] (mkS 142 [(0, .ptr 0 0), (8, .ptr 1 0), (9, .ptr 2 0), (10, i6 r_7.1), (14, i6 i_54), (15, .ptr 3 0), (16, i6 r_66.1)]) ⟨[(C_bk_Drum r_66.2), [.nils, .nils, .nils, i6 0], [.sl (b_9.map (AV.int .i64)) (some 0), .sl (b_27.map A_Street) (some 1), .sl (b_56.map A_Group) (some 2), i6 r_6.1], [i6 r_62.1.Lo, i6 r_62.1.Hi, i6 r_64.1.Lo, i6 r_64.1.Hi, i6 r_65.1, i6 r_66.1, .nils]], [(b_9.length, 1), (b_27.length, 2), (b_56.length, 7), (2, 1), (2, 1)]⟩ ?_)
      refine Ex.seq (Ex.seq ?_)
      obtain ⟨r_67, hr_67, h⟩ := bE h
      refine Ex.reg (rn 1 [0, 8, 9, 10, 14, 15, 16, 102] (mkS 142 [(0, .ptr 0 0), (8, .ptr 1 0), (9, .ptr 2 0), (10, i6 r_7.1), (14, i6 i_54), (15, .ptr 3 0), (16, i6 r_66.1), (102, .ptr 0 0)]) ⟨[(C_bk_Drum r_66.2), [.nils, .nils, .nils, i6 0], [.sl (b_9.map (AV.int .i64)) (some 0), .sl (b_27.map A_Street) (some 1), .sl (b_56.map A_Group) (some 2), i6 r_6.1], [i6 r_62.1.Lo, i6 r_62.1.Hi, i6 r_64.1.Lo, i6 r_64.1.Hi, i6 r_65.1, i6 r_66.1, .nils]], [(b_9.length, 1), (b_27.length, 2), (b_56.length, 7), (2, 1), (2, 1)]⟩ ?_)
      refine ExO.callL [0] [.ptr 0 0, i6 5] rfl rfl (by simp; try rfl) rfl (by simp) (d_bk_Drum_Roll N r_66.2 5 r_67 hr_67) (b_bk_Drum_Roll _ _ _ _) (by simp) ?_
      refine rn 1 [0, 8, 9, 10, 14, 15, 16, 17] (mkS 142 [(0, .ptr 0 0), (8, .ptr 1 0), (9, .ptr 2 0), (10, i6 r_7.1), (14, i6 i_54), (15, .ptr 3 0), (16, i6 r_66.1), (17, i6 r_67.1)]) ⟨[(C_bk_Drum r_67.2), [.nils, .nils, .nils, i6 0], [.sl (b_9.map (AV.int .i64)) (some 0), .sl (b_27.map A_Street) (some 1), .sl (b_56.map A_Group) (some 2), i6 r_6.1], [i6 r_62.1.Lo, i6 r_62.1.Hi, i6 r_64.1.Lo, i6 r_64.1.Hi, i6 r_65.1, i6 r_66.1, .nils]], [(b_9.length, 1), (b_27.length, 2), (b_56.length, 7), (2, 1), (2, 1)]⟩ ?_
      refine ExO.nil ?_
      obtain ⟨K_71, hK_72, h⟩ := letE h
      refine Ex.blockJ (fun a S => ∃ (b_68 : Int), ∃ (b_69 : List Int), K_71 b_68 b_69 = some r ∧ a = mkS 142 [(0, .ptr 0 0), (8, .ptr 1 0), (9, .ptr 2 0), (10, i6 r_7.1), (14, i6 i_54), (15, .ptr 3 0)] ∧ S = ⟨[[.int .u64 b_68], [.nils, .nils, .nils, i6 0], [.sl (b_9.map (AV.int .i64)) (some 0), .sl (b_27.map A_Street) (some 1), .sl (b_56.map A_Group) (some 2), i6 r_6.1], [i6 r_62.1.Lo, i6 r_62.1.Hi, i6 r_64.1.Lo, i6 r_64.1.Hi, i6 r_65.1, i6 r_66.1, .sl (b_69.map (AV.int .i64)) (some 3)]], [(b_9.length, 1), (b_27.length, 2), (b_56.length, 7), (b_69.length, 1)]⟩) ?_ ?_
      ·refine Ex.forget (nilB 3 6 1 [i6 r_62.1.Lo, i6 r_62.1.Hi, i6 r_64.1.Lo, i6 r_64.1.Hi, i6 r_65.1, i6 r_66.1, .nils] rfl rfl) ?_
       refine Ex.castA (a2 := mkS 142 [(0, .ptr 0 0), (8, .ptr 1 0), (9, .ptr 2 0), (10, i6 r_7.1), (14, i6 i_54), (15, .ptr 3 0), (16, i6 r_66.1), (17, i6 r_67.1)]) (S2 := ⟨[(C_bk_Drum r_67.2), [.nils, .nils, .nils, i6 0], [.sl (b_9.map (AV.int .i64)) (some 0), .sl (b_27.map A_Street) (some 1), .sl (b_56.map A_Group) (some 2), i6 r_6.1], [i6 r_62.1.Lo, i6 r_62.1.Hi, i6 r_64.1.Lo, i6 r_64.1.Hi, i6 r_65.1, i6 r_66.1, .sl (([] : List Int).map (AV.int .i64)) (some 5)]], [(b_9.length, 1), (b_27.length, 2), (b_56.length, 7), (2, 1), (2, 1), (0, 1)]⟩) (by kernel_rfl) (by kernel_rfl) ?_
       obtain ⟨B_78, hB_79, h⟩ := loop4I h
       refine Ex.loopF (fun k a S => ∃ (at_73 : Int), ∃ (k_74 : Int), ∃ (b_75 : Int), ∃ (b_76 : List Int), loop4 B_78 k at_73 k_74 b_75 b_76 = some r ∧ a = mkS 142 [(0, .ptr 0 0), (8, .ptr 1 0), (9, .ptr 2 0), (10, i6 r_7.1), (14, i6 i_54), (15, .ptr 3 0), (16, i6 at_73), (17, i6 k_74)] ∧ S = ⟨[[.int .u64 b_75], [.nils, .nils, .nils, i6 0], [.sl (b_9.map (AV.int .i64)) (some 0), .sl (b_27.map A_Street) (some 1), .sl (b_56.map A_Group) (some 2), i6 r_6.1], [i6 r_62.1.Lo, i6 r_62.1.Hi, i6 r_64.1.Lo, i6 r_64.1.Hi, i6 r_65.1, i6 r_66.1, .sl (b_76.map (AV.int .i64)) (some 3)]], [(b_9.length, 1), (b_27.length, 2), (b_56.length, 7), (b_76.length, 1)]⟩) N ⟨_, _, forgetA (m := 142) 4 [0, 1, 2, 5] [(0, .ptr 0 0), (8, .ptr 1 0), (9, .ptr 2 0), (10, i6 r_7.1), (14, i6 i_54), (15, .ptr 3 0), (16, i6 r_66.1), (17, i6 r_67.1)] [(C_bk_Drum r_67.2), [.nils, .nils, .nils, i6 0], [.sl (b_9.map (AV.int .i64)) (some 0), .sl (b_27.map A_Street) (some 1), .sl (b_56.map A_Group) (some 2), i6 r_6.1], [i6 r_62.1.Lo, i6 r_62.1.Hi, i6 r_64.1.Lo, i6 r_64.1.Hi, i6 r_65.1, i6 r_66.1, .sl (([] : List Int).map (AV.int .i64)) (some 3)]] [(b_9.length, 1), (b_27.length, 2), (b_56.length, 7), (0, 1)] (by simp [setAll]) (by simp) ⟨rfl, rfl, rfl, rfl, rfl, rfl, rfl, rfl, trivial⟩ (by simp) rfl (by decide), r_66.1, r_67.1, r_67.2.beat_, [], h, rfl, rfl⟩ ?_
       rintro k a S ⟨at_73, k_74, b_75, b_76, h, rfl, rfl⟩
       cases k with
       | zero => exact (loop4Z h).elim
       | succ k =>
        replace h := loop4S h hB_79
        refine Ex.seq ?_
        obtain ⟨K_82, hK_83, h⟩ := letE h
        refine Ex.seqJ (fun a S => ∃ (y_80 : Bool), K_82 y_80 = some r ∧ a = mkS 142 [(0, .ptr 0 0), (8, .ptr 1 0), (9, .ptr 2 0), (10, i6 r_7.1), (14, i6 i_54), (15, .ptr 3 0), (16, i6 at_73), (17, i6 k_74), (111, .bool y_80)] ∧ S = ⟨[[.int .u64 b_75], [.nils, .nils, .nils, i6 0], [.sl (b_9.map (AV.int .i64)) (some 0), .sl (b_27.map A_Street) (some 1), .sl (b_56.map A_Group) (some 2), i6 r_6.1], [i6 r_62.1.Lo, i6 r_62.1.Hi, i6 r_64.1.Lo, i6 r_64.1.Hi, i6 r_65.1, i6 r_66.1, .sl (b_76.map (AV.int .i64)) (some 3)]], [(b_9.length, 1), (b_27.length, 2), (b_56.length, 7), (b_76.length, 1)]⟩) ?_ ?_
        ·rcases condI h with ⟨hc_84, h⟩ | ⟨hc_84, h⟩
         ·refine regH 8 [(2, .eq (.bool true)), (5, .eq (i6 ((b_27.length : Nat) : Int)))] [0, 8, 9, 10, 14, 15, 16, 17, 111] [AV.bool (decide (k_74 > 0)) = AV.bool true, AV.int .i64 (((b_27.map A_Street).length : Nat) : Int) = AV.int .i64 ((b_27.length : Nat) : Int)] (mkS 142 [(0, .ptr 0 0), (8, .ptr 1 0), (9, .ptr 2 0), (10, i6 r_7.1), (14, i6 i_54), (15, .ptr 3 0), (16, i6 at_73), (17, i6 k_74), (111, .bool (decide (((b_27.length : Nat) : Int) > 0)))]) (⟨[[.int .u64 b_75], [.nils, .nils, .nils, i6 0], [.sl (b_9.map (AV.int .i64)) (some 0), .sl (b_27.map A_Street) (some 1), .sl (b_56.map A_Group) (some 2), i6 r_6.1], [i6 r_62.1.Lo, i6 r_62.1.Hi, i6 r_64.1.Lo, i6 r_64.1.Hi, i6 r_65.1, i6 r_66.1, .sl (b_76.map (AV.int .i64)) (some 3)]], [(b_9.length, 1), (b_27.length, 2), (b_56.length, 7), (b_76.length, 1)]⟩) (by kernel_rfl) ⟨congrArg AV.bool hc_84, lenM _ _, trivial⟩ rfl ?_
          (try simp only [reduceCtorEq, AEx.ex.injEq, Nat.reduceEqDiff, if_true, if_false])
          exact ⟨_, _, Forgets.refl _ _ _, (decide (((b_27.length : Nat) : Int) > 0)), h, rfl, rfl⟩
         ·refine regH 8 [(2, .eq (.bool false))] [0, 8, 9, 10, 14, 15, 16, 17, 111] [AV.bool (decide (k_74 > 0)) = AV.bool false] (mkS 142 [(0, .ptr 0 0), (8, .ptr 1 0), (9, .ptr 2 0), (10, i6 r_7.1), (14, i6 i_54), (15, .ptr 3 0), (16, i6 at_73), (17, i6 k_74), (111, .bool false)]) (⟨[[.int .u64 b_75], [.nils, .nils, .nils, i6 0], [.sl (b_9.map (AV.int .i64)) (some 0), .sl (b_27.map A_Street) (some 1), .sl (b_56.map A_Group) (some 2), i6 r_6.1], [i6 r_62.1.Lo, i6 r_62.1.Hi, i6 r_64.1.Lo, i6 r_64.1.Hi, i6 r_65.1, i6 r_66.1, .sl (b_76.map (AV.int .i64)) (some 3)]], [(b_9.length, 1), (b_27.length, 2), (b_56.length, 7), (b_76.length, 1)]⟩) (by kernel_rfl) ⟨congrArg AV.bool hc_84, trivial⟩ rfl ?_
          (try simp only [reduceCtorEq, AEx.ex.injEq, Nat.reduceEqDiff, if_true, if_false])
          exact ⟨_, _, Forgets.refl _ _ _, false, h, rfl, rfl⟩
        ·rintro a S ⟨y_80, h, rfl, rfl⟩
         subst hK_83
         rcases condI h with ⟨hc_85, h⟩ | ⟨hc_85, h⟩
         ·refine Ex.condT _ rfl hc_85 ?_
          refine Ex.skip ?_
          refine Ex.seq ?_
          obtain ⟨K_90, hK_91, h⟩ := letE h
          refine Ex.blockJ (fun a S => ∃ (at_86 : Int), ∃ (b_87 : Int), ∃ (b_88 : List Int), K_90 at_86 b_87 b_88 = some r ∧ a = mkS 142 [(0, .ptr 0 0), (8, .ptr 1 0), (9, .ptr 2 0), (10, i6 r_7.1), (14, i6 i_54), (15, .ptr 3 0), (16, i6 at_86), (17, i6 k_74)] ∧ S = ⟨[[.int .u64 b_87], [.nils, .nils, .nils, i6 0], [.sl (b_9.map (AV.int .i64)) (some 0), .sl (b_27.map A_Street) (some 1), .sl (b_56.map A_Group) (some 2), i6 r_6.1], [i6 r_62.1.Lo, i6 r_62.1.Hi, i6 r_64.1.Lo, i6 r_64.1.Hi, i6 r_65.1, i6 r_66.1, .sl (b_88.map (AV.int .i64)) (some 3)]], [(b_9.length, 1), (b_27.length, 2), (b_56.length, 7), (b_88.length, 1)]⟩) ?_ ?_
          ·refine Ex.seq ?_
           obtain ⟨r_92, hr_92, h⟩ := bE h
           refine Ex.reg ?_
           refine runH 4 [(3, .eq (i6 ((b_27.length : Nat) : Int)))] [0, 8, 9, 10, 14, 15, 16, 17, 114, 117] [AV.int .i64 (((b_27.map A_Street).length : Nat) : Int) = AV.int .i64 ((b_27.length : Nat) : Int)] (mkS 142 [(0, .ptr 0 0), (8, .ptr 1 0), (9, .ptr 2 0), (10, i6 r_7.1), (14, i6 i_54), (15, .ptr 3 0), (16, i6 at_73), (17, i6 k_74), (114, .ptr 0 0), (117, i6 ((b_27.length : Nat) : Int))]) (⟨[[.int .u64 b_75], [.nils, .nils, .nils, i6 0], [.sl (b_9.map (AV.int .i64)) (some 0), .sl (b_27.map A_Street) (some 1), .sl (b_56.map A_Group) (some 2), i6 r_6.1], [i6 r_62.1.Lo, i6 r_62.1.Hi, i6 r_64.1.Lo, i6 r_64.1.Hi, i6 r_65.1, i6 r_66.1, .sl (b_76.map (AV.int .i64)) (some 3)]], [(b_9.length, 1), (b_27.length, 2), (b_56.length, 7), (b_76.length, 1)]⟩) (by kernel_rfl) ⟨lenM _ _, trivial⟩ ?_
           refine ExO.callL [0] [.ptr 0 0, i6 ((b_27.length : Nat) : Int)] rfl rfl (by simp; try rfl) rfl (by simp) (d_bk_Drum_Roll N (⟨b_75⟩ : T_bk_Drum) ((b_27.length : Nat) : Int) r_92 hr_92) (b_bk_Drum_Roll _ _ _ _) (by simp) ?_
           refine rn 1 [0, 8, 9, 10, 14, 15, 16, 17, 18] (mkS 142 [(0, .ptr 0 0), (8, .ptr 1 0), (9, .ptr 2 0), (10, i6 r_7.1), (14, i6 i_54), (15, .ptr 3 0), (16, i6 at_73), (17, i6 k_74), (18, i6 r_92.1)]) ⟨[(C_bk_Drum r_92.2), [.nils, .nils, .nils, i6 0], [.sl (b_9.map (AV.int .i64)) (some 0), .sl (b_27.map A_Street) (some 1), .sl (b_56.map A_Group) (some 2), i6 r_6.1], [i6 r_62.1.Lo, i6 r_62.1.Hi, i6 r_64.1.Lo, i6 r_64.1.Hi, i6 r_65.1, i6 r_66.1, .sl (b_76.map (AV.int .i64)) (some 3)]], [(b_9.length, 1), (b_27.length, 2), (b_56.length, 7), (b_76.length, 1)]⟩ ?_
           refine ExO.nil ?_
           refine Ex.seq ?_
           obtain ⟨x_93, hx_93, h⟩ := bE h
           obtain ⟨r_94, hr_94, h⟩ := bE h
           refine Ex.reg ?_
           refine runH 6 [(3, .rop (C_Street x_93))] [0, 8, 9, 10, 14, 15, 16, 17, 18, 123, 124] [LGet (b_27.map A_Street) r_92.1 2 (C_Street x_93)] (mkS 142 [(0, .ptr 0 0), (8, .ptr 1 0), (9, .ptr 2 0), (10, i6 r_7.1), (14, i6 i_54), (15, .ptr 3 0), (16, i6 at_73), (17, i6 k_74), (18, i6 r_92.1), (123, (A_Street x_93)), (124, i6 at_73)]) (⟨[(C_bk_Drum r_92.2), [.nils, .nils, .nils, i6 0], [.sl (b_9.map (AV.int .i64)) (some 0), .sl (b_27.map A_Street) (some 1), .sl (b_56.map A_Group) (some 2), i6 r_6.1], [i6 r_62.1.Lo, i6 r_62.1.Hi, i6 r_64.1.Lo, i6 r_64.1.Hi, i6 r_65.1, i6 r_66.1, .sl (b_76.map (AV.int .i64)) (some 3)]], [(b_9.length, 1), (b_27.length, 2), (b_56.length, 7), (b_76.length, 1)]⟩) (by kernel_rfl) ⟨LGet.of hx_93 rfl, trivial⟩ ?_
           refine ExO.callL [] [(A_Street x_93), i6 at_73] rfl rfl (a_br6_Other x_93 at_73) rfl rfl (d_br6_Other N x_93 at_73 r_94 hr_94) (b_br6_Other _ _ _ _) rfl ?_
           refine rn 1 [0, 8, 9, 10, 14, 15, 16, 17, 18, 19] (mkS 142 [(0, .ptr 0 0), (8, .ptr 1 0), (9, .ptr 2 0), (10, i6 r_7.1), (14, i6 i_54), (15, .ptr 3 0), (16, i6 at_73), (17, i6 k_74), (18, i6 r_92.1), (19, i6 r_94)]) ⟨[(C_bk_Drum r_92.2), [.nils, .nils, .nils, i6 0], [.sl (b_9.map (AV.int .i64)) (some 0), .sl (b_27.map A_Street) (some 1), .sl (b_56.map A_Group) (some 2), i6 r_6.1], [i6 r_62.1.Lo, i6 r_62.1.Hi, i6 r_64.1.Lo, i6 r_64.1.Hi, i6 r_65.1, i6 r_66.1, .sl (b_76.map (AV.int .i64)) (some 3)]], [(b_9.length, 1), (b_27.length, 2), (b_56.length, 7), (b_76.length, 1)]⟩ ?_
           refine ExO.nil ?_
           refine Ex.seq (rg 2 [0, 8, 9, 10, 14, 15, 16, 17, 18, 19, 127] (mkS 142 [(0, .ptr 0 0), (8, .ptr 1 0), (9, .ptr 2 0), (10, i6 r_7.1), (14, i6 i_54), (15, .ptr 3 0), (16, i6 at_73), (17, i6 k_74), (18, i6 r_92.1), (19, i6 r_94), (127, .bool (decide (r_94 ≥ 0)))]) ⟨[(C_bk_Drum r_92.2), [.nils, .nils, .nils, i6 0], [.sl (b_9.map (AV.int .i64)) (some 0), .sl (b_27.map A_Street) (some 1), .sl (b_56.map A_Group) (some 2), i6 r_6.1], [i6 r_62.1.Lo, i6 r_62.1.Hi, i6 r_64.1.Lo, i6 r_64.1.Hi, i6 r_65.1, i6 r_66.1, .sl (b_76.map (AV.int .i64)) (some 3)]], [(b_9.length, 1), (b_27.length, 2), (b_56.length, 7), (b_76.length, 1)]⟩ ?_)
           rcases condI h with ⟨hc_95, h⟩ | ⟨hc_95, h⟩
           ·refine Ex.condT _ rfl hc_95 ?_
            obtain ⟨l_96, hl_96, h⟩ := bE h
            refine regH 9 [(4, .app (l_96.map (AV.int .i64)) l_96.length)] [0, 8, 9, 10, 14, 15, 16, 17] [LApp b_76.length (b_76.map (AV.int .i64)) (([r_92.1] : List Int).map (AV.int .i64)) 1 (l_96.map (AV.int .i64)) l_96.length] (mkS 142 [(0, .ptr 0 0), (8, .ptr 1 0), (9, .ptr 2 0), (10, i6 r_7.1), (14, i6 i_54), (15, .ptr 3 0), (16, i6 r_94), (17, i6 k_74)]) (⟨[(C_bk_Drum r_92.2), [.nils, .nils, .nils, i6 0], [.sl (b_9.map (AV.int .i64)) (some 0), .sl (b_27.map A_Street) (some 1), .sl (b_56.map A_Group) (some 2), i6 r_6.1], [i6 r_62.1.Lo, i6 r_62.1.Hi, i6 r_64.1.Lo, i6 r_64.1.Hi, i6 r_65.1, i6 r_66.1, .sl (l_96.map (AV.int .i64)) (some 3)]], [(b_9.length, 1), (b_27.length, 2), (b_56.length, 7), (l_96.length, 1), (1, 1)]⟩) (by kernel_rfl) ⟨LApp.of hl_96 (fun _ => rfl), trivial⟩ rfl ?_
            (try simp only [reduceCtorEq, AEx.ex.injEq, Nat.reduceEqDiff, if_true, if_false])
            exact ⟨_, _, forgetA (m := 142) 4 [0, 1, 2, 3] [(0, .ptr 0 0), (8, .ptr 1 0), (9, .ptr 2 0), (10, i6 r_7.1), (14, i6 i_54), (15, .ptr 3 0), (16, i6 r_94), (17, i6 k_74)] [(C_bk_Drum r_92.2), [.nils, .nils, .nils, i6 0], [.sl (b_9.map (AV.int .i64)) (some 0), .sl (b_27.map A_Street) (some 1), .sl (b_56.map A_Group) (some 2), i6 r_6.1], [i6 r_62.1.Lo, i6 r_62.1.Hi, i6 r_64.1.Lo, i6 r_64.1.Hi, i6 r_65.1, i6 r_66.1, .sl (l_96.map (AV.int .i64)) (some 3)]] [(b_9.length, 1), (b_27.length, 2), (b_56.length, 7), (l_96.length, 1)] (by simp [setAll]) (by simp) ⟨rfl, rfl, rfl, rfl, rfl, rfl, rfl, rfl, trivial⟩ (by simp) rfl (by decide), r_94, r_92.2.beat_, l_96, h, rfl, rfl⟩
           ·refine Ex.condF _ rfl hc_95 ?_
            refine Ex.skip ?_
            (try simp only [reduceCtorEq, AEx.ex.injEq, Nat.reduceEqDiff, if_true, if_false])
            exact ⟨_, _, forgetK [0, 8, 9, 10, 14, 15, 16, 17], at_73, r_92.2.beat_, b_76, h, rfl, rfl⟩
          ·rintro a S ⟨at_86, b_87, b_88, h, rfl, rfl⟩
           subst hK_91
           refine rg 3 [0, 8, 9, 10, 14, 15, 16, 17] (mkS 142 [(0, .ptr 0 0), (8, .ptr 1 0), (9, .ptr 2 0), (10, i6 r_7.1), (14, i6 i_54), (15, .ptr 3 0), (16, i6 at_86), (17, i6 (IntKind.i64.wrap (k_74 - 1)))]) ⟨[[.int .u64 b_87], [.nils, .nils, .nils, i6 0], [.sl (b_9.map (AV.int .i64)) (some 0), .sl (b_27.map A_Street) (some 1), .sl (b_56.map A_Group) (some 2), i6 r_6.1], [i6 r_62.1.Lo, i6 r_62.1.Hi, i6 r_64.1.Lo, i6 r_64.1.Hi, i6 r_65.1, i6 r_66.1, .sl (b_88.map (AV.int .i64)) (some 3)]], [(b_9.length, 1), (b_27.length, 2), (b_56.length, 7), (b_88.length, 1)]⟩ ?_
           dsimp only
           exact ⟨_, _, Forgets.refl _ _ _, k, Nat.lt_succ_self k, at_86, (IntKind.i64.wrap (k_74 - 1)), b_87, b_88, h, rfl, rfl⟩
         ·refine Ex.condF _ rfl hc_85 ?_
          refine Ex.exit ?_
          (try simp only [reduceCtorEq, AEx.ex.injEq, Nat.reduceEqDiff, if_true, if_false])
          exact ⟨_, _, forgetK [0, 8, 9, 10, 14, 15], b_75, b_76, h, rfl, rfl⟩
      ·rintro a S ⟨b_68, b_69, h, rfl, rfl⟩
       subst hK_72
       refine Ex.postF ?_
       obtain ⟨l_97, hl_97, h⟩ := bE h
       refine regH 7 [(4, .app (l_97.map A_Group) l_97.length)] [0, 8, 9, 10, 14] [LApp b_56.length (b_56.map A_Group) (([(⟨r_62.1, r_64.1, r_65.1, r_66.1, b_69⟩ : T_Group)] : List T_Group).map A_Group) 7 (l_97.map A_Group) l_97.length] (mkS 142 [(0, .ptr 0 0), (8, .ptr 1 0), (9, .ptr 2 0), (10, i6 r_7.1), (14, i6 i_54)]) (⟨[[.int .u64 b_68], [.nils, .nils, .nils, i6 0], [.sl (b_9.map (AV.int .i64)) (some 0), .sl (b_27.map A_Street) (some 1), .sl (l_97.map A_Group) (some 2), i6 r_6.1], [i6 r_62.1.Lo, i6 r_62.1.Hi, i6 r_64.1.Lo, i6 r_64.1.Hi, i6 r_65.1, i6 r_66.1, .sl (b_69.map (AV.int .i64)) (some 3)]], [(b_9.length, 1), (b_27.length, 2), (l_97.length, 7), (b_69.length, 1), (1, 7)]⟩) (by kernel_rfl) ⟨LApp.of hl_97 (fun _ => rfl), trivial⟩ rfl ?_
       refine ⟨mkS 142 [(0, .ptr 0 0), (8, .ptr 1 0), (9, .ptr 2 0), (10, i6 r_7.1), (14, i6 i_54)], ⟨[[.int .u64 b_68], [.nils, .nils, .nils, i6 0], [.sl (b_9.map (AV.int .i64)) (some 0), .sl (b_27.map A_Street) (some 1), .sl (l_97.map A_Group) (some 2), i6 r_6.1], [i6 r_62.1.Lo, i6 r_62.1.Hi, i6 r_64.1.Lo, i6 r_64.1.Hi, i6 r_65.1, i6 r_66.1, .sl (b_69.map (AV.int .i64)) (some 3)]], [(b_9.length, 1), (b_27.length, 2), (l_97.length, 7), (b_69.length, 1), (1, 7)]⟩, Forgets.refl _ _ _, ?_⟩
       refine rg 3 [0, 8, 9, 10, 14] (mkS 142 [(0, .ptr 0 0), (8, .ptr 1 0), (9, .ptr 2 0), (10, i6 r_7.1), (14, i6 (IntKind.i64.wrap (i_54 - 1)))]) ⟨[[.int .u64 b_68], [.nils, .nils, .nils, i6 0], [.sl (b_9.map (AV.int .i64)) (some 0), .sl (b_27.map A_Street) (some 1), .sl (l_97.map A_Group) (some 2), i6 r_6.1], [i6 r_62.1.Lo, i6 r_62.1.Hi, i6 r_64.1.Lo, i6 r_64.1.Hi, i6 r_65.1, i6 r_66.1, .sl (b_69.map (AV.int .i64)) (some 3)]], [(b_9.length, 1), (b_27.length, 2), (l_97.length, 7), (b_69.length, 1), (1, 7)]⟩ ?_
       dsimp only
       exact ⟨_, _, forgetA (m := 142) 3 [0, 1, 2] [(0, .ptr 0 0), (8, .ptr 1 0), (9, .ptr 2 0), (10, i6 r_7.1), (14, i6 (IntKind.i64.wrap (i_54 - 1)))] [[.int .u64 b_68], [.nils, .nils, .nils, i6 0], [.sl (b_9.map (AV.int .i64)) (some 0), .sl (b_27.map A_Street) (some 1), .sl (l_97.map A_Group) (some 2), i6 r_6.1]] [(b_9.length, 1), (b_27.length, 2), (l_97.length, 7)] (by simp [setAll]) (by simp) ⟨rfl, rfl, rfl, rfl, rfl, trivial⟩ (by simp) rfl (by decide), k, Nat.lt_succ_self k, (IntKind.i64.wrap (i_54 - 1)), b_68, l_97, h, rfl, rfl⟩
     ·refine Ex.condF _ rfl hc_60 ?_
      refine Ex.exit ?_
      (try simp only [reduceCtorEq, AEx.ex.injEq, Nat.reduceEqDiff, if_true, if_false])
      exact ⟨_, _, forgetK [8, 9], b_55, b_56, h, rfl, rfl⟩
   ·rintro a S ⟨b_49, b_50, h, rfl, rfl⟩
    subst hK_53
    refine Ex.seq (rg 2 [8] (mkS 142 [(8, .ptr 1 0)]) ⟨[[.int .u64 b_49], [.sl (b_9.map (AV.int .i64)) (some 0), .sl (b_27.map A_Street) (some 1), .sl (b_50.map A_Group) (some 2), i6 r_6.1], [.sl (b_9.map (AV.int .i64)) (some 0), .sl (b_27.map A_Street) (some 1), .sl (b_50.map A_Group) (some 2), i6 r_6.1]], [(b_9.length, 1), (b_27.length, 2), (b_50.length, 7)]⟩ ?_)
    refine Ex.ret ?_
    obtain rfl := sJ h
    exact rt (.agg [.sl (b_9.map (AV.int .i64)) (some 0), .sl (b_27.map A_Street) (some 1), .sl (b_50.map A_Group) (some 2), i6 r_6.1])
structure T_City where
 Town : T_Town
 Break : Int
 Sleep : (List Int)
 deriving Inhabited
def C_City (x : T_City) : List AV := [.sl (x.Town.Rooms.map (AV.int .i64)) none, .sl (x.Town.Streets.map A_Street) none, .sl (x.Town.Groups.map A_Group) none, i6 x.Town.Steps, i6 x.Break, .sl (x.Sleep.map (AV.int .i64)) none]
attribute [local simp] C_City
def A_City (x : T_City) : AV := .agg (C_City x)
attribute [local simp] A_City
theorem KC_City (x : T_City) : cleanL (C_City x) = true := by simp
theorem KA_City (x : T_City) : (A_City x).clean = true := KC_City x
theorem KL_City (l : List T_City) : cleanL (l.map A_City) = true := cleanM KA_City l
attribute [local simp] KL_City
theorem KB_City (x : T_City) (n : Nat) (σ : List Nat) : (C_City x).mapM (re n σ) = some (C_City x) := by simp
attribute [local simp] KB_City
def p_bk_CityOf (N : Nat) (d_1 : T_bk_Drum) : Option (T_City × T_bk_Drum) := ((p_bk_TownOf N d_1 4 5 1).bind fun r_2 => ((p_bk_Drum_Roll N r_2.2 10).bind fun r_3 => ((p_bk_Drum_Roll N r_3.2 60).bind fun r_4 => ((p_bk_Drum_Any N r_4.2 [0, 1, r_3.1, r_4.1]).bind fun r_5 => (letJ (fun (b_6 : Int) (b_7 : List Int) => some ((⟨r_2.1, r_5.1, b_7⟩ : T_City), (⟨b_6⟩ : T_bk_Drum))) (fun k_8 => (loop3 (fun rec_14 (i_11 : Int) (b_12 : Int) (b_13 : List Int) => (bif (decide (i_11 < ((r_2.1.Rooms.length : Nat) : Int))) then ((p_bk_Drum_Roll N (⟨b_12⟩ : T_bk_Drum) 721).bind fun r_18 => ((p_bk_Drum_Mid N r_18.2 300 600).bind fun r_19 => ((p_bk_Drum_Any N r_19.2 [0, r_18.1, r_19.1]).bind fun r_20 => ((pushI b_13 ([r_20.1] : List Int)).bind fun l_22 => (rec_14 (IntKind.i64.wrap (i_11 + 1)) r_20.2.beat_ l_22))))) else (k_8 b_12 b_13))) N 0 r_5.2.beat_ [])))))))
def v_bk_CityOf (r : T_City × T_bk_Drum) : AV := (A_City r.1)
attribute [local simp] v_bk_CityOf
theorem b_bk_CityOf (r : T_City × T_bk_Drum) (n n2 m : Nat) : back n n2 m (v_bk_CityOf r) = some (v_bk_CityOf r) := by simp
theorem d_bk_CityOf (N : Nat) (d_1 : T_bk_Drum) (r : T_City × T_bk_Drum) (h : p_bk_CityOf N d_1 = some r) : Does Tryd.prog 16 [.ptr 0 0] [(C_bk_Drum d_1)] fun v c => v = v_bk_CityOf r ∧ c = [(C_bk_Drum r.2)] := by
 unfold p_bk_CityOf at h
 refine Does.ofL comp16 _ _ rfl rfl ?_
 refine Ex.seq (rg 1 [0, 2] (mkS 36 [(0, .ptr 0 0), (2, .ptr 1 0)]) ⟨[(C_bk_Drum d_1), [.nils, .nils, .nils, i6 0, i6 0, .nils]], []⟩ ?_)
 refine Ex.seq ?_
 obtain ⟨r_2, hr_2, h⟩ := bE h
 refine Ex.reg (rn 1 [0, 2, 5] (mkS 36 [(0, .ptr 0 0), (2, .ptr 1 0), (5, .ptr 0 0)]) ⟨[(C_bk_Drum d_1), [.nils, .nils, .nils, i6 0, i6 0, .nils]], []⟩ ?_)
 refine ExO.callL [0] [.ptr 0 0, i6 4, i6 5, i6 1] rfl rfl (by simp; try rfl) rfl (by simp) (d_bk_TownOf N d_1 4 5 1 r_2 hr_2) (b_bk_TownOf _ _ _ _) (by simp) ?_
 obtain ⟨r_3, hr_3, h⟩ := bE h
 refine rn 2 [0, 2, 6, 7, 8] (mkS 36 [(0, .ptr 0 0), (2, .ptr 1 0), (6, (A_Town r_2.1)), (7, .ptr 0 0), (8, .ptr 0 0)]) ⟨[(C_bk_Drum r_2.2), [.nils, .nils, .nils, i6 0, i6 0, .nils]], []⟩ ?_
 refine ExO.callL [0] [.ptr 0 0, i6 10] rfl rfl (by simp; try rfl) rfl (by simp) (d_bk_Drum_Roll N r_2.2 10 r_3 hr_3) (b_bk_Drum_Roll _ _ _ _) (by simp) ?_
 obtain ⟨r_4, hr_4, h⟩ := bE h
 refine rn 1 [0, 2, 6, 7, 9, 10] (mkS 36 [(0, .ptr 0 0), (2, .ptr 1 0), (6, (A_Town r_2.1)), (7, .ptr 0 0), (9, i6 r_3.1), (10, .ptr 0 0)]) ⟨[(C_bk_Drum r_3.2), [.nils, .nils, .nils, i6 0, i6 0, .nils]], []⟩ ?_
 refine ExO.callL [0] [.ptr 0 0, i6 60] rfl rfl (by simp; try rfl) rfl (by simp) (d_bk_Drum_Roll N r_3.2 60 r_4 hr_4) (b_bk_Drum_Roll _ _ _ _) (by simp) ?_
 obtain ⟨r_5, hr_5, h⟩ := bE h
 refine rn 1 [0, 2, 6, 7, 12] (mkS 36 [(0, .ptr 0 0), (2, .ptr 1 0), (6, (A_Town r_2.1)), (7, .ptr 0 0), (12, .sl (([0, 1, r_3.1, r_4.1] : List Int).map (AV.int .i64)) (some 0))]) ⟨[(C_bk_Drum r_4.2), [.nils, .nils, .nils, i6 0, i6 0, .nils]], [(4, 1)]⟩ ?_
 refine ExO.callL [0] [.ptr 0 0, .sl (([0, 1, r_3.1, r_4.1] : List Int).map (AV.int .i64)) (some 0)] rfl rfl (by simp; try rfl) rfl (by simp) (d_bk_Drum_Any N r_4.2 [0, 1, r_3.1, r_4.1] r_5 hr_5) (b_bk_Drum_Any _ _ _ _) (by simp) ?_
 refine rn 3 [0, 2, 3] (mkS 36 [(0, .ptr 0 0), (2, .ptr 1 0), (3, .ptr 2 0)]) ⟨[(C_bk_Drum r_5.2), [.nils, .nils, .nils, i6 0, i6 0, .nils], [.sl (r_2.1.Rooms.map (AV.int .i64)) none, .sl (r_2.1.Streets.map A_Street) none, .sl (r_2.1.Groups.map A_Group) none, i6 r_2.1.Steps, i6 r_5.1, .nils]], [(4, 1)]⟩ ?_
 refine ExO.nil ?_
 refine Ex.seq (Ex.seq ?_)
 refine rg 1 [0, 2, 3, 4] (mkS 36 [(0, .ptr 0 0), (2, .ptr 1 0), (3, .ptr 2 0), (4, i6 0)]) ⟨[(C_bk_Drum r_5.2), [.nils, .nils, .nils, i6 0, i6 0, .nils], [.sl (r_2.1.Rooms.map (AV.int .i64)) none, .sl (r_2.1.Streets.map A_Street) none, .sl (r_2.1.Groups.map A_Group) none, i6 r_2.1.Steps, i6 r_5.1, .nils]], [(4, 1)]⟩ ?_
 obtain ⟨K_9, hK_10, h⟩ := letE h
 refine Ex.blockJ (fun a S => ∃ (b_6 : Int), ∃ (b_7 : List Int), K_9 b_6 b_7 = some r ∧ a = mkS 36 [(2, .ptr 1 0), (3, .ptr 2 0)] ∧ S = ⟨[[.int .u64 b_6], [.nils, .nils, .nils, i6 0, i6 0, .nils], [.sl (r_2.1.Rooms.map (AV.int .i64)) none, .sl (r_2.1.Streets.map A_Street) none, .sl (r_2.1.Groups.map A_Group) none, i6 r_2.1.Steps, i6 r_5.1, .sl (b_7.map (AV.int .i64)) (some 0)]], [(b_7.length, 1)]⟩) ?_ ?_
 ·refine Ex.forget (nilB 2 5 1 [.sl (r_2.1.Rooms.map (AV.int .i64)) none, .sl (r_2.1.Streets.map A_Street) none, .sl (r_2.1.Groups.map A_Group) none, i6 r_2.1.Steps, i6 r_5.1, .nils] rfl rfl) ?_
  refine Ex.castA (a2 := mkS 36 [(0, .ptr 0 0), (2, .ptr 1 0), (3, .ptr 2 0), (4, i6 0)]) (S2 := ⟨[(C_bk_Drum r_5.2), [.nils, .nils, .nils, i6 0, i6 0, .nils], [.sl (r_2.1.Rooms.map (AV.int .i64)) none, .sl (r_2.1.Streets.map A_Street) none, .sl (r_2.1.Groups.map A_Group) none, i6 r_2.1.Steps, i6 r_5.1, .sl (([] : List Int).map (AV.int .i64)) (some 1)]], [(4, 1), (0, 1)]⟩) (by kernel_rfl) (by kernel_rfl) ?_
  obtain ⟨B_15, hB_16, h⟩ := loop3I h
  refine Ex.loopF (fun k a S => ∃ (i_11 : Int), ∃ (b_12 : Int), ∃ (b_13 : List Int), loop3 B_15 k i_11 b_12 b_13 = some r ∧ a = mkS 36 [(0, .ptr 0 0), (2, .ptr 1 0), (3, .ptr 2 0), (4, i6 i_11)] ∧ S = ⟨[[.int .u64 b_12], [.nils, .nils, .nils, i6 0, i6 0, .nils], [.sl (r_2.1.Rooms.map (AV.int .i64)) none, .sl (r_2.1.Streets.map A_Street) none, .sl (r_2.1.Groups.map A_Group) none, i6 r_2.1.Steps, i6 r_5.1, .sl (b_13.map (AV.int .i64)) (some 0)]], [(b_13.length, 1)]⟩) N ⟨_, _, forgetA (m := 36) 3 [1] [(0, .ptr 0 0), (2, .ptr 1 0), (3, .ptr 2 0), (4, i6 0)] [(C_bk_Drum r_5.2), [.nils, .nils, .nils, i6 0, i6 0, .nils], [.sl (r_2.1.Rooms.map (AV.int .i64)) none, .sl (r_2.1.Streets.map A_Street) none, .sl (r_2.1.Groups.map A_Group) none, i6 r_2.1.Steps, i6 r_5.1, .sl (([] : List Int).map (AV.int .i64)) (some 0)]] [(0, 1)] (by simp [setAll]) (by simp) ⟨rfl, rfl, rfl, rfl, trivial⟩ (by simp) rfl (by decide), 0, r_5.2.beat_, [], h, rfl, rfl⟩ ?_
  rintro k a S ⟨i_11, b_12, b_13, h, rfl, rfl⟩
  cases k with
  | zero => exact (loop3Z h).elim
  | succ k =>
   replace h := loop3S h hB_16
   refine Ex.seq (Ex.seq ?_)
   refine regH 6 [(4, .eq (i6 ((r_2.1.Rooms.length : Nat) : Int)))] [0, 2, 3, 4, 20] [AV.int .i64 (((r_2.1.Rooms.map (AV.int .i64)).length : Nat) : Int) = AV.int .i64 ((r_2.1.Rooms.length : Nat) : Int)] (mkS 36 [(0, .ptr 0 0), (2, .ptr 1 0), (3, .ptr 2 0), (4, i6 i_11), (20, .bool (decide (i_11 < ((r_2.1.Rooms.length : Nat) : Int))))]) (⟨[[.int .u64 b_12], [.nils, .nils, .nils, i6 0, i6 0, .nils], [.sl (r_2.1.Rooms.map (AV.int .i64)) none, .sl (r_2.1.Streets.map A_Street) none, .sl (r_2.1.Groups.map A_Group) none, i6 r_2.1.Steps, i6 r_5.1, .sl (b_13.map (AV.int .i64)) (some 0)]], [(b_13.length, 1)]⟩) (by kernel_rfl) ⟨lenM _ _, trivial⟩ rfl ?_
   rcases condI h with ⟨hc_17, h⟩ | ⟨hc_17, h⟩
   ·refine Ex.condT _ rfl hc_17 ?_
    refine Ex.skip ?_
    refine Ex.seq ?_
    refine Ex.blockK ?_
    obtain ⟨r_18, hr_18, h⟩ := bE h
    obtain ⟨r_19, hr_19, h⟩ := bE h
    obtain ⟨r_20, hr_20, h⟩ := bE h
    have hT_21 : DoesA Tryd.prog [⟨19, [.ptr 0 0, i6 721], [[.int .u64 b_12]], (v_bk_Drum_Roll r_18), [(C_bk_Drum r_18.2)]⟩, ⟨55, [.ptr 0 0, i6 300, i6 600], [(C_bk_Drum r_18.2)], (v_bk_Drum_Mid r_19), [(C_bk_Drum r_19.2)]⟩, ⟨36, [.ptr 0 0, .sl (([0, r_18.1, r_19.1] : List Int).map (AV.int .i64)) none], [(C_bk_Drum r_19.2)], (v_bk_Drum_Any r_20), [(C_bk_Drum r_20.2)]⟩] ∧ ConsA [⟨19, [.ptr 0 0, i6 721], [[.int .u64 b_12]], (v_bk_Drum_Roll r_18), [(C_bk_Drum r_18.2)]⟩, ⟨55, [.ptr 0 0, i6 300, i6 600], [(C_bk_Drum r_18.2)], (v_bk_Drum_Mid r_19), [(C_bk_Drum r_19.2)]⟩, ⟨36, [.ptr 0 0, .sl (([0, r_18.1, r_19.1] : List Int).map (AV.int .i64)) none], [(C_bk_Drum r_19.2)], (v_bk_Drum_Any r_20), [(C_bk_Drum r_20.2)]⟩] := ⟨⟨(d_bk_Drum_Roll N (⟨b_12⟩ : T_bk_Drum) 721 r_18 hr_18), rfl, (d_bk_Drum_Mid N r_18.2 300 600 r_19 hr_19), rfl, (d_bk_Drum_Any N r_19.2 [0, r_18.1, r_19.1] r_20 hr_20), rfl, trivial⟩, ⟨⟨ConsR.ne rfl, ConsR.ne rfl, trivial⟩, ⟨ConsR.ne rfl, trivial⟩, trivial, trivial⟩⟩
    refine Ex.drawE (a1 := mkS 36 [(0, .ptr 0 0), (2, .ptr 1 0), (3, .ptr 2 0), (4, i6 i_11), (20, .bool (decide (i_11 < ((r_2.1.Rooms.length : Nat) : Int)))), (23, .ptr 2 5), (24, .sl (b_13.map (AV.int .i64)) (some 0)), (25, .ptr 0 0), (26, .ptr 0 0), (27, i6 r_18.1), (28, .ptr 0 0), (29, i6 r_19.1), (30, .sl (([0, r_18.1, r_19.1] : List Int).map (AV.int .i64)) (some 1)), (31, i6 r_20.1), (32, .sl (([r_20.1] : List Int).map (AV.int .i64)) (some 2))]) (tabO_ok hT_21.1) [] [(3, 1), (1, 1)] [⟨[(C_bk_Drum r_18.2), [.nils, .nils, .nils, i6 0, i6 0, .nils], [.sl (r_2.1.Rooms.map (AV.int .i64)) none, .sl (r_2.1.Streets.map A_Street) none, .sl (r_2.1.Groups.map A_Group) none, i6 r_2.1.Steps, i6 r_5.1, .sl (b_13.map (AV.int .i64)) (some 0)]], [(b_13.length, 1), (3, 1), (1, 1)]⟩, ⟨[(C_bk_Drum r_19.2), [.nils, .nils, .nils, i6 0, i6 0, .nils], [.sl (r_2.1.Rooms.map (AV.int .i64)) none, .sl (r_2.1.Streets.map A_Street) none, .sl (r_2.1.Groups.map A_Group) none, i6 r_2.1.Steps, i6 r_5.1, .sl (b_13.map (AV.int .i64)) (some 0)]], [(b_13.length, 1), (3, 1), (1, 1)]⟩, ⟨[(C_bk_Drum r_20.2), [.nils, .nils, .nils, i6 0, i6 0, .nils], [.sl (r_2.1.Rooms.map (AV.int .i64)) none, .sl (r_2.1.Streets.map A_Street) none, .sl (r_2.1.Groups.map A_Group) none, i6 r_2.1.Steps, i6 r_5.1, .sl (b_13.map (AV.int .i64)) (some 0)]], [(b_13.length, 1), (3, 1), (1, 1)]⟩] ?_ ?_
    ·refine drS [1, 2] 4 [] [] (mkS 36 [(0, .ptr 0 0), (2, .ptr 1 0), (3, .ptr 2 0), (4, i6 i_11), (20, .bool (decide (i_11 < ((r_2.1.Rooms.length : Nat) : Int)))), (23, .ptr 2 5), (24, .sl (b_13.map (AV.int .i64)) (some 0)), (25, .ptr 0 0), (26, .ptr 0 0)]) (by simp) (by kernel_rfl) trivial (by kernel_rfl) ?_
     refine drB hT_21.2 0 _ [0] [.ptr 0 0, i6 721] (v_bk_Drum_Roll r_18) _ _ rfl rfl rfl rfl rfl rfl rfl rfl (by simp; try rfl) rfl (by simp) (b_bk_Drum_Roll _ _ _ _) (by simp) rfl ?_
     refine drS [1, 2] 1 [] [] (mkS 36 [(0, .ptr 0 0), (2, .ptr 1 0), (3, .ptr 2 0), (4, i6 i_11), (20, .bool (decide (i_11 < ((r_2.1.Rooms.length : Nat) : Int)))), (23, .ptr 2 5), (24, .sl (b_13.map (AV.int .i64)) (some 0)), (25, .ptr 0 0), (26, .ptr 0 0), (27, i6 r_18.1), (28, .ptr 0 0)]) (by simp) (by kernel_rfl) trivial (by kernel_rfl) ?_
     refine drB hT_21.2 1 _ [0] [.ptr 0 0, i6 300, i6 600] (v_bk_Drum_Mid r_19) _ _ rfl rfl rfl rfl rfl rfl rfl rfl (by simp; try rfl) rfl (by simp) (b_bk_Drum_Mid _ _ _ _) (by simp) rfl ?_
     refine drR 1 1 (([0, r_18.1, r_19.1] : List Int).map (AV.int .i64)) rfl rfl (fun _ => by kernel_rfl) (by simp) rfl rfl ?_
     refine drB hT_21.2 2 _ [0] [.ptr 0 0, .sl (([0, r_18.1, r_19.1] : List Int).map (AV.int .i64)) (some 1)] (v_bk_Drum_Any r_20) _ _ rfl rfl rfl rfl rfl rfl rfl rfl (by simp; try rfl) rfl (by simp) (b_bk_Drum_Any _ _ _ _) (by simp) rfl ?_
     refine drR 2 1 (([r_20.1] : List Int).map (AV.int .i64)) rfl rfl (fun _ => by kernel_rfl) (by simp) rfl rfl ?_
     exact DrO.nil rfl
    ·dsimp only [List.getLastD_cons, List.getLastD_nil]
     obtain ⟨l_22, hl_22, h⟩ := bE h
     refine runH 3 [(0, .app (l_22.map (AV.int .i64)) l_22.length)] [0, 2, 3, 4] [LApp b_13.length (b_13.map (AV.int .i64)) (([r_20.1] : List Int).map (AV.int .i64)) 1 (l_22.map (AV.int .i64)) l_22.length] (mkS 36 [(0, .ptr 0 0), (2, .ptr 1 0), (3, .ptr 2 0), (4, i6 i_11)]) (⟨[(C_bk_Drum r_20.2), [.nils, .nils, .nils, i6 0, i6 0, .nils], [.sl (r_2.1.Rooms.map (AV.int .i64)) none, .sl (r_2.1.Streets.map A_Street) none, .sl (r_2.1.Groups.map A_Group) none, i6 r_2.1.Steps, i6 r_5.1, .sl (l_22.map (AV.int .i64)) (some 0)]], [(l_22.length, 1), (3, 1), (1, 1)]⟩) (by kernel_rfl) ⟨LApp.of hl_22 (fun _ => rfl), trivial⟩ ?_
     refine ExO.nil ?_
     refine rg 3 [0, 2, 3, 4] (mkS 36 [(0, .ptr 0 0), (2, .ptr 1 0), (3, .ptr 2 0), (4, i6 (IntKind.i64.wrap (i_11 + 1)))]) ⟨[(C_bk_Drum r_20.2), [.nils, .nils, .nils, i6 0, i6 0, .nils], [.sl (r_2.1.Rooms.map (AV.int .i64)) none, .sl (r_2.1.Streets.map A_Street) none, .sl (r_2.1.Groups.map A_Group) none, i6 r_2.1.Steps, i6 r_5.1, .sl (l_22.map (AV.int .i64)) (some 0)]], [(l_22.length, 1), (3, 1), (1, 1)]⟩ ?_
     dsimp only
     exact ⟨_, _, forgetA (m := 36) 3 [0] [(0, .ptr 0 0), (2, .ptr 1 0), (3, .ptr 2 0), (4, i6 (IntKind.i64.wrap (i_11 + 1)))] [(C_bk_Drum r_20.2), [.nils, .nils, .nils, i6 0, i6 0, .nils], [.sl (r_2.1.Rooms.map (AV.int .i64)) none, .sl (r_2.1.Streets.map A_Street) none, .sl (r_2.1.Groups.map A_Group) none, i6 r_2.1.Steps, i6 r_5.1, .sl (l_22.map (AV.int .i64)) (some 0)]] [(l_22.length, 1)] (by simp [setAll]) (by simp) ⟨rfl, rfl, rfl, rfl, trivial⟩ (by simp) rfl (by decide), k, Nat.lt_succ_self k, (IntKind.i64.wrap (i_11 + 1)), r_20.2.beat_, l_22, h, rfl, rfl⟩
   ·refine Ex.condF _ rfl hc_17 ?_
    refine Ex.exit ?_
    (try simp only [reduceCtorEq, AEx.ex.injEq, Nat.reduceEqDiff, if_true, if_false])
    exact ⟨_, _, forgetK [2, 3], b_12, b_13, h, rfl, rfl⟩
 ·rintro a S ⟨b_6, b_7, h, rfl, rfl⟩
  subst hK_10
  refine Ex.seq (rg 2 [2] (mkS 36 [(2, .ptr 1 0)]) ⟨[[.int .u64 b_6], [.sl (r_2.1.Rooms.map (AV.int .i64)) none, .sl (r_2.1.Streets.map A_Street) none, .sl (r_2.1.Groups.map A_Group) none, i6 r_2.1.Steps, i6 r_5.1, .sl (b_7.map (AV.int .i64)) (some 0)], [.sl (r_2.1.Rooms.map (AV.int .i64)) none, .sl (r_2.1.Streets.map A_Street) none, .sl (r_2.1.Groups.map A_Group) none, i6 r_2.1.Steps, i6 r_5.1, .sl (b_7.map (AV.int .i64)) (some 0)]], [(b_7.length, 1)]⟩ ?_)
  refine Ex.ret ?_
  obtain rfl := sJ h
  exact rt (.agg [.sl (r_2.1.Rooms.map (AV.int .i64)) none, .sl (r_2.1.Streets.map A_Street) none, .sl (r_2.1.Groups.map A_Group) none, i6 r_2.1.Steps, i6 r_5.1, .sl (b_7.map (AV.int .i64)) (some 0)])
structure T_Band where
 First : Int
 Path : (List Int)
 Start : T_Span
 Stay : Int
 People : Int
 deriving Inhabited
def C_Band (x : T_Band) : List AV := [i6 x.First, .sl (x.Path.map (AV.int .i64)) none, i6 x.Start.Lo, i6 x.Start.Hi, i6 x.Stay, i6 x.People]
attribute [local simp] C_Band
def A_Band (x : T_Band) : AV := .agg (C_Band x)
attribute [local simp] A_Band
theorem KC_Band (x : T_Band) : cleanL (C_Band x) = true := by simp
theorem KA_Band (x : T_Band) : (A_Band x).clean = true := KC_Band x
theorem KL_Band (l : List T_Band) : cleanL (l.map A_Band) = true := cleanM KA_Band l
attribute [local simp] KL_Band
theorem KB_Band (x : T_Band) (n : Nat) (σ : List Nat) : (C_Band x).mapM (re n σ) = some (C_Band x) := by simp
attribute [local simp] KB_Band
def p_bk_BandOf (N : Nat) (d_1 : T_bk_Drum) (c_2 : T_City) : Option (T_Band × T_bk_Drum) := ((p_bk_Drum_Roll N d_1 ((c_2.Town.Rooms.length : Nat) : Int)).bind fun r_3 => ((p_bk_Drum_Any N r_3.2 [6, 20]).bind fun r_4 => ((p_bk_Drum_Mid N r_4.2 1 r_4.1).bind fun r_5 => ((p_bk_Drum_Roll N r_5.2 60).bind fun r_6 => ((p_bk_Drum_Roll N r_6.2 600).bind fun r_7 => ((p_bk_Drum_Any N r_7.2 [0, r_6.1, r_7.1]).bind fun r_8 => ((p_bk_Drum_Roll N r_8.2 5).bind fun r_9 => (letJ (fun (b_10 : Int) (b_11 : List Int) => ((some (IntKind.i64.wrap (720 - (IntKind.i64.wrap (r_5.1 * (IntKind.i64.wrap (((b_11.length : Nat) : Int) + 1))))))).bind fun n_39 => ((p_bk_Drum_Any N (⟨b_10⟩ : T_bk_Drum) [60, 200, (IntKind.i64.wrap (n_39 - 4))]).bind fun r_40 => ((p_bk_Drum_Roll N r_40.2 r_40.1).bind fun r_41 => ((p_bk_Drum_Roll N r_41.2 5).bind fun r_42 => ((p_bk_Drum_Any N r_42.2 [0, 0, r_42.1]).bind fun r_43 => some ((⟨r_3.1, b_11, (⟨r_41.1, (IntKind.i64.wrap (r_41.1 + r_43.1))⟩ : T_Span), r_5.1, r_8.1⟩ : T_Band), r_43.2))))))) (fun k_12 => (loop4 (fun rec_19 (at_15 : Int) (i_16 : Int) (b_17 : Int) (b_18 : List Int) => (letJ (fun (y_22 : Bool) => (bif y_22 then (letJ (fun (at_28 : Int) (b_29 : Int) (b_30 : List Int) => (rec_19 at_28 (IntKind.i64.wrap (i_16 - 1)) b_29 b_30)) (fun k_31 => ((p_bk_Drum_Roll N (⟨b_17⟩ : T_bk_Drum) ((c_2.Town.Streets.length : Nat) : Int)).bind fun r_34 => ((getI c_2.Town.Streets r_34.1).bind fun x_35 => ((p_br6_Other N x_35 at_15).bind fun r_36 => (bif (decide (r_36 ≥ 0)) then ((pushI b_18 ([r_34.1] : List Int)).bind fun l_38 => (k_31 r_36 r_34.2.beat_ l_38)) else (k_31 at_15 r_34.2.beat_ b_18))))))) else (k_12 b_17 b_18))) (fun k_23 => (bif (decide (i_16 > 0)) then (k_23 (decide (((c_2.Town.Streets.length : Nat) : Int) > 0))) else (k_23 false))))) N r_3.1 r_9.1 r_9.2.beat_ []))))))))))
def v_bk_BandOf (r : T_Band × T_bk_Drum) : AV := (A_Band r.1)
attribute [local simp] v_bk_BandOf
theorem b_bk_BandOf (r : T_Band × T_bk_Drum) (n n2 m : Nat) : back n n2 m (v_bk_BandOf r) = some (v_bk_BandOf r) := by simp
theorem d_bk_BandOf (N : Nat) (d_1 : T_bk_Drum) (c_2 : T_City) (r : T_Band × T_bk_Drum) (h : p_bk_BandOf N d_1 c_2 = some r) : Does Tryd.prog 18 [.ptr 0 0, (A_City c_2)] [(C_bk_Drum d_1)] fun v c => v = v_bk_BandOf r ∧ c = [(C_bk_Drum r.2)] := by
 unfold p_bk_BandOf at h
 refine Does.ofL comp18 _ _ rfl rfl ?_
 refine Ex.seq (rg 2 [0, 3, 4] (mkS 93 [(0, .ptr 0 0), (3, .ptr 1 0), (4, .ptr 2 0)]) ⟨[(C_bk_Drum d_1), (C_City c_2), [i6 0, .nils, i6 0, i6 0, i6 0, i6 0]], []⟩ ?_)
 refine Ex.seq ?_
 obtain ⟨r_3, hr_3, h⟩ := bE h
 refine Ex.reg ?_
 refine runH 5 [(4, .eq (i6 ((c_2.Town.Rooms.length : Nat) : Int)))] [0, 3, 4, 11, 15] [AV.int .i64 (((c_2.Town.Rooms.map (AV.int .i64)).length : Nat) : Int) = AV.int .i64 ((c_2.Town.Rooms.length : Nat) : Int)] (mkS 93 [(0, .ptr 0 0), (3, .ptr 1 0), (4, .ptr 2 0), (11, .ptr 0 0), (15, i6 ((c_2.Town.Rooms.length : Nat) : Int))]) (⟨[(C_bk_Drum d_1), (C_City c_2), [i6 0, .nils, i6 0, i6 0, i6 0, i6 0]], []⟩) (by kernel_rfl) ⟨lenM _ _, trivial⟩ ?_
 refine ExO.callL [0] [.ptr 0 0, i6 ((c_2.Town.Rooms.length : Nat) : Int)] rfl rfl (by simp; try rfl) rfl (by simp) (d_bk_Drum_Roll N d_1 ((c_2.Town.Rooms.length : Nat) : Int) r_3 hr_3) (b_bk_Drum_Roll _ _ _ _) (by simp) ?_
 obtain ⟨r_4, hr_4, h⟩ := bE h
 refine rn 3 [0, 3, 4, 16, 17, 18, 19] (mkS 93 [(0, .ptr 0 0), (3, .ptr 1 0), (4, .ptr 2 0), (16, i6 r_3.1), (17, .ptr 0 0), (18, .ptr 0 0), (19, .sl (([6, 20] : List Int).map (AV.int .i64)) (some 0))]) ⟨[(C_bk_Drum r_3.2), (C_City c_2), [i6 0, .nils, i6 0, i6 0, i6 0, i6 0]], [(2, 1)]⟩ ?_
 refine ExO.callL [0] [.ptr 0 0, .sl (([6, 20] : List Int).map (AV.int .i64)) (some 0)] rfl rfl (by simp; try rfl) rfl (by simp) (d_bk_Drum_Any N r_3.2 [6, 20] r_4 hr_4) (b_bk_Drum_Any _ _ _ _) (by simp) ?_
 obtain ⟨r_5, hr_5, h⟩ := bE h
 refine ExO.callL [0] [.ptr 0 0, i6 1, i6 r_4.1] rfl rfl (by simp; try rfl) rfl (by simp) (d_bk_Drum_Mid N r_4.2 1 r_4.1 r_5 hr_5) (b_bk_Drum_Mid _ _ _ _) (by simp) ?_
 obtain ⟨r_6, hr_6, h⟩ := bE h
 refine rn 2 [0, 3, 4, 16, 21, 22, 23] (mkS 93 [(0, .ptr 0 0), (3, .ptr 1 0), (4, .ptr 2 0), (16, i6 r_3.1), (21, i6 r_5.1), (22, .ptr 0 0), (23, .ptr 0 0)]) ⟨[(C_bk_Drum r_5.2), (C_City c_2), [i6 0, .nils, i6 0, i6 0, i6 0, i6 0]], [(2, 1)]⟩ ?_
 refine ExO.callL [0] [.ptr 0 0, i6 60] rfl rfl (by simp; try rfl) rfl (by simp) (d_bk_Drum_Roll N r_5.2 60 r_6 hr_6) (b_bk_Drum_Roll _ _ _ _) (by simp) ?_
 obtain ⟨r_7, hr_7, h⟩ := bE h
 refine rn 1 [0, 3, 4, 16, 21, 22, 24, 25] (mkS 93 [(0, .ptr 0 0), (3, .ptr 1 0), (4, .ptr 2 0), (16, i6 r_3.1), (21, i6 r_5.1), (22, .ptr 0 0), (24, i6 r_6.1), (25, .ptr 0 0)]) ⟨[(C_bk_Drum r_6.2), (C_City c_2), [i6 0, .nils, i6 0, i6 0, i6 0, i6 0]], [(2, 1)]⟩ ?_
 refine ExO.callL [0] [.ptr 0 0, i6 600] rfl rfl (by simp; try rfl) rfl (by simp) (d_bk_Drum_Roll N r_6.2 600 r_7 hr_7) (b_bk_Drum_Roll _ _ _ _) (by simp) ?_
 obtain ⟨r_8, hr_8, h⟩ := bE h
 refine rn 1 [0, 3, 4, 16, 21, 22, 27] (mkS 93 [(0, .ptr 0 0), (3, .ptr 1 0), (4, .ptr 2 0), (16, i6 r_3.1), (21, i6 r_5.1), (22, .ptr 0 0), (27, .sl (([0, r_6.1, r_7.1] : List Int).map (AV.int .i64)) (some 1))]) ⟨[(C_bk_Drum r_7.2), (C_City c_2), [i6 0, .nils, i6 0, i6 0, i6 0, i6 0]], [(2, 1), (3, 1)]⟩ ?_
 refine ExO.callL [0] [.ptr 0 0, .sl (([0, r_6.1, r_7.1] : List Int).map (AV.int .i64)) (some 1)] rfl rfl (by simp; try rfl) rfl (by simp) (d_bk_Drum_Any N r_7.2 [0, r_6.1, r_7.1] r_8 hr_8) (b_bk_Drum_Any _ _ _ _) (by simp) ?_
 refine rn 3 [0, 3, 4, 5] (mkS 93 [(0, .ptr 0 0), (3, .ptr 1 0), (4, .ptr 2 0), (5, .ptr 3 0)]) ⟨[(C_bk_Drum r_8.2), (C_City c_2), [i6 0, .nils, i6 0, i6 0, i6 0, i6 0], [i6 r_3.1, .nils, i6 0, i6 0, i6 r_5.1, i6 r_8.1]], [(2, 1), (3, 1)]⟩ ?_
 refine ExO.nil ?_
 refine Ex.seq (rg 3 [0, 3, 4, 5, 6] (mkS 93 [(0, .ptr 0 0), (3, .ptr 1 0), (4, .ptr 2 0), (5, .ptr 3 0), (6, i6 r_3.1)]) ⟨[(C_bk_Drum r_8.2), (C_City c_2), [i6 0, .nils, i6 0, i6 0, i6 0, i6 0], [i6 r_3.1, .nils, i6 0, i6 0, i6 r_5.1, i6 r_8.1]], [(2, 1), (3, 1)]⟩ ?_)
 refine Ex.seq (Ex.seq ?_)
 obtain ⟨r_9, hr_9, h⟩ := bE h
 refine Ex.reg (rn 1 [0, 3, 4, 5, 6, 32] (mkS 93 [(0, .ptr 0 0), (3, .ptr 1 0), (4, .ptr 2 0), (5, .ptr 3 0), (6, i6 r_3.1), (32, .ptr 0 0)]) ⟨[(C_bk_Drum r_8.2), (C_City c_2), [i6 0, .nils, i6 0, i6 0, i6 0, i6 0], [i6 r_3.1, .nils, i6 0, i6 0, i6 r_5.1, i6 r_8.1]], [(2, 1), (3, 1)]⟩ ?_)
 refine ExO.callL [0] [.ptr 0 0, i6 5] rfl rfl (by simp; try rfl) rfl (by simp) (d_bk_Drum_Roll N r_8.2 5 r_9 hr_9) (b_bk_Drum_Roll _ _ _ _) (by simp) ?_
 refine rn 1 [0, 3, 4, 5, 6, 7] (mkS 93 [(0, .ptr 0 0), (3, .ptr 1 0), (4, .ptr 2 0), (5, .ptr 3 0), (6, i6 r_3.1), (7, i6 r_9.1)]) ⟨[(C_bk_Drum r_9.2), (C_City c_2), [i6 0, .nils, i6 0, i6 0, i6 0, i6 0], [i6 r_3.1, .nils, i6 0, i6 0, i6 r_5.1, i6 r_8.1]], [(2, 1), (3, 1)]⟩ ?_
 refine ExO.nil ?_
 obtain ⟨K_13, hK_14, h⟩ := letE h
 refine Ex.blockJ (fun a S => ∃ (b_10 : Int), ∃ (b_11 : List Int), K_13 b_10 b_11 = some r ∧ a = mkS 93 [(0, .ptr 0 0), (4, .ptr 2 0), (5, .ptr 3 0)] ∧ S = ⟨[[.int .u64 b_10], (C_City c_2), [i6 0, .nils, i6 0, i6 0, i6 0, i6 0], [i6 r_3.1, .sl (b_11.map (AV.int .i64)) (some 0), i6 0, i6 0, i6 r_5.1, i6 r_8.1]], [(b_11.length, 1)]⟩) ?_ ?_
 ·refine Ex.forget (nilB 3 1 1 [i6 r_3.1, .nils, i6 0, i6 0, i6 r_5.1, i6 r_8.1] rfl rfl) ?_
  refine Ex.castA (a2 := mkS 93 [(0, .ptr 0 0), (3, .ptr 1 0), (4, .ptr 2 0), (5, .ptr 3 0), (6, i6 r_3.1), (7, i6 r_9.1)]) (S2 := ⟨[(C_bk_Drum r_9.2), (C_City c_2), [i6 0, .nils, i6 0, i6 0, i6 0, i6 0], [i6 r_3.1, .sl (([] : List Int).map (AV.int .i64)) (some 2), i6 0, i6 0, i6 r_5.1, i6 r_8.1]], [(2, 1), (3, 1), (0, 1)]⟩) (by kernel_rfl) (by kernel_rfl) ?_
  obtain ⟨B_20, hB_21, h⟩ := loop4I h
  refine Ex.loopF (fun k a S => ∃ (at_15 : Int), ∃ (i_16 : Int), ∃ (b_17 : Int), ∃ (b_18 : List Int), loop4 B_20 k at_15 i_16 b_17 b_18 = some r ∧ a = mkS 93 [(0, .ptr 0 0), (3, .ptr 1 0), (4, .ptr 2 0), (5, .ptr 3 0), (6, i6 at_15), (7, i6 i_16)] ∧ S = ⟨[[.int .u64 b_17], (C_City c_2), [i6 0, .nils, i6 0, i6 0, i6 0, i6 0], [i6 r_3.1, .sl (b_18.map (AV.int .i64)) (some 0), i6 0, i6 0, i6 r_5.1, i6 r_8.1]], [(b_18.length, 1)]⟩) N ⟨_, _, forgetA (m := 93) 4 [2] [(0, .ptr 0 0), (3, .ptr 1 0), (4, .ptr 2 0), (5, .ptr 3 0), (6, i6 r_3.1), (7, i6 r_9.1)] [(C_bk_Drum r_9.2), (C_City c_2), [i6 0, .nils, i6 0, i6 0, i6 0, i6 0], [i6 r_3.1, .sl (([] : List Int).map (AV.int .i64)) (some 0), i6 0, i6 0, i6 r_5.1, i6 r_8.1]] [(0, 1)] (by simp [setAll]) (by simp) ⟨rfl, rfl, rfl, rfl, rfl, rfl, trivial⟩ (by simp) rfl (by decide), r_3.1, r_9.1, r_9.2.beat_, [], h, rfl, rfl⟩ ?_
  rintro k a S ⟨at_15, i_16, b_17, b_18, h, rfl, rfl⟩
  cases k with
  | zero => exact (loop4Z h).elim
  | succ k =>
   replace h := loop4S h hB_21
   refine Ex.seq ?_
   obtain ⟨K_24, hK_25, h⟩ := letE h
   refine Ex.seqJ (fun a S => ∃ (y_22 : Bool), K_24 y_22 = some r ∧ a = mkS 93 [(0, .ptr 0 0), (3, .ptr 1 0), (4, .ptr 2 0), (5, .ptr 3 0), (6, i6 at_15), (7, i6 i_16), (42, .bool y_22)] ∧ S = ⟨[[.int .u64 b_17], (C_City c_2), [i6 0, .nils, i6 0, i6 0, i6 0, i6 0], [i6 r_3.1, .sl (b_18.map (AV.int .i64)) (some 0), i6 0, i6 0, i6 r_5.1, i6 r_8.1]], [(b_18.length, 1)]⟩) ?_ ?_
   ·rcases condI h with ⟨hc_26, h⟩ | ⟨hc_26, h⟩
    ·refine regH 9 [(2, .eq (.bool true)), (6, .eq (i6 ((c_2.Town.Streets.length : Nat) : Int)))] [0, 3, 4, 5, 6, 7, 42] [AV.bool (decide (i_16 > 0)) = AV.bool true, AV.int .i64 (((c_2.Town.Streets.map A_Street).length : Nat) : Int) = AV.int .i64 ((c_2.Town.Streets.length : Nat) : Int)] (mkS 93 [(0, .ptr 0 0), (3, .ptr 1 0), (4, .ptr 2 0), (5, .ptr 3 0), (6, i6 at_15), (7, i6 i_16), (42, .bool (decide (((c_2.Town.Streets.length : Nat) : Int) > 0)))]) (⟨[[.int .u64 b_17], (C_City c_2), [i6 0, .nils, i6 0, i6 0, i6 0, i6 0], [i6 r_3.1, .sl (b_18.map (AV.int .i64)) (some 0), i6 0, i6 0, i6 r_5.1, i6 r_8.1]], [(b_18.length, 1)]⟩) (by kernel_rfl) ⟨congrArg AV.bool hc_26, lenM _ _, trivial⟩ rfl ?_
     (try simp only [reduceCtorEq, AEx.ex.injEq, Nat.reduceEqDiff, if_true, if_false])
     exact ⟨_, _, Forgets.refl _ _ _, (decide (((c_2.Town.Streets.length : Nat) : Int) > 0)), h, rfl, rfl⟩
    ·refine regH 9 [(2, .eq (.bool false))] [0, 3, 4, 5, 6, 7, 42] [AV.bool (decide (i_16 > 0)) = AV.bool false] (mkS 93 [(0, .ptr 0 0), (3, .ptr 1 0), (4, .ptr 2 0), (5, .ptr 3 0), (6, i6 at_15), (7, i6 i_16), (42, .bool false)]) (⟨[[.int .u64 b_17], (C_City c_2), [i6 0, .nils, i6 0, i6 0, i6 0, i6 0], [i6 r_3.1, .sl (b_18.map (AV.int .i64)) (some 0), i6 0, i6 0, i6 r_5.1, i6 r_8.1]], [(b_18.length, 1)]⟩) (by kernel_rfl) ⟨congrArg AV.bool hc_26, trivial⟩ rfl ?_
     (try simp only [reduceCtorEq, AEx.ex.injEq, Nat.reduceEqDiff, if_true, if_false])
     exact ⟨_, _, Forgets.refl _ _ _, false, h, rfl, rfl⟩
   ·rintro a S ⟨y_22, h, rfl, rfl⟩
    subst hK_25
    rcases condI h with ⟨hc_27, h⟩ | ⟨hc_27, h⟩
    ·refine Ex.condT _ rfl hc_27 ?_
     refine Ex.skip ?_
     refine Ex.seq ?_
     obtain ⟨K_32, hK_33, h⟩ := letE h
     refine Ex.blockJ (fun a S => ∃ (at_28 : Int), ∃ (b_29 : Int), ∃ (b_30 : List Int), K_32 at_28 b_29 b_30 = some r ∧ a = mkS 93 [(0, .ptr 0 0), (3, .ptr 1 0), (4, .ptr 2 0), (5, .ptr 3 0), (6, i6 at_28), (7, i6 i_16)] ∧ S = ⟨[[.int .u64 b_29], (C_City c_2), [i6 0, .nils, i6 0, i6 0, i6 0, i6 0], [i6 r_3.1, .sl (b_30.map (AV.int .i64)) (some 0), i6 0, i6 0, i6 r_5.1, i6 r_8.1]], [(b_30.length, 1)]⟩) ?_ ?_
     ·refine Ex.seq ?_
      obtain ⟨r_34, hr_34, h⟩ := bE h
      refine Ex.reg ?_
      refine runH 5 [(4, .eq (i6 ((c_2.Town.Streets.length : Nat) : Int)))] [0, 3, 4, 5, 6, 7, 45, 49] [AV.int .i64 (((c_2.Town.Streets.map A_Street).length : Nat) : Int) = AV.int .i64 ((c_2.Town.Streets.length : Nat) : Int)] (mkS 93 [(0, .ptr 0 0), (3, .ptr 1 0), (4, .ptr 2 0), (5, .ptr 3 0), (6, i6 at_15), (7, i6 i_16), (45, .ptr 0 0), (49, i6 ((c_2.Town.Streets.length : Nat) : Int))]) (⟨[[.int .u64 b_17], (C_City c_2), [i6 0, .nils, i6 0, i6 0, i6 0, i6 0], [i6 r_3.1, .sl (b_18.map (AV.int .i64)) (some 0), i6 0, i6 0, i6 r_5.1, i6 r_8.1]], [(b_18.length, 1)]⟩) (by kernel_rfl) ⟨lenM _ _, trivial⟩ ?_
      refine ExO.callL [0] [.ptr 0 0, i6 ((c_2.Town.Streets.length : Nat) : Int)] rfl rfl (by simp; try rfl) rfl (by simp) (d_bk_Drum_Roll N (⟨b_17⟩ : T_bk_Drum) ((c_2.Town.Streets.length : Nat) : Int) r_34 hr_34) (b_bk_Drum_Roll _ _ _ _) (by simp) ?_
      refine rn 1 [0, 3, 4, 5, 6, 7, 8] (mkS 93 [(0, .ptr 0 0), (3, .ptr 1 0), (4, .ptr 2 0), (5, .ptr 3 0), (6, i6 at_15), (7, i6 i_16), (8, i6 r_34.1)]) ⟨[(C_bk_Drum r_34.2), (C_City c_2), [i6 0, .nils, i6 0, i6 0, i6 0, i6 0], [i6 r_3.1, .sl (b_18.map (AV.int .i64)) (some 0), i6 0, i6 0, i6 r_5.1, i6 r_8.1]], [(b_18.length, 1)]⟩ ?_
      refine ExO.nil ?_
      refine Ex.seq ?_
      obtain ⟨x_35, hx_35, h⟩ := bE h
      obtain ⟨r_36, hr_36, h⟩ := bE h
      refine Ex.reg ?_
      refine runH 7 [(4, .rop (C_Street x_35))] [0, 3, 4, 5, 6, 7, 8, 56, 57] [LGet (c_2.Town.Streets.map A_Street) r_34.1 2 (C_Street x_35)] (mkS 93 [(0, .ptr 0 0), (3, .ptr 1 0), (4, .ptr 2 0), (5, .ptr 3 0), (6, i6 at_15), (7, i6 i_16), (8, i6 r_34.1), (56, (A_Street x_35)), (57, i6 at_15)]) (⟨[(C_bk_Drum r_34.2), (C_City c_2), [i6 0, .nils, i6 0, i6 0, i6 0, i6 0], [i6 r_3.1, .sl (b_18.map (AV.int .i64)) (some 0), i6 0, i6 0, i6 r_5.1, i6 r_8.1]], [(b_18.length, 1)]⟩) (by kernel_rfl) ⟨LGet.of hx_35 rfl, trivial⟩ ?_
      refine ExO.callL [] [(A_Street x_35), i6 at_15] rfl rfl (a_br6_Other x_35 at_15) rfl rfl (d_br6_Other N x_35 at_15 r_36 hr_36) (b_br6_Other _ _ _ _) rfl ?_
      refine rn 1 [0, 3, 4, 5, 6, 7, 8, 9] (mkS 93 [(0, .ptr 0 0), (3, .ptr 1 0), (4, .ptr 2 0), (5, .ptr 3 0), (6, i6 at_15), (7, i6 i_16), (8, i6 r_34.1), (9, i6 r_36)]) ⟨[(C_bk_Drum r_34.2), (C_City c_2), [i6 0, .nils, i6 0, i6 0, i6 0, i6 0], [i6 r_3.1, .sl (b_18.map (AV.int .i64)) (some 0), i6 0, i6 0, i6 r_5.1, i6 r_8.1]], [(b_18.length, 1)]⟩ ?_
      refine ExO.nil ?_
      refine Ex.seq (rg 2 [0, 3, 4, 5, 6, 7, 8, 9, 60] (mkS 93 [(0, .ptr 0 0), (3, .ptr 1 0), (4, .ptr 2 0), (5, .ptr 3 0), (6, i6 at_15), (7, i6 i_16), (8, i6 r_34.1), (9, i6 r_36), (60, .bool (decide (r_36 ≥ 0)))]) ⟨[(C_bk_Drum r_34.2), (C_City c_2), [i6 0, .nils, i6 0, i6 0, i6 0, i6 0], [i6 r_3.1, .sl (b_18.map (AV.int .i64)) (some 0), i6 0, i6 0, i6 r_5.1, i6 r_8.1]], [(b_18.length, 1)]⟩ ?_)
      rcases condI h with ⟨hc_37, h⟩ | ⟨hc_37, h⟩
      ·refine Ex.condT _ rfl hc_37 ?_
       obtain ⟨l_38, hl_38, h⟩ := bE h
       refine regH 9 [(4, .app (l_38.map (AV.int .i64)) l_38.length)] [0, 3, 4, 5, 6, 7] [LApp b_18.length (b_18.map (AV.int .i64)) (([r_34.1] : List Int).map (AV.int .i64)) 1 (l_38.map (AV.int .i64)) l_38.length] (mkS 93 [(0, .ptr 0 0), (3, .ptr 1 0), (4, .ptr 2 0), (5, .ptr 3 0), (6, i6 r_36), (7, i6 i_16)]) (⟨[(C_bk_Drum r_34.2), (C_City c_2), [i6 0, .nils, i6 0, i6 0, i6 0, i6 0], [i6 r_3.1, .sl (l_38.map (AV.int .i64)) (some 0), i6 0, i6 0, i6 r_5.1, i6 r_8.1]], [(l_38.length, 1), (1, 1)]⟩) (by kernel_rfl) ⟨LApp.of hl_38 (fun _ => rfl), trivial⟩ rfl ?_
       (try simp only [reduceCtorEq, AEx.ex.injEq, Nat.reduceEqDiff, if_true, if_false])
       exact ⟨_, _, forgetA (m := 93) 4 [0] [(0, .ptr 0 0), (3, .ptr 1 0), (4, .ptr 2 0), (5, .ptr 3 0), (6, i6 r_36), (7, i6 i_16)] [(C_bk_Drum r_34.2), (C_City c_2), [i6 0, .nils, i6 0, i6 0, i6 0, i6 0], [i6 r_3.1, .sl (l_38.map (AV.int .i64)) (some 0), i6 0, i6 0, i6 r_5.1, i6 r_8.1]] [(l_38.length, 1)] (by simp [setAll]) (by simp) ⟨rfl, rfl, rfl, rfl, rfl, rfl, trivial⟩ (by simp) rfl (by decide), r_36, r_34.2.beat_, l_38, h, rfl, rfl⟩
      ·refine Ex.condF _ rfl hc_37 ?_
       refine Ex.skip ?_
       (try simp only [reduceCtorEq, AEx.ex.injEq, Nat.reduceEqDiff, if_true, if_false])
       exact ⟨_, _, forgetK [0, 3, 4, 5, 6, 7], at_15, r_34.2.beat_, b_18, h, rfl, rfl⟩
     ·rintro a S ⟨at_28, b_29, b_30, h, rfl, rfl⟩
      subst hK_33
      refine rg 3 [0, 3, 4, 5, 6, 7] (mkS 93 [(0, .ptr 0 0), (3, .ptr 1 0), (4, .ptr 2 0), (5, .ptr 3 0), (6, i6 at_28), (7, i6 (IntKind.i64.wrap (i_16 - 1)))]) ⟨[[.int .u64 b_29], (C_City c_2), [i6 0, .nils, i6 0, i6 0, i6 0, i6 0], [i6 r_3.1, .sl (b_30.map (AV.int .i64)) (some 0), i6 0, i6 0, i6 r_5.1, i6 r_8.1]], [(b_30.length, 1)]⟩ ?_
      dsimp only
      exact ⟨_, _, Forgets.refl _ _ _, k, Nat.lt_succ_self k, at_28, (IntKind.i64.wrap (i_16 - 1)), b_29, b_30, h, rfl, rfl⟩
    ·refine Ex.condF _ rfl hc_27 ?_
     refine Ex.exit ?_
     (try simp only [reduceCtorEq, AEx.ex.injEq, Nat.reduceEqDiff, if_true, if_false])
     exact ⟨_, _, forgetK [0, 4, 5], b_17, b_18, h, rfl, rfl⟩
 ·rintro a S ⟨b_10, b_11, h, rfl, rfl⟩
  subst hK_14
  refine Ex.seq ?_
  obtain ⟨n_39, hn_39, h⟩ := bE h
  obtain ⟨r_40, hr_40, h⟩ := bE h
  refine Ex.reg ?_
  refine runH 12 [(6, .eq (i6 ((b_11.length : Nat) : Int))), (9, .eq (i6 n_39))] [0, 4, 5, 68, 69, 79] [AV.int .i64 (((b_11.map (AV.int .i64)).length : Nat) : Int) = AV.int .i64 ((b_11.length : Nat) : Int), AV.int .i64 (IntKind.i64.wrap (720 - (IntKind.i64.wrap (r_5.1 * (IntKind.i64.wrap (((b_11.length : Nat) : Int) + 1)))))) = AV.int .i64 n_39] (mkS 93 [(0, .ptr 0 0), (4, .ptr 2 0), (5, .ptr 3 0), (68, .ptr 0 0), (69, .ptr 0 0), (79, .sl (([60, 200, (IntKind.i64.wrap (n_39 - 4))] : List Int).map (AV.int .i64)) (some 1))]) (⟨[[.int .u64 b_10], (C_City c_2), [i6 0, .nils, i6 0, i6 0, i6 0, i6 0], [i6 r_3.1, .sl (b_11.map (AV.int .i64)) (some 0), i6 0, i6 0, i6 r_5.1, i6 r_8.1]], [(b_11.length, 1), (3, 1)]⟩) (by kernel_rfl) ⟨lenM _ _, congrArg (AV.int .i64) (Option.some.inj hn_39), trivial⟩ ?_
  refine ExO.callL [0] [.ptr 0 0, .sl (([60, 200, (IntKind.i64.wrap (n_39 - 4))] : List Int).map (AV.int .i64)) (some 1)] rfl rfl (by simp; try rfl) rfl (by simp) (d_bk_Drum_Any N (⟨b_10⟩ : T_bk_Drum) [60, 200, (IntKind.i64.wrap (n_39 - 4))] r_40 hr_40) (b_bk_Drum_Any _ _ _ _) (by simp) ?_
  obtain ⟨r_41, hr_41, h⟩ := bE h
  refine ExO.callL [0] [.ptr 0 0, i6 r_40.1] rfl rfl (by simp; try rfl) rfl (by simp) (d_bk_Drum_Roll N r_40.2 r_40.1 r_41 hr_41) (b_bk_Drum_Roll _ _ _ _) (by simp) ?_
  refine rn 1 [0, 4, 5, 10] (mkS 93 [(0, .ptr 0 0), (4, .ptr 2 0), (5, .ptr 3 0), (10, i6 r_41.1)]) ⟨[(C_bk_Drum r_41.2), (C_City c_2), [i6 0, .nils, i6 0, i6 0, i6 0, i6 0], [i6 r_3.1, .sl (b_11.map (AV.int .i64)) (some 0), i6 0, i6 0, i6 r_5.1, i6 r_8.1]], [(b_11.length, 1), (3, 1)]⟩ ?_
  refine ExO.nil ?_
  refine Ex.seq ?_
  obtain ⟨r_42, hr_42, h⟩ := bE h
  refine Ex.reg (rn 4 [4, 5, 82, 83, 84, 85] (mkS 93 [(4, .ptr 2 0), (5, .ptr 3 0), (82, i6 r_41.1), (83, i6 r_41.1), (84, .ptr 0 0), (85, .ptr 0 0)]) ⟨[(C_bk_Drum r_41.2), (C_City c_2), [i6 0, .nils, i6 0, i6 0, i6 0, i6 0], [i6 r_3.1, .sl (b_11.map (AV.int .i64)) (some 0), i6 0, i6 0, i6 r_5.1, i6 r_8.1]], [(b_11.length, 1), (3, 1)]⟩ ?_)
  refine ExO.callL [0] [.ptr 0 0, i6 5] rfl rfl (by simp; try rfl) rfl (by simp) (d_bk_Drum_Roll N r_41.2 5 r_42 hr_42) (b_bk_Drum_Roll _ _ _ _) (by simp) ?_
  obtain ⟨r_43, hr_43, h⟩ := bE h
  refine rn 1 [4, 5, 82, 83, 84, 87] (mkS 93 [(4, .ptr 2 0), (5, .ptr 3 0), (82, i6 r_41.1), (83, i6 r_41.1), (84, .ptr 0 0), (87, .sl (([0, 0, r_42.1] : List Int).map (AV.int .i64)) (some 2))]) ⟨[(C_bk_Drum r_42.2), (C_City c_2), [i6 0, .nils, i6 0, i6 0, i6 0, i6 0], [i6 r_3.1, .sl (b_11.map (AV.int .i64)) (some 0), i6 0, i6 0, i6 r_5.1, i6 r_8.1]], [(b_11.length, 1), (3, 1), (3, 1)]⟩ ?_
  refine ExO.callL [0] [.ptr 0 0, .sl (([0, 0, r_42.1] : List Int).map (AV.int .i64)) (some 2)] rfl rfl (by simp; try rfl) rfl (by simp) (d_bk_Drum_Any N r_42.2 [0, 0, r_42.1] r_43 hr_43) (b_bk_Drum_Any _ _ _ _) (by simp) ?_
  refine rn 4 [4, 5] (mkS 93 [(4, .ptr 2 0), (5, .ptr 3 0)]) ⟨[(C_bk_Drum r_43.2), (C_City c_2), [i6 0, .nils, i6 0, i6 0, i6 0, i6 0], [i6 r_3.1, .sl (b_11.map (AV.int .i64)) (some 0), i6 r_41.1, i6 (IntKind.i64.wrap (r_41.1 + r_43.1)), i6 r_5.1, i6 r_8.1]], [(b_11.length, 1), (3, 1), (3, 1)]⟩ ?_
  refine ExO.nil ?_
  refine Ex.seq (rg 2 [4] (mkS 93 [(4, .ptr 2 0)]) ⟨[(C_bk_Drum r_43.2), (C_City c_2), [i6 r_3.1, .sl (b_11.map (AV.int .i64)) (some 0), i6 r_41.1, i6 (IntKind.i64.wrap (r_41.1 + r_43.1)), i6 r_5.1, i6 r_8.1], [i6 r_3.1, .sl (b_11.map (AV.int .i64)) (some 0), i6 r_41.1, i6 (IntKind.i64.wrap (r_41.1 + r_43.1)), i6 r_5.1, i6 r_8.1]], [(b_11.length, 1), (3, 1), (3, 1)]⟩ ?_)
  refine Ex.ret ?_
  obtain rfl := sJ h
  exact rt (.agg [i6 r_3.1, .sl (b_11.map (AV.int .i64)) (some 0), i6 r_41.1, i6 (IntKind.i64.wrap (r_41.1 + r_43.1)), i6 r_5.1, i6 r_8.1])
def p_bk_BandsOf (N : Nat) (d_1 : T_bk_Drum) (c_2 : T_City) (most_3 : Int) : Option ((List T_Band) × T_bk_Drum) := ((p_bk_Drum_Roll N d_1 (IntKind.i64.wrap (most_3 + 1))).bind fun r_4 => (letJ (fun (out_5 : List T_Band) (b_6 : Int) => some (out_5, (⟨b_6⟩ : T_bk_Drum))) (fun k_7 => (loop3 (fun rec_13 (out_10 : List T_Band) (i_11 : Int) (b_12 : Int) => (bif (decide (i_11 > 0)) then ((p_bk_BandOf N (⟨b_12⟩ : T_bk_Drum) c_2).bind fun r_17 => ((pushI out_10 ([r_17.1] : List T_Band)).bind fun l_18 => (rec_13 l_18 (IntKind.i64.wrap (i_11 - 1)) r_17.2.beat_))) else (k_7 out_10 b_12))) N [] r_4.1 r_4.2.beat_))))
def v_bk_BandsOf (r : (List T_Band) × T_bk_Drum) : AV := .sl (r.1.map A_Band) none
attribute [local simp] v_bk_BandsOf
theorem b_bk_BandsOf (r : (List T_Band) × T_bk_Drum) (n n2 m : Nat) : back n n2 m (v_bk_BandsOf r) = some (v_bk_BandsOf r) := by simp
theorem d_bk_BandsOf (N : Nat) (d_1 : T_bk_Drum) (c_2 : T_City) (most_3 : Int) (r : (List T_Band) × T_bk_Drum) (h : p_bk_BandsOf N d_1 c_2 most_3 = some r) : Does Tryd.prog 17 [.ptr 0 0, (A_City c_2), i6 most_3] [(C_bk_Drum d_1)] fun v c => v = v_bk_BandsOf r ∧ c = [(C_bk_Drum r.2)] := by
 unfold p_bk_BandsOf at h
 refine Does.ofL comp17 _ _ rfl rfl ?_
 refine Ex.seq (rg 2 [0, 2, 4] (mkS 24 [(0, .ptr 0 0), (2, i6 most_3), (4, .ptr 1 0)]) ⟨[(C_bk_Drum d_1), (C_City c_2)], []⟩ ?_)
 refine Ex.seq (rg 1 [0, 2, 4, 7] (mkS 24 [(0, .ptr 0 0), (2, i6 most_3), (4, .ptr 1 0), (7, .nils)]) ⟨[(C_bk_Drum d_1), (C_City c_2)], []⟩ ?_)
 refine Ex.seq (Ex.seq ?_)
 obtain ⟨r_4, hr_4, h⟩ := bE h
 refine Ex.reg (rn 3 [0, 4, 7, 9, 11] (mkS 24 [(0, .ptr 0 0), (4, .ptr 1 0), (7, .nils), (9, .ptr 0 0), (11, i6 (IntKind.i64.wrap (most_3 + 1)))]) ⟨[(C_bk_Drum d_1), (C_City c_2)], []⟩ ?_)
 refine ExO.callL [0] [.ptr 0 0, i6 (IntKind.i64.wrap (most_3 + 1))] rfl rfl (by simp; try rfl) rfl (by simp) (d_bk_Drum_Roll N d_1 (IntKind.i64.wrap (most_3 + 1)) r_4 hr_4) (b_bk_Drum_Roll _ _ _ _) (by simp) ?_
 refine rn 1 [0, 4, 7, 8] (mkS 24 [(0, .ptr 0 0), (4, .ptr 1 0), (7, .nils), (8, i6 r_4.1)]) ⟨[(C_bk_Drum r_4.2), (C_City c_2)], []⟩ ?_
 refine ExO.nil ?_
 obtain ⟨K_8, hK_9, h⟩ := letE h
 refine Ex.blockJ (fun a S => ∃ (out_5 : List T_Band), ∃ (b_6 : Int), K_8 out_5 b_6 = some r ∧ a = mkS 24 [(7, .sl (out_5.map A_Band) (some 0))] ∧ S = ⟨[[.int .u64 b_6]], [(out_5.length, 6)]⟩) ?_ ?_
 ·refine Ex.forget (nilK 7 6 rfl) ?_
  refine Ex.castA (a2 := mkS 24 [(0, .ptr 0 0), (4, .ptr 1 0), (7, .sl (([] : List T_Band).map A_Band) (some 0)), (8, i6 r_4.1)]) (S2 := ⟨[(C_bk_Drum r_4.2), (C_City c_2)], [(0, 6)]⟩) (by kernel_rfl) (by kernel_rfl) ?_
  obtain ⟨B_14, hB_15, h⟩ := loop3I h
  refine Ex.loopF (fun k a S => ∃ (out_10 : List T_Band), ∃ (i_11 : Int), ∃ (b_12 : Int), loop3 B_14 k out_10 i_11 b_12 = some r ∧ a = mkS 24 [(0, .ptr 0 0), (4, .ptr 1 0), (7, .sl (out_10.map A_Band) (some 0)), (8, i6 i_11)] ∧ S = ⟨[[.int .u64 b_12], (C_City c_2)], [(out_10.length, 6)]⟩) N ⟨_, _, Forgets.refl _ _ _, [], r_4.1, r_4.2.beat_, h, rfl, rfl⟩ ?_
  rintro k a S ⟨out_10, i_11, b_12, h, rfl, rfl⟩
  cases k with
  | zero => exact (loop3Z h).elim
  | succ k =>
   replace h := loop3S h hB_15
   refine Ex.seq (Ex.seq ?_)
   refine rg 2 [0, 4, 7, 8, 14] (mkS 24 [(0, .ptr 0 0), (4, .ptr 1 0), (7, .sl (out_10.map A_Band) (some 0)), (8, i6 i_11), (14, .bool (decide (i_11 > 0)))]) ⟨[[.int .u64 b_12], (C_City c_2)], [(out_10.length, 6)]⟩ ?_
   rcases condI h with ⟨hc_16, h⟩ | ⟨hc_16, h⟩
   ·refine Ex.condT _ rfl hc_16 ?_
    refine Ex.skip ?_
    refine Ex.seq ?_
    refine Ex.blockK ?_
    refine Ex.postF ?_
    obtain ⟨r_17, hr_17, h⟩ := bE h
    refine Ex.reg (rn 3 [0, 4, 8, 17, 18, 19] (mkS 24 [(0, .ptr 0 0), (4, .ptr 1 0), (8, i6 i_11), (17, .sl (out_10.map A_Band) (some 0)), (18, .ptr 0 0), (19, (A_City c_2))]) ⟨[[.int .u64 b_12], (C_City c_2)], [(out_10.length, 6)]⟩ ?_)
    refine ExO.callL [0] [.ptr 0 0, (A_City c_2)] rfl rfl (by simp; try rfl) rfl (by simp) (d_bk_BandOf N (⟨b_12⟩ : T_bk_Drum) c_2 r_17 hr_17) (b_bk_BandOf _ _ _ _) (by simp) ?_
    obtain ⟨l_18, hl_18, h⟩ := bE h
    refine runH 3 [(1, .app (l_18.map A_Band) l_18.length)] [0, 4, 7, 8] [LApp out_10.length (out_10.map A_Band) (([r_17.1] : List T_Band).map A_Band) 6 (l_18.map A_Band) l_18.length] (mkS 24 [(0, .ptr 0 0), (4, .ptr 1 0), (7, .sl (l_18.map A_Band) (some 0)), (8, i6 i_11)]) (⟨[(C_bk_Drum r_17.2), (C_City c_2)], [(l_18.length, 6), (1, 6)]⟩) (by kernel_rfl) ⟨LApp.of hl_18 (fun _ => rfl), trivial⟩ ?_
    refine ExO.nil ?_
    refine ⟨mkS 24 [(0, .ptr 0 0), (4, .ptr 1 0), (7, .sl (l_18.map A_Band) (some 0)), (8, i6 i_11)], ⟨[(C_bk_Drum r_17.2), (C_City c_2)], [(l_18.length, 6), (1, 6)]⟩, Forgets.refl _ _ _, ?_⟩
    refine rg 3 [0, 4, 7, 8] (mkS 24 [(0, .ptr 0 0), (4, .ptr 1 0), (7, .sl (l_18.map A_Band) (some 0)), (8, i6 (IntKind.i64.wrap (i_11 - 1)))]) ⟨[(C_bk_Drum r_17.2), (C_City c_2)], [(l_18.length, 6), (1, 6)]⟩ ?_
    dsimp only
    exact ⟨_, _, forgetA (m := 24) 2 [0] [(0, .ptr 0 0), (4, .ptr 1 0), (7, .sl (l_18.map A_Band) (some 0)), (8, i6 (IntKind.i64.wrap (i_11 - 1)))] [(C_bk_Drum r_17.2), (C_City c_2)] [(l_18.length, 6)] (by simp [setAll]) (by simp) ⟨rfl, rfl, (reT (KL_Band _) rfl), rfl, trivial⟩ (by simp) rfl (by decide), k, Nat.lt_succ_self k, l_18, (IntKind.i64.wrap (i_11 - 1)), r_17.2.beat_, h, rfl, rfl⟩
   ·refine Ex.condF _ rfl hc_16 ?_
    refine Ex.exit ?_
    (try simp only [reduceCtorEq, AEx.ex.injEq, Nat.reduceEqDiff, if_true, if_false])
    exact ⟨_, _, forgetA (m := 24) 1 [0] [(7, .sl (out_10.map A_Band) (some 0))] [[.int .u64 b_12]] [(out_10.length, 6)] (by simp [setAll]) (by simp) ⟨(reT (KL_Band _) rfl), trivial⟩ (by simp) rfl (by decide), out_10, b_12, h, rfl, rfl⟩
 ·rintro a S ⟨out_5, b_6, h, rfl, rfl⟩
  subst hK_9
  refine Ex.seq (rg 2 [6] (mkS 24 [(6, .sl (out_5.map A_Band) (some 0))]) ⟨[[.int .u64 b_6]], [(out_5.length, 6)]⟩ ?_)
  refine Ex.ret ?_
  obtain rfl := sJ h
  exact rt (.sl (out_5.map A_Band) (some 0))
def p_bk_EqInts (N : Nat) (a_1 : (List Int)) (b_2 : (List Int)) : Option (Bool) := (bif (((a_1.length : Nat) : Int) != ((b_2.length : Nat) : Int)) then some false else (letJ (fun (_ : Unit) => some true) (fun k_4 => (loop1 (fun rec_8 (i_7 : Int) => (bif (decide (i_7 < ((a_1.length : Nat) : Int))) then ((getI a_1 i_7).bind fun x_12 => ((getI b_2 i_7).bind fun x_13 => (bif (x_12 != x_13) then some false else (rec_8 (IntKind.i64.wrap (i_7 + 1)))))) else (k_4 ()))) N 0))))
def v_bk_EqInts (r : Bool) : AV := .bool r
attribute [local simp] v_bk_EqInts
theorem a_bk_EqInts (a_1 : (List Int)) (b_2 : (List Int)) : [.sl (a_1.map (AV.int .i64)) none, .sl (b_2.map (AV.int .i64)) none].mapM (ren []) = some [.sl (a_1.map (AV.int .i64)) none, .sl (b_2.map (AV.int .i64)) none] := by simp
theorem b_bk_EqInts (r : Bool) (n n2 m : Nat) : back n n2 m (v_bk_EqInts r) = some (v_bk_EqInts r) := by simp
theorem d_bk_EqInts (N : Nat) (a_1 : (List Int)) (b_2 : (List Int)) (r : Bool) (h : p_bk_EqInts N a_1 b_2 = some r) : Does Tryd.prog 29 [.sl (a_1.map (AV.int .i64)) none, .sl (b_2.map (AV.int .i64)) none] [] fun v c => v = v_bk_EqInts r ∧ c = [] := by
 unfold p_bk_EqInts at h
 refine Does.ofL comp29 _ _ rfl rfl ?_
 refine Ex.seq (rg 1 [0, 1] (mkS 26 [(0, .sl (a_1.map (AV.int .i64)) none), (1, .sl (b_2.map (AV.int .i64)) none)]) ⟨[], []⟩ ?_)
 refine Ex.seq (Ex.seq ?_)
 refine regH 5 [(1, .eq (i6 ((a_1.length : Nat) : Int))), (3, .eq (i6 ((b_2.length : Nat) : Int)))] [0, 1, 10] [AV.int .i64 (((a_1.map (AV.int .i64)).length : Nat) : Int) = AV.int .i64 ((a_1.length : Nat) : Int), AV.int .i64 (((b_2.map (AV.int .i64)).length : Nat) : Int) = AV.int .i64 ((b_2.length : Nat) : Int)] (mkS 26 [(0, .sl (a_1.map (AV.int .i64)) none), (1, .sl (b_2.map (AV.int .i64)) none), (10, .bool (((a_1.length : Nat) : Int) != ((b_2.length : Nat) : Int)))]) (⟨[], []⟩) (by kernel_rfl) ⟨lenM _ _, lenM _ _, trivial⟩ rfl ?_
 rcases condI h with ⟨hc_3, h⟩ | ⟨hc_3, h⟩
 ·refine Ex.condT _ rfl hc_3 ?_
  refine Ex.seq (rg 1 [4] (mkS 26 [(4, .bool false)]) ⟨[], []⟩ ?_)
  refine Ex.ret ?_
  obtain rfl := sJ h
  exact rt (.bool false)
 ·refine Ex.condF _ rfl hc_3 ?_
  refine Ex.skip ?_
  refine Ex.seq (Ex.seq ?_)
  refine rg 1 [0, 1, 5] (mkS 26 [(0, .sl (a_1.map (AV.int .i64)) none), (1, .sl (b_2.map (AV.int .i64)) none), (5, i6 0)]) ⟨[], []⟩ ?_
  obtain ⟨K_5, hK_6, h⟩ := letE h
  refine Ex.blockJ (fun a S => K_5 () = some r ∧ a = mkS 26 [] ∧ S = ⟨[], []⟩) ?_ ?_
  ·obtain ⟨B_9, hB_10, h⟩ := loop1I h
   refine Ex.loopF (fun k a S => ∃ (i_7 : Int), loop1 B_9 k i_7 = some r ∧ a = mkS 26 [(0, .sl (a_1.map (AV.int .i64)) none), (1, .sl (b_2.map (AV.int .i64)) none), (5, i6 i_7)] ∧ S = ⟨[], []⟩) N ⟨_, _, Forgets.refl _ _ _, 0, h, rfl, rfl⟩ ?_
   rintro k a S ⟨i_7, h, rfl, rfl⟩
   cases k with
   | zero => exact (loop1Z h).elim
   | succ k =>
    replace h := loop1S h hB_10
    refine Ex.seq (Ex.seq ?_)
    refine regH 4 [(2, .eq (i6 ((a_1.length : Nat) : Int)))] [0, 1, 5, 14] [AV.int .i64 (((a_1.map (AV.int .i64)).length : Nat) : Int) = AV.int .i64 ((a_1.length : Nat) : Int)] (mkS 26 [(0, .sl (a_1.map (AV.int .i64)) none), (1, .sl (b_2.map (AV.int .i64)) none), (5, i6 i_7), (14, .bool (decide (i_7 < ((a_1.length : Nat) : Int))))]) (⟨[], []⟩) (by kernel_rfl) ⟨lenM _ _, trivial⟩ rfl ?_
    rcases condI h with ⟨hc_11, h⟩ | ⟨hc_11, h⟩
    ·refine Ex.condT _ rfl hc_11 ?_
     refine Ex.skip ?_
     refine Ex.seq ?_
     refine Ex.blockK ?_
     refine Ex.seq ?_
     obtain ⟨x_12, hx_12, h⟩ := bE h
     obtain ⟨x_13, hx_13, h⟩ := bE h
     refine Ex.drawE (a1 := mkS 26 [(0, .sl (a_1.map (AV.int .i64)) none), (1, .sl (b_2.map (AV.int .i64)) none), (5, i6 i_7), (14, .bool (decide (i_7 < ((a_1.length : Nat) : Int)))), (17, .sl (a_1.map (AV.int .i64)) none), (18, i6 i_7), (19, .rop [i6 x_12]), (20, i6 x_12), (21, .sl (b_2.map (AV.int .i64)) none), (22, i6 i_7), (23, .rop [i6 x_13]), (24, i6 x_13)]) (noClr_ok _) [] [] [] ?_ ?_
     ·refine drS [] 8 [(2, .rop [i6 x_12]), (6, .rop [i6 x_13])] [LGet (a_1.map (AV.int .i64)) i_7 1 [i6 x_12], LGet (b_2.map (AV.int .i64)) i_7 1 [i6 x_13]] (mkS 26 [(0, .sl (a_1.map (AV.int .i64)) none), (1, .sl (b_2.map (AV.int .i64)) none), (5, i6 i_7), (14, .bool (decide (i_7 < ((a_1.length : Nat) : Int)))), (17, .sl (a_1.map (AV.int .i64)) none), (18, i6 i_7), (19, .rop [i6 x_12]), (20, i6 x_12), (21, .sl (b_2.map (AV.int .i64)) none), (22, i6 i_7), (23, .rop [i6 x_13]), (24, i6 x_13)]) (by simp) (by kernel_rfl) ⟨LGet.of hx_12 rfl, LGet.of hx_13 rfl, trivial⟩ (by kernel_rfl) ?_
      exact DrO.nil rfl
     ·dsimp only [List.getLastD_cons, List.getLastD_nil]
      refine rn 1 [0, 1, 5, 25] (mkS 26 [(0, .sl (a_1.map (AV.int .i64)) none), (1, .sl (b_2.map (AV.int .i64)) none), (5, i6 i_7), (25, .bool (x_12 != x_13))]) ⟨[], []⟩ ?_
      refine ExO.nil ?_
      rcases condI h with ⟨hc_14, h⟩ | ⟨hc_14, h⟩
      ·refine Ex.condT _ rfl hc_14 ?_
       refine Ex.seq (rg 1 [4] (mkS 26 [(4, .bool false)]) ⟨[], []⟩ ?_)
       refine Ex.ret ?_
       obtain rfl := sJ h
       exact rt (.bool false)
      ·refine Ex.condF _ rfl hc_14 ?_
       refine Ex.skip ?_
       refine rg 3 [0, 1, 5] (mkS 26 [(0, .sl (a_1.map (AV.int .i64)) none), (1, .sl (b_2.map (AV.int .i64)) none), (5, i6 (IntKind.i64.wrap (i_7 + 1)))]) ⟨[], []⟩ ?_
       dsimp only
       exact ⟨_, _, Forgets.refl _ _ _, k, Nat.lt_succ_self k, (IntKind.i64.wrap (i_7 + 1)), h, rfl, rfl⟩
    ·refine Ex.condF _ rfl hc_11 ?_
     refine Ex.exit ?_
     (try simp only [reduceCtorEq, AEx.ex.injEq, Nat.reduceEqDiff, if_true, if_false])
     exact ⟨_, _, forgetK [], h, rfl, rfl⟩
  ·rintro a S ⟨h, rfl, rfl⟩
   subst hK_6
   refine Ex.seq (rg 1 [4] (mkS 26 [(4, .bool true)]) ⟨[], []⟩ ?_)
   refine Ex.ret ?_
   obtain rfl := sJ h
   exact rt (.bool true)
def p_bk_EqErrors (N : Nat) (a_1 : (List Int)) (b_2 : (List Int)) : Option (Bool) := (bif (((a_1.length : Nat) : Int) != ((b_2.length : Nat) : Int)) then some false else (letJ (fun (_ : Unit) => some true) (fun k_4 => (loop1 (fun rec_8 (i_7 : Int) => (bif (decide (i_7 < ((a_1.length : Nat) : Int))) then ((getI a_1 i_7).bind fun x_12 => ((getI b_2 i_7).bind fun x_13 => (bif (x_12 != x_13) then some false else (rec_8 (IntKind.i64.wrap (i_7 + 1)))))) else (k_4 ()))) N 0))))
def v_bk_EqErrors (r : Bool) : AV := .bool r
attribute [local simp] v_bk_EqErrors
theorem a_bk_EqErrors (a_1 : (List Int)) (b_2 : (List Int)) : [.sl (a_1.map (AV.int .i64)) none, .sl (b_2.map (AV.int .i64)) none].mapM (ren []) = some [.sl (a_1.map (AV.int .i64)) none, .sl (b_2.map (AV.int .i64)) none] := by simp
theorem b_bk_EqErrors (r : Bool) (n n2 m : Nat) : back n n2 m (v_bk_EqErrors r) = some (v_bk_EqErrors r) := by simp
theorem d_bk_EqErrors (N : Nat) (a_1 : (List Int)) (b_2 : (List Int)) (r : Bool) (h : p_bk_EqErrors N a_1 b_2 = some r) : Does Tryd.prog 44 [.sl (a_1.map (AV.int .i64)) none, .sl (b_2.map (AV.int .i64)) none] [] fun v c => v = v_bk_EqErrors r ∧ c = [] := by
 unfold p_bk_EqErrors at h
 refine Does.ofL comp44 _ _ rfl rfl ?_
 refine Ex.seq (rg 1 [0, 1] (mkS 26 [(0, .sl (a_1.map (AV.int .i64)) none), (1, .sl (b_2.map (AV.int .i64)) none)]) ⟨[], []⟩ ?_)
 refine Ex.seq (Ex.seq ?_)
 refine regH 5 [(1, .eq (i6 ((a_1.length : Nat) : Int))), (3, .eq (i6 ((b_2.length : Nat) : Int)))] [0, 1, 10] [AV.int .i64 (((a_1.map (AV.int .i64)).length : Nat) : Int) = AV.int .i64 ((a_1.length : Nat) : Int), AV.int .i64 (((b_2.map (AV.int .i64)).length : Nat) : Int) = AV.int .i64 ((b_2.length : Nat) : Int)] (mkS 26 [(0, .sl (a_1.map (AV.int .i64)) none), (1, .sl (b_2.map (AV.int .i64)) none), (10, .bool (((a_1.length : Nat) : Int) != ((b_2.length : Nat) : Int)))]) (⟨[], []⟩) (by kernel_rfl) ⟨lenM _ _, lenM _ _, trivial⟩ rfl ?_
 rcases condI h with ⟨hc_3, h⟩ | ⟨hc_3, h⟩
 ·refine Ex.condT _ rfl hc_3 ?_
  refine Ex.seq (rg 1 [4] (mkS 26 [(4, .bool false)]) ⟨[], []⟩ ?_)
  refine Ex.ret ?_
  obtain rfl := sJ h
  exact rt (.bool false)
 ·refine Ex.condF _ rfl hc_3 ?_
  refine Ex.skip ?_
  refine Ex.seq (Ex.seq ?_)
  refine rg 1 [0, 1, 5] (mkS 26 [(0, .sl (a_1.map (AV.int .i64)) none), (1, .sl (b_2.map (AV.int .i64)) none), (5, i6 0)]) ⟨[], []⟩ ?_
  obtain ⟨K_5, hK_6, h⟩ := letE h
  refine Ex.blockJ (fun a S => K_5 () = some r ∧ a = mkS 26 [] ∧ S = ⟨[], []⟩) ?_ ?_
  ·obtain ⟨B_9, hB_10, h⟩ := loop1I h
   refine Ex.loopF (fun k a S => ∃ (i_7 : Int), loop1 B_9 k i_7 = some r ∧ a = mkS 26 [(0, .sl (a_1.map (AV.int .i64)) none), (1, .sl (b_2.map (AV.int .i64)) none), (5, i6 i_7)] ∧ S = ⟨[], []⟩) N ⟨_, _, Forgets.refl _ _ _, 0, h, rfl, rfl⟩ ?_
   rintro k a S ⟨i_7, h, rfl, rfl⟩
   cases k with
   | zero => exact (loop1Z h).elim
   | succ k =>
    replace h := loop1S h hB_10
    refine Ex.seq (Ex.seq ?_)
    refine regH 4 [(2, .eq (i6 ((a_1.length : Nat) : Int)))] [0, 1, 5, 14] [AV.int .i64 (((a_1.map (AV.int .i64)).length : Nat) : Int) = AV.int .i64 ((a_1.length : Nat) : Int)] (mkS 26 [(0, .sl (a_1.map (AV.int .i64)) none), (1, .sl (b_2.map (AV.int .i64)) none), (5, i6 i_7), (14, .bool (decide (i_7 < ((a_1.length : Nat) : Int))))]) (⟨[], []⟩) (by kernel_rfl) ⟨lenM _ _, trivial⟩ rfl ?_
    rcases condI h with ⟨hc_11, h⟩ | ⟨hc_11, h⟩
    ·refine Ex.condT _ rfl hc_11 ?_
     refine Ex.skip ?_
     refine Ex.seq ?_
     refine Ex.blockK ?_
     refine Ex.seq ?_
     obtain ⟨x_12, hx_12, h⟩ := bE h
     obtain ⟨x_13, hx_13, h⟩ := bE h
     refine Ex.drawE (a1 := mkS 26 [(0, .sl (a_1.map (AV.int .i64)) none), (1, .sl (b_2.map (AV.int .i64)) none), (5, i6 i_7), (14, .bool (decide (i_7 < ((a_1.length : Nat) : Int)))), (17, .sl (a_1.map (AV.int .i64)) none), (18, i6 i_7), (19, .rop [i6 x_12]), (20, i6 x_12), (21, .sl (b_2.map (AV.int .i64)) none), (22, i6 i_7), (23, .rop [i6 x_13]), (24, i6 x_13)]) (noClr_ok _) [] [] [] ?_ ?_
     ·refine drS [] 8 [(2, .rop [i6 x_12]), (6, .rop [i6 x_13])] [LGet (a_1.map (AV.int .i64)) i_7 1 [i6 x_12], LGet (b_2.map (AV.int .i64)) i_7 1 [i6 x_13]] (mkS 26 [(0, .sl (a_1.map (AV.int .i64)) none), (1, .sl (b_2.map (AV.int .i64)) none), (5, i6 i_7), (14, .bool (decide (i_7 < ((a_1.length : Nat) : Int)))), (17, .sl (a_1.map (AV.int .i64)) none), (18, i6 i_7), (19, .rop [i6 x_12]), (20, i6 x_12), (21, .sl (b_2.map (AV.int .i64)) none), (22, i6 i_7), (23, .rop [i6 x_13]), (24, i6 x_13)]) (by simp) (by kernel_rfl) ⟨LGet.of hx_12 rfl, LGet.of hx_13 rfl, trivial⟩ (by kernel_rfl) ?_
      exact DrO.nil rfl
     ·dsimp only [List.getLastD_cons, List.getLastD_nil]
      refine rn 1 [0, 1, 5, 25] (mkS 26 [(0, .sl (a_1.map (AV.int .i64)) none), (1, .sl (b_2.map (AV.int .i64)) none), (5, i6 i_7), (25, .bool (x_12 != x_13))]) ⟨[], []⟩ ?_
      refine ExO.nil ?_
      rcases condI h with ⟨hc_14, h⟩ | ⟨hc_14, h⟩
      ·refine Ex.condT _ rfl hc_14 ?_
       refine Ex.seq (rg 1 [4] (mkS 26 [(4, .bool false)]) ⟨[], []⟩ ?_)
       refine Ex.ret ?_
       obtain rfl := sJ h
       exact rt (.bool false)
      ·refine Ex.condF _ rfl hc_14 ?_
       refine Ex.skip ?_
       refine rg 3 [0, 1, 5] (mkS 26 [(0, .sl (a_1.map (AV.int .i64)) none), (1, .sl (b_2.map (AV.int .i64)) none), (5, i6 (IntKind.i64.wrap (i_7 + 1)))]) ⟨[], []⟩ ?_
       dsimp only
       exact ⟨_, _, Forgets.refl _ _ _, k, Nat.lt_succ_self k, (IntKind.i64.wrap (i_7 + 1)), h, rfl, rfl⟩
    ·refine Ex.condF _ rfl hc_11 ?_
     refine Ex.exit ?_
     (try simp only [reduceCtorEq, AEx.ex.injEq, Nat.reduceEqDiff, if_true, if_false])
     exact ⟨_, _, forgetK [], h, rfl, rfl⟩
  ·rintro a S ⟨h, rfl, rfl⟩
   subst hK_6
   refine Ex.seq (rg 1 [4] (mkS 26 [(4, .bool true)]) ⟨[], []⟩ ?_)
   refine Ex.ret ?_
   obtain rfl := sJ h
   exact rt (.bool true)
def v_bk_Has (r : Bool) : AV := .bool r
attribute [local simp] v_bk_Has
def v_br7_within (r : Bool) : AV := .bool r
attribute [local simp] v_br7_within
def v_br7_squares (r : (List Int) × Int) : AV := .tup [.sl (r.1.map (AV.int .i64)) none, i6 r.2]
attribute [local simp] v_br7_squares
def v_br7_Meet (r : Bool) : AV := .bool r
attribute [local simp] v_br7_Meet
def v_br7_At (r : Int) : AV := i6 r
attribute [local simp] v_br7_At
def p_br7_Members (N : Nat) (l_1 : (List T_Band)) (set_2 : Int) : Option ((List Int) × (List T_Band) × Int) := (letJ (fun (out_3 : List Int) (bands_4 : List T_Band) (people_5 : Int) => some (out_3, bands_4, people_5)) (fun k_6 => (loop4 (fun rec_13 (out_9 : List Int) (bands_10 : List T_Band) (people_11 : Int) (i_12 : Int) => (bif (decide (i_12 < ((l_1.length : Nat) : Int))) then (letJ (fun (out_17 : List Int) (bands_18 : List T_Band) (people_19 : Int) => (rec_13 out_17 bands_18 people_19 (IntKind.i64.wrap (i_12 + 1)))) (fun k_20 => ((nnI i_12).bind fun u_23 => ((some (IntKind.i64.wrap (((BitVec.ofInt (IntKind.bits .i64) (Int.fdiv set_2 ((2 : Int) ^ (min (Int.toNat i_12) (IntKind.bits .i64)))) &&& BitVec.ofInt (IntKind.bits .i64) 1).toNat : Nat) : Int))).bind fun n_24 => (bif (n_24 == 1) then ((pushI out_9 ([i_12] : List Int)).bind fun l_26 => ((getI l_1 i_12).bind fun x_27 => ((pushI bands_10 ([x_27] : List T_Band)).bind fun l_28 => ((getI l_1 i_12).bind fun x_29 => (k_20 l_26 l_28 (IntKind.i64.wrap (people_11 + x_29.People))))))) else (k_20 out_9 bands_10 people_11)))))) else (k_6 out_9 bands_10 people_11))) N [] [] 0 0)))
def v_br7_Members (r : (List Int) × (List T_Band) × Int) : AV := .tup [.sl (r.1.map (AV.int .i64)) none, .sl (r.2.1.map A_Band) none, i6 r.2.2]
attribute [local simp] v_br7_Members
theorem a_br7_Members (l_1 : (List T_Band)) (set_2 : Int) : [.sl (l_1.map A_Band) none, i6 set_2].mapM (ren []) = some [.sl (l_1.map A_Band) none, i6 set_2] := by simp
theorem b_br7_Members (r : (List Int) × (List T_Band) × Int) (n n2 m : Nat) : back n n2 m (v_br7_Members r) = some (v_br7_Members r) := by simp
theorem d_br7_Members (N : Nat) (l_1 : (List T_Band)) (set_2 : Int) (r : (List Int) × (List T_Band) × Int) (h : p_br7_Members N l_1 set_2 = some r) : Does Tryd.prog 46 [.sl (l_1.map A_Band) none, i6 set_2] [] fun v c => v = v_br7_Members r ∧ c = [] := by
 unfold p_br7_Members at h
 refine Does.ofL comp46 _ _ rfl rfl ?_
 refine Ex.seq (rg 3 [0, 1] (mkS 43 [(0, .sl (l_1.map A_Band) none), (1, i6 set_2)]) ⟨[], []⟩ ?_)
 refine Ex.seq (rg 1 [0, 1, 7] (mkS 43 [(0, .sl (l_1.map A_Band) none), (1, i6 set_2), (7, .nils)]) ⟨[], []⟩ ?_)
 refine Ex.seq (rg 1 [0, 1, 7, 8] (mkS 43 [(0, .sl (l_1.map A_Band) none), (1, i6 set_2), (7, .nils), (8, .nils)]) ⟨[], []⟩ ?_)
 refine Ex.seq (rg 1 [0, 1, 7, 8, 9] (mkS 43 [(0, .sl (l_1.map A_Band) none), (1, i6 set_2), (7, .nils), (8, .nils), (9, i6 0)]) ⟨[], []⟩ ?_)
 refine Ex.seq (Ex.seq ?_)
 refine rg 1 [0, 1, 7, 8, 9, 10] (mkS 43 [(0, .sl (l_1.map A_Band) none), (1, i6 set_2), (7, .nils), (8, .nils), (9, i6 0), (10, i6 0)]) ⟨[], []⟩ ?_
 obtain ⟨K_7, hK_8, h⟩ := letE h
 refine Ex.blockJ (fun a S => ∃ (out_3 : List Int), ∃ (bands_4 : List T_Band), ∃ (people_5 : Int), K_7 out_3 bands_4 people_5 = some r ∧ a = mkS 43 [(7, .sl (out_3.map (AV.int .i64)) (some 0)), (8, .sl (bands_4.map A_Band) (some 1)), (9, i6 people_5)] ∧ S = ⟨[], [(out_3.length, 1), (bands_4.length, 6)]⟩) ?_ ?_
 ·refine Ex.forget (nilK 7 1 rfl) ?_
  refine Ex.forget (nilK 8 6 rfl) ?_
  refine Ex.castA (a2 := mkS 43 [(0, .sl (l_1.map A_Band) none), (1, i6 set_2), (7, .sl (([] : List Int).map (AV.int .i64)) (some 0)), (8, .sl (([] : List T_Band).map A_Band) (some 1)), (9, i6 0), (10, i6 0)]) (S2 := ⟨[], [(0, 1), (0, 6)]⟩) (by kernel_rfl) (by kernel_rfl) ?_
  obtain ⟨B_14, hB_15, h⟩ := loop4I h
  refine Ex.loopF (fun k a S => ∃ (out_9 : List Int), ∃ (bands_10 : List T_Band), ∃ (people_11 : Int), ∃ (i_12 : Int), loop4 B_14 k out_9 bands_10 people_11 i_12 = some r ∧ a = mkS 43 [(0, .sl (l_1.map A_Band) none), (1, i6 set_2), (7, .sl (out_9.map (AV.int .i64)) (some 0)), (8, .sl (bands_10.map A_Band) (some 1)), (9, i6 people_11), (10, i6 i_12)] ∧ S = ⟨[], [(out_9.length, 1), (bands_10.length, 6)]⟩) N ⟨_, _, Forgets.refl _ _ _, [], [], 0, 0, h, rfl, rfl⟩ ?_
  rintro k a S ⟨out_9, bands_10, people_11, i_12, h, rfl, rfl⟩
  cases k with
  | zero => exact (loop4Z h).elim
  | succ k =>
   replace h := loop4S h hB_15
   refine Ex.seq (Ex.seq ?_)
   refine regH 4 [(2, .eq (i6 ((l_1.length : Nat) : Int)))] [0, 1, 7, 8, 9, 10, 14] [AV.int .i64 (((l_1.map A_Band).length : Nat) : Int) = AV.int .i64 ((l_1.length : Nat) : Int)] (mkS 43 [(0, .sl (l_1.map A_Band) none), (1, i6 set_2), (7, .sl (out_9.map (AV.int .i64)) (some 0)), (8, .sl (bands_10.map A_Band) (some 1)), (9, i6 people_11), (10, i6 i_12), (14, .bool (decide (i_12 < ((l_1.length : Nat) : Int))))]) (⟨[], [(out_9.length, 1), (bands_10.length, 6)]⟩) (by kernel_rfl) ⟨lenM _ _, trivial⟩ rfl ?_
   rcases condI h with ⟨hc_16, h⟩ | ⟨hc_16, h⟩
   ·refine Ex.condT _ rfl hc_16 ?_
    refine Ex.skip ?_
    refine Ex.seq ?_
    obtain ⟨K_21, hK_22, h⟩ := letE h
    refine Ex.blockJ (fun a S => ∃ (out_17 : List Int), ∃ (bands_18 : List T_Band), ∃ (people_19 : Int), K_21 out_17 bands_18 people_19 = some r ∧ a = mkS 43 [(0, .sl (l_1.map A_Band) none), (1, i6 set_2), (7, .sl (out_17.map (AV.int .i64)) (some 0)), (8, .sl (bands_18.map A_Band) (some 1)), (9, i6 people_19), (10, i6 i_12)] ∧ S = ⟨[], [(out_17.length, 1), (bands_18.length, 6)]⟩) ?_ ?_
    ·refine Ex.seq ?_
     obtain ⟨u_23, hu_23, h⟩ := bE h
     obtain ⟨n_24, hn_24, h⟩ := bE h
     refine regH 5 [(2, .bin (i6 (Int.fdiv set_2 ((2 : Int) ^ (min (Int.toNat i_12) (IntKind.bits .i64)))))), (3, .eq (i6 n_24))] [0, 1, 7, 8, 9, 10, 21] [binA .shr (i6 set_2) (i6 i_12) = some (i6 (Int.fdiv set_2 ((2 : Int) ^ (min (Int.toNat i_12) (IntKind.bits .i64))))), AV.int .i64 (IntKind.i64.wrap (((BitVec.ofInt (IntKind.bits .i64) (Int.fdiv set_2 ((2 : Int) ^ (min (Int.toNat i_12) (IntKind.bits .i64)))) &&& BitVec.ofInt (IntKind.bits .i64) 1).toNat : Nat) : Int)) = AV.int .i64 n_24] (mkS 43 [(0, .sl (l_1.map A_Band) none), (1, i6 set_2), (7, .sl (out_9.map (AV.int .i64)) (some 0)), (8, .sl (bands_10.map A_Band) (some 1)), (9, i6 people_11), (10, i6 i_12), (21, .bool (n_24 == 1))]) (⟨[], [(out_9.length, 1), (bands_10.length, 6)]⟩) (by kernel_rfl) ⟨binSr hu_23, congrArg (AV.int .i64) (Option.some.inj hn_24), trivial⟩ rfl ?_
     rcases condI h with ⟨hc_25, h⟩ | ⟨hc_25, h⟩
     ·refine Ex.condT _ rfl hc_25 ?_
      refine Ex.postF ?_
      obtain ⟨l_26, hl_26, h⟩ := bE h
      obtain ⟨x_27, hx_27, h⟩ := bE h
      obtain ⟨l_28, hl_28, h⟩ := bE h
      obtain ⟨x_29, hx_29, h⟩ := bE h
      refine Ex.drawE (a1 := mkS 43 [(0, .sl (l_1.map A_Band) none), (1, i6 set_2), (7, .sl (l_26.map (AV.int .i64)) (some 0)), (8, .sl (l_28.map A_Band) (some 1)), (9, i6 people_11), (10, i6 i_12), (21, .bool (n_24 == 1)), (22, .sl (out_9.map (AV.int .i64)) (some 0)), (23, i6 i_12), (24, .sl (([i_12] : List Int).map (AV.int .i64)) (some 2)), (25, .sl (l_26.map (AV.int .i64)) (some 0)), (26, .sl (bands_10.map A_Band) (some 1)), (27, .sl (l_1.map A_Band) none), (28, i6 i_12), (29, .rop (C_Band x_27)), (30, (A_Band x_27)), (31, .sl (([x_27] : List T_Band).map A_Band) (some 3)), (32, .sl (l_28.map A_Band) (some 1)), (33, i6 people_11), (34, .sl (l_1.map A_Band) none), (35, i6 i_12), (36, .rop (C_Band x_29)), (37, .rop [i6 x_29.People]), (38, i6 x_29.People), (39, i6 (IntKind.i64.wrap (people_11 + x_29.People)))]) (noClr_ok _) [] [(1, 1), (1, 6)] [⟨[], [(l_26.length, 1), (bands_10.length, 6), (1, 1), (1, 6)]⟩, ⟨[], [(l_26.length, 1), (l_28.length, 6), (1, 1), (1, 6)]⟩] ?_ ?_
      ·refine drS [] 2 [] [] (mkS 43 [(0, .sl (l_1.map A_Band) none), (1, i6 set_2), (7, .sl (out_9.map (AV.int .i64)) (some 0)), (8, .sl (bands_10.map A_Band) (some 1)), (9, i6 people_11), (10, i6 i_12), (21, .bool (n_24 == 1)), (22, .sl (out_9.map (AV.int .i64)) (some 0)), (23, i6 i_12)]) (by simp) (by kernel_rfl) trivial (by kernel_rfl) ?_
       refine drR 2 1 (([i_12] : List Int).map (AV.int .i64)) rfl rfl (fun _ => by kernel_rfl) (by simp) rfl rfl ?_
       refine drE (some (.app (l_26.map (AV.int .i64)) l_26.length)) (some (LApp out_9.length (out_9.map (AV.int .i64)) (([i_12] : List Int).map (AV.int .i64)) 1 (l_26.map (AV.int .i64)) l_26.length)) (.sl (l_26.map (AV.int .i64)) (some 0)) _ _ rfl rfl rfl rfl rfl (by kernel_rfl) (LApp.of hl_26 (fun _ => rfl)) ?_
       refine drS [] 5 [(3, .rop (C_Band x_27))] [LGet (l_1.map A_Band) i_12 6 (C_Band x_27)] (mkS 43 [(0, .sl (l_1.map A_Band) none), (1, i6 set_2), (7, .sl (out_9.map (AV.int .i64)) (some 0)), (8, .sl (bands_10.map A_Band) (some 1)), (9, i6 people_11), (10, i6 i_12), (21, .bool (n_24 == 1)), (22, .sl (out_9.map (AV.int .i64)) (some 0)), (23, i6 i_12), (24, .sl (([i_12] : List Int).map (AV.int .i64)) (some 2)), (25, .sl (l_26.map (AV.int .i64)) (some 0)), (26, .sl (bands_10.map A_Band) (some 1)), (27, .sl (l_1.map A_Band) none), (28, i6 i_12), (29, .rop (C_Band x_27)), (30, (A_Band x_27))]) (by simp) (by kernel_rfl) ⟨LGet.of hx_27 rfl, trivial⟩ (by kernel_rfl) ?_
       refine drR 3 6 (([x_27] : List T_Band).map A_Band) rfl rfl (fun _ => by kernel_rfl) (by simp) rfl rfl ?_
       refine drE (some (.app (l_28.map A_Band) l_28.length)) (some (LApp bands_10.length (bands_10.map A_Band) (([x_27] : List T_Band).map A_Band) 6 (l_28.map A_Band) l_28.length)) (.sl (l_28.map A_Band) (some 1)) _ _ rfl rfl rfl rfl rfl (by kernel_rfl) (LApp.of hl_28 (fun _ => rfl)) ?_
       refine drS [] 9 [(3, .rop (C_Band x_29))] [LGet (l_1.map A_Band) i_12 6 (C_Band x_29)] (mkS 43 [(0, .sl (l_1.map A_Band) none), (1, i6 set_2), (7, .sl (l_26.map (AV.int .i64)) (some 0)), (8, .sl (l_28.map A_Band) (some 1)), (9, i6 people_11), (10, i6 i_12), (21, .bool (n_24 == 1)), (22, .sl (out_9.map (AV.int .i64)) (some 0)), (23, i6 i_12), (24, .sl (([i_12] : List Int).map (AV.int .i64)) (some 2)), (25, .sl (l_26.map (AV.int .i64)) (some 0)), (26, .sl (bands_10.map A_Band) (some 1)), (27, .sl (l_1.map A_Band) none), (28, i6 i_12), (29, .rop (C_Band x_27)), (30, (A_Band x_27)), (31, .sl (([x_27] : List T_Band).map A_Band) (some 3)), (32, .sl (l_28.map A_Band) (some 1)), (33, i6 people_11), (34, .sl (l_1.map A_Band) none), (35, i6 i_12), (36, .rop (C_Band x_29)), (37, .rop [i6 x_29.People]), (38, i6 x_29.People), (39, i6 (IntKind.i64.wrap (people_11 + x_29.People)))]) (by simp) (by kernel_rfl) ⟨LGet.of hx_29 rfl, trivial⟩ (by kernel_rfl) ?_
       exact DrO.nil rfl
      ·dsimp only [List.getLastD_cons, List.getLastD_nil]
       refine rn 1 [0, 1, 7, 8, 9, 10] (mkS 43 [(0, .sl (l_1.map A_Band) none), (1, i6 set_2), (7, .sl (l_26.map (AV.int .i64)) (some 0)), (8, .sl (l_28.map A_Band) (some 1)), (9, i6 (IntKind.i64.wrap (people_11 + x_29.People))), (10, i6 i_12)]) ⟨[], [(l_26.length, 1), (l_28.length, 6), (1, 1), (1, 6)]⟩ ?_
       refine ExO.nil ?_
       refine ⟨mkS 43 [(0, .sl (l_1.map A_Band) none), (1, i6 set_2), (7, .sl (l_26.map (AV.int .i64)) (some 0)), (8, .sl (l_28.map A_Band) (some 1)), (9, i6 (IntKind.i64.wrap (people_11 + x_29.People))), (10, i6 i_12)], ⟨[], [(l_26.length, 1), (l_28.length, 6), (1, 1), (1, 6)]⟩, Forgets.refl _ _ _, ?_⟩
       (try simp only [reduceCtorEq, AEx.ex.injEq, Nat.reduceEqDiff, if_true, if_false])
       exact ⟨_, _, forgetA (m := 43) 0 [0, 1] [(0, .sl (l_1.map A_Band) none), (1, i6 set_2), (7, .sl (l_26.map (AV.int .i64)) (some 0)), (8, .sl (l_28.map A_Band) (some 1)), (9, i6 (IntKind.i64.wrap (people_11 + x_29.People))), (10, i6 i_12)] [] [(l_26.length, 1), (l_28.length, 6)] (by simp [setAll]) (by simp) ⟨(reN (KL_Band _)), rfl, (reT (cleanI _ _) rfl), (reT (KL_Band _) rfl), rfl, rfl, trivial⟩ (by simp) rfl (by decide), l_26, l_28, (IntKind.i64.wrap (people_11 + x_29.People)), h, rfl, rfl⟩
     ·refine Ex.condF _ rfl hc_25 ?_
      refine Ex.skip ?_
      (try simp only [reduceCtorEq, AEx.ex.injEq, Nat.reduceEqDiff, if_true, if_false])
      exact ⟨_, _, forgetK [0, 1, 7, 8, 9, 10], out_9, bands_10, people_11, h, rfl, rfl⟩
    ·rintro a S ⟨out_17, bands_18, people_19, h, rfl, rfl⟩
     subst hK_22
     refine rg 3 [0, 1, 7, 8, 9, 10] (mkS 43 [(0, .sl (l_1.map A_Band) none), (1, i6 set_2), (7, .sl (out_17.map (AV.int .i64)) (some 0)), (8, .sl (bands_18.map A_Band) (some 1)), (9, i6 people_19), (10, i6 (IntKind.i64.wrap (i_12 + 1)))]) ⟨[], [(out_17.length, 1), (bands_18.length, 6)]⟩ ?_
     dsimp only
     exact ⟨_, _, Forgets.refl _ _ _, k, Nat.lt_succ_self k, out_17, bands_18, people_19, (IntKind.i64.wrap (i_12 + 1)), h, rfl, rfl⟩
   ·refine Ex.condF _ rfl hc_16 ?_
    refine Ex.exit ?_
    (try simp only [reduceCtorEq, AEx.ex.injEq, Nat.reduceEqDiff, if_true, if_false])
    exact ⟨_, _, forgetK [7, 8, 9], out_9, bands_10, people_11, h, rfl, rfl⟩
 ·rintro a S ⟨out_3, bands_4, people_5, h, rfl, rfl⟩
  subst hK_8
  refine Ex.seq (rg 6 [4, 5, 6] (mkS 43 [(4, .sl (out_3.map (AV.int .i64)) (some 0)), (5, .sl (bands_4.map A_Band) (some 1)), (6, i6 people_5)]) ⟨[], [(out_3.length, 1), (bands_4.length, 6)]⟩ ?_)
  refine Ex.ret ?_
  obtain rfl := sJ h
  exact rt (.tup [.sl (out_3.map (AV.int .i64)) (some 0), .sl (bands_4.map A_Band) (some 1), i6 people_5])
def p_br7_Before (N : Nat) (a_1 : (List Int)) (b_2 : (List Int)) : Option (Bool) := (letJ (fun (_ : Unit) => some (decide (((a_1.length : Nat) : Int) < ((b_2.length : Nat) : Int)))) (fun k_3 => (loop1 (fun rec_7 (i_6 : Int) => (letJ (fun (y_10 : Bool) => (bif y_10 then ((getI a_1 i_6).bind fun x_16 => ((getI b_2 i_6).bind fun x_17 => (bif (x_16 != x_17) then ((getI a_1 i_6).bind fun x_19 => ((getI b_2 i_6).bind fun x_20 => some (decide (x_19 < x_20)))) else (rec_7 (IntKind.i64.wrap (i_6 + 1)))))) else (k_3 ()))) (fun k_11 => (bif (decide (i_6 < ((a_1.length : Nat) : Int))) then (k_11 (decide (i_6 < ((b_2.length : Nat) : Int)))) else (k_11 false))))) N 0)))
def v_br7_Before (r : Bool) : AV := .bool r
attribute [local simp] v_br7_Before
theorem a_br7_Before (a_1 : (List Int)) (b_2 : (List Int)) : [.sl (a_1.map (AV.int .i64)) none, .sl (b_2.map (AV.int .i64)) none].mapM (ren []) = some [.sl (a_1.map (AV.int .i64)) none, .sl (b_2.map (AV.int .i64)) none] := by simp
theorem b_br7_Before (r : Bool) (n n2 m : Nat) : back n n2 m (v_br7_Before r) = some (v_br7_Before r) := by simp
theorem d_br7_Before (N : Nat) (a_1 : (List Int)) (b_2 : (List Int)) (r : Bool) (h : p_br7_Before N a_1 b_2 = some r) : Does Tryd.prog 47 [.sl (a_1.map (AV.int .i64)) none, .sl (b_2.map (AV.int .i64)) none] [] fun v c => v = v_br7_Before r ∧ c = [] := by
 unfold p_br7_Before at h
 refine Does.ofL comp47 _ _ rfl rfl ?_
 refine Ex.seq (rg 1 [0, 1] (mkS 41 [(0, .sl (a_1.map (AV.int .i64)) none), (1, .sl (b_2.map (AV.int .i64)) none)]) ⟨[], []⟩ ?_)
 refine Ex.seq (Ex.seq ?_)
 refine rg 1 [0, 1, 5] (mkS 41 [(0, .sl (a_1.map (AV.int .i64)) none), (1, .sl (b_2.map (AV.int .i64)) none), (5, i6 0)]) ⟨[], []⟩ ?_
 obtain ⟨K_4, hK_5, h⟩ := letE h
 refine Ex.blockJ (fun a S => K_4 () = some r ∧ a = mkS 41 [(0, .sl (a_1.map (AV.int .i64)) none), (1, .sl (b_2.map (AV.int .i64)) none)] ∧ S = ⟨[], []⟩) ?_ ?_
 ·obtain ⟨B_8, hB_9, h⟩ := loop1I h
  refine Ex.loopF (fun k a S => ∃ (i_6 : Int), loop1 B_8 k i_6 = some r ∧ a = mkS 41 [(0, .sl (a_1.map (AV.int .i64)) none), (1, .sl (b_2.map (AV.int .i64)) none), (5, i6 i_6)] ∧ S = ⟨[], []⟩) N ⟨_, _, Forgets.refl _ _ _, 0, h, rfl, rfl⟩ ?_
  rintro k a S ⟨i_6, h, rfl, rfl⟩
  cases k with
  | zero => exact (loop1Z h).elim
  | succ k =>
   replace h := loop1S h hB_9
   refine Ex.seq ?_
   obtain ⟨K_12, hK_13, h⟩ := letE h
   refine Ex.seqJ (fun a S => ∃ (y_10 : Bool), K_12 y_10 = some r ∧ a = mkS 41 [(0, .sl (a_1.map (AV.int .i64)) none), (1, .sl (b_2.map (AV.int .i64)) none), (5, i6 i_6), (15, .bool y_10)] ∧ S = ⟨[], []⟩) ?_ ?_
   ·rcases condI h with ⟨hc_14, h⟩ | ⟨hc_14, h⟩
    ·refine regH 10 [(2, .eq (i6 ((a_1.length : Nat) : Int))), (4, .eq (.bool true)), (7, .eq (i6 ((b_2.length : Nat) : Int)))] [0, 1, 5, 15] [AV.int .i64 (((a_1.map (AV.int .i64)).length : Nat) : Int) = AV.int .i64 ((a_1.length : Nat) : Int), AV.bool (decide (i_6 < ((a_1.length : Nat) : Int))) = AV.bool true, AV.int .i64 (((b_2.map (AV.int .i64)).length : Nat) : Int) = AV.int .i64 ((b_2.length : Nat) : Int)] (mkS 41 [(0, .sl (a_1.map (AV.int .i64)) none), (1, .sl (b_2.map (AV.int .i64)) none), (5, i6 i_6), (15, .bool (decide (i_6 < ((b_2.length : Nat) : Int))))]) (⟨[], []⟩) (by kernel_rfl) ⟨lenM _ _, congrArg AV.bool hc_14, lenM _ _, trivial⟩ rfl ?_
     (try simp only [reduceCtorEq, AEx.ex.injEq, Nat.reduceEqDiff, if_true, if_false])
     exact ⟨_, _, Forgets.refl _ _ _, (decide (i_6 < ((b_2.length : Nat) : Int))), h, rfl, rfl⟩
    ·refine regH 10 [(2, .eq (i6 ((a_1.length : Nat) : Int))), (4, .eq (.bool false))] [0, 1, 5, 15] [AV.int .i64 (((a_1.map (AV.int .i64)).length : Nat) : Int) = AV.int .i64 ((a_1.length : Nat) : Int), AV.bool (decide (i_6 < ((a_1.length : Nat) : Int))) = AV.bool false] (mkS 41 [(0, .sl (a_1.map (AV.int .i64)) none), (1, .sl (b_2.map (AV.int .i64)) none), (5, i6 i_6), (15, .bool false)]) (⟨[], []⟩) (by kernel_rfl) ⟨lenM _ _, congrArg AV.bool hc_14, trivial⟩ rfl ?_
     (try simp only [reduceCtorEq, AEx.ex.injEq, Nat.reduceEqDiff, if_true, if_false])
     exact ⟨_, _, Forgets.refl _ _ _, false, h, rfl, rfl⟩
   ·rintro a S ⟨y_10, h, rfl, rfl⟩
    subst hK_13
    rcases condI h with ⟨hc_15, h⟩ | ⟨hc_15, h⟩
    ·refine Ex.condT _ rfl hc_15 ?_
     refine Ex.skip ?_
     refine Ex.seq ?_
     refine Ex.blockK ?_
     refine Ex.seq ?_
     obtain ⟨x_16, hx_16, h⟩ := bE h
     obtain ⟨x_17, hx_17, h⟩ := bE h
     refine Ex.drawE (a1 := mkS 41 [(0, .sl (a_1.map (AV.int .i64)) none), (1, .sl (b_2.map (AV.int .i64)) none), (5, i6 i_6), (15, .bool y_10), (18, .sl (a_1.map (AV.int .i64)) none), (19, i6 i_6), (20, .rop [i6 x_16]), (21, i6 x_16), (22, .sl (b_2.map (AV.int .i64)) none), (23, i6 i_6), (24, .rop [i6 x_17]), (25, i6 x_17)]) (noClr_ok _) [] [] [] ?_ ?_
     ·refine drS [] 8 [(2, .rop [i6 x_16]), (6, .rop [i6 x_17])] [LGet (a_1.map (AV.int .i64)) i_6 1 [i6 x_16], LGet (b_2.map (AV.int .i64)) i_6 1 [i6 x_17]] (mkS 41 [(0, .sl (a_1.map (AV.int .i64)) none), (1, .sl (b_2.map (AV.int .i64)) none), (5, i6 i_6), (15, .bool y_10), (18, .sl (a_1.map (AV.int .i64)) none), (19, i6 i_6), (20, .rop [i6 x_16]), (21, i6 x_16), (22, .sl (b_2.map (AV.int .i64)) none), (23, i6 i_6), (24, .rop [i6 x_17]), (25, i6 x_17)]) (by simp) (by kernel_rfl) ⟨LGet.of hx_16 rfl, LGet.of hx_17 rfl, trivial⟩ (by kernel_rfl) ?_
      exact DrO.nil rfl
     ·dsimp only [List.getLastD_cons, List.getLastD_nil]
      refine rn 1 [0, 1, 5, 26] (mkS 41 [(0, .sl (a_1.map (AV.int .i64)) none), (1, .sl (b_2.map (AV.int .i64)) none), (5, i6 i_6), (26, .bool (x_16 != x_17))]) ⟨[], []⟩ ?_
      refine ExO.nil ?_
      rcases condI h with ⟨hc_18, h⟩ | ⟨hc_18, h⟩
      ·refine Ex.condT _ rfl hc_18 ?_
       refine Ex.seq ?_
       obtain ⟨x_19, hx_19, h⟩ := bE h
       obtain ⟨x_20, hx_20, h⟩ := bE h
       refine Ex.drawE (a1 := mkS 41 [(0, .sl (a_1.map (AV.int .i64)) none), (1, .sl (b_2.map (AV.int .i64)) none), (5, i6 i_6), (26, .bool (x_16 != x_17)), (27, .sl (a_1.map (AV.int .i64)) none), (28, i6 i_6), (29, .rop [i6 x_19]), (30, i6 x_19), (31, .sl (b_2.map (AV.int .i64)) none), (32, i6 i_6), (33, .rop [i6 x_20]), (34, i6 x_20)]) (noClr_ok _) [] [] [] ?_ ?_
       ·refine drS [] 8 [(2, .rop [i6 x_19]), (6, .rop [i6 x_20])] [LGet (a_1.map (AV.int .i64)) i_6 1 [i6 x_19], LGet (b_2.map (AV.int .i64)) i_6 1 [i6 x_20]] (mkS 41 [(0, .sl (a_1.map (AV.int .i64)) none), (1, .sl (b_2.map (AV.int .i64)) none), (5, i6 i_6), (26, .bool (x_16 != x_17)), (27, .sl (a_1.map (AV.int .i64)) none), (28, i6 i_6), (29, .rop [i6 x_19]), (30, i6 x_19), (31, .sl (b_2.map (AV.int .i64)) none), (32, i6 i_6), (33, .rop [i6 x_20]), (34, i6 x_20)]) (by simp) (by kernel_rfl) ⟨LGet.of hx_19 rfl, LGet.of hx_20 rfl, trivial⟩ (by kernel_rfl) ?_
        exact DrO.nil rfl
       ·dsimp only [List.getLastD_cons, List.getLastD_nil]
        refine rn 2 [4] (mkS 41 [(4, .bool (decide (x_19 < x_20)))]) ⟨[], []⟩ ?_
        refine ExO.nil ?_
        refine Ex.ret ?_
        obtain rfl := sJ h
        exact rt (.bool (decide (x_19 < x_20)))
      ·refine Ex.condF _ rfl hc_18 ?_
       refine Ex.skip ?_
       refine rg 3 [0, 1, 5] (mkS 41 [(0, .sl (a_1.map (AV.int .i64)) none), (1, .sl (b_2.map (AV.int .i64)) none), (5, i6 (IntKind.i64.wrap (i_6 + 1)))]) ⟨[], []⟩ ?_
       dsimp only
       exact ⟨_, _, Forgets.refl _ _ _, k, Nat.lt_succ_self k, (IntKind.i64.wrap (i_6 + 1)), h, rfl, rfl⟩
    ·refine Ex.condF _ rfl hc_15 ?_
     refine Ex.exit ?_
     (try simp only [reduceCtorEq, AEx.ex.injEq, Nat.reduceEqDiff, if_true, if_false])
     exact ⟨_, _, forgetK [0, 1], h, rfl, rfl⟩
 ·rintro a S ⟨h, rfl, rfl⟩
  subst hK_5
  refine Ex.seq ?_
  refine regH 6 [(1, .eq (i6 ((a_1.length : Nat) : Int))), (3, .eq (i6 ((b_2.length : Nat) : Int)))] [4] [AV.int .i64 (((a_1.map (AV.int .i64)).length : Nat) : Int) = AV.int .i64 ((a_1.length : Nat) : Int), AV.int .i64 (((b_2.map (AV.int .i64)).length : Nat) : Int) = AV.int .i64 ((b_2.length : Nat) : Int)] (mkS 41 [(4, .bool (decide (((a_1.length : Nat) : Int) < ((b_2.length : Nat) : Int))))]) (⟨[], []⟩) (by kernel_rfl) ⟨lenM _ _, lenM _ _, trivial⟩ rfl ?_
  refine Ex.ret ?_
  obtain rfl := sJ h
  exact rt (.bool (decide (((a_1.length : Nat) : Int) < ((b_2.length : Nat) : Int))))
end Go.Proofs.YtkchfjblcfbajaaDoor
end
section
namespace Go.Proofs.YtkchfjblcfbajaaDoor
open Go.RowKit

theorem dT {p : Prop} [Decidable p] (h : p) : decide p = true := decide_eq_true h
theorem dF {p : Prop} [Decidable p] (h : ¬ p) : decide p = false := decide_eq_false h
structure GoodSt (n : Nat) (s : T_Street) : Prop where
 a0 : 0 ≤ s.A
 a1 : s.A < (n : Int)
 b0 : 0 ≤ s.B
 b1 : s.B < (n : Int)
 ne : s.A ≠ s.B
structure Wk (ss : List T_Street) (first : Int) (p : List Int) (sq : List Int) : Prop where
 len : sq.length = p.length + 1
 fst : sq[0]? = some first
 step : ∀ (i : Nat) k, p[i]? = some k → 0 ≤ k ∧ ∃ s a b, ss[k.toNat]? = some s ∧ sq[i]? = some a ∧ sq[i + 1]? = some b ∧ (a = s.A ∧ b = s.B ∨ a ≠ s.A ∧ a = s.B ∧ b = s.A)
theorem Wk.nil (ss : List T_Street) (f : Int) : Wk ss f [] [f] := ⟨rfl, rfl, fun i k h => by simp at h⟩
theorem Wk.snoc {ss : List T_Street} {f : Int} {p sq : List Int} {a b k : Int} {s : T_Street} (h : Wk ss f p sq) (hl : sq[p.length]? = some a) (hk : 0 ≤ k) (hs : ss[k.toNat]? = some s) (hab : a = s.A ∧ b = s.B ∨ a ≠ s.A ∧ a = s.B ∧ b = s.A) : Wk ss f (p ++ [k]) (sq ++ [b]) := by
 refine ⟨by simp [h.len], ?_, fun i j hj => ?_⟩
 ·rw [List.getElem?_append_left (by rw [h.len]; omega)]; exact h.fst
 ·by_cases hi : i < p.length
  ·rw [List.getElem?_append_left hi] at hj
   obtain ⟨h0, s', a', b', g1, g2, g3, g4⟩ := h.step i j hj
   exact ⟨h0, s', a', b', g1, by rw [List.getElem?_append_left (by rw [h.len]; omega)]; exact g2, by rw [List.getElem?_append_left (by rw [h.len]; omega)]; exact g3, g4⟩
  ·have hlt := (List.getElem?_eq_some_iff.1 hj).1
   have hi2 : i = p.length := by simp at hlt; omega
   subst hi2
   rw [List.getElem?_concat_length] at hj
   cases hj
   refine ⟨hk, s, a, b, hs, by rw [List.getElem?_append_left (by rw [h.len]; omega)]; exact hl, ?_, hab⟩
   rw [← h.len, List.getElem?_concat_length]
theorem Wk.mem {ss : List T_Street} {f : Int} {p sq : List Int} {n : Nat} (h : Wk ss f p sq) (hf : 0 ≤ f ∧ f < (n : Int)) (hs : ∀ s ∈ ss, GoodSt n s) : ∀ x ∈ sq, 0 ≤ x ∧ x < (n : Int) := by
 intro x hx
 obtain ⟨i, hi, rfl⟩ := List.mem_iff_getElem.1 hx
 cases i with
 | zero =>
  have := h.fst
  rw [List.getElem?_eq_getElem hi] at this
  cases this; exact hf
 | succ i =>
  have hlt : i < p.length := by have := h.len; omega
  obtain ⟨_, s, a, b, g1, _, g3, g4⟩ := h.step i p[i] (List.getElem?_eq_getElem hlt)
  rw [List.getElem?_eq_getElem hi] at g3
  cases g3
  have := hs s (List.mem_of_getElem? g1)
  rcases g4 with ⟨_, e⟩ | ⟨_, _, e⟩
  ·rw [e]; exact ⟨this.b0, this.b1⟩
  ·rw [e]; exact ⟨this.a0, this.a1⟩
structure GoodG (n : Nat) (ss : List T_Street) (g : T_Group) : Prop where
 s0 : 0 ≤ g.Size.Lo
 s1 : g.Size.Lo ≤ g.Size.Hi
 s2 : g.Size.Hi ≤ 90
 t0 : 0 ≤ g.At.Lo
 t1 : g.At.Lo ≤ g.At.Hi
 t2 : g.At.Hi ≤ 4
 y0 : 1 ≤ g.Stay
 y1 : g.Stay ≤ 4
 f0 : 0 ≤ g.First
 f1 : g.First < (n : Int)
 wk : ∃ sq, Wk ss g.First g.Path sq
 pl : g.Path.length ≤ 4
structure GoodTw (t : T_Town) : Prop where
 r1 : 1 ≤ t.Rooms.length
 r2 : t.Rooms.length ≤ 12
 rm : ∀ x ∈ t.Rooms, 0 ≤ x ∧ x ≤ 500
 s1 : t.Streets.length ≤ 12
 st : ∀ s ∈ t.Streets, GoodSt t.Rooms.length s
 g1 : t.Groups.length ≤ 12
 gr : ∀ g ∈ t.Groups, GoodG t.Rooms.length t.Streets g
 e0 : 0 ≤ t.Steps
 e1 : t.Steps ≤ 10
theorem other_p (N : Nat) (s : T_Street) (q : Int) : p_br6_Other N s q = some (if q = s.A then s.B else if q = s.B then s.A else -1) := by
 unfold p_br6_Other
 by_cases h1 : q = s.A
 ·rw [show (q == s.A) = true from by simpa using h1, cond_true, if_pos h1]
 ·rw [show (q == s.A) = false from by simpa using h1, cond_false, if_neg h1]
  by_cases h2 : q = s.B
  ·rw [show (q == s.B) = true from by simpa using h2, cond_true, if_pos h2]
  ·rw [show (q == s.B) = false from by simpa using h2, cond_false, if_neg h2]
theorem fit_p (N : Nat) (x n : Int) (h0 : 0 ≤ x) (hx : x < 9000000000000000000) (h2 : 2 ≤ n) (hn : n < 9000000000000000000) : p_bk_Fit N x n = some (x % n) := by
 unfold p_bk_Fit
 rw [dF (by omega), cond_false]
 have e : nzI n = some () := by unfold nzI; rw [if_neg (by omega)]
 rw [e, Option.bind_some, Int.tmod_eq_emod_of_nonneg h0]
 have h3 := Int.emod_nonneg x (show n ≠ 0 by omega)
 rw [dF (by omega), cond_false]
theorem span_p (N : Nat) (d : T_bk_Drum) (lo hi : Int) (h0 : 0 ≤ lo) (h1 : lo ≤ hi) (h2 : hi ≤ 1000000000) : ∃ (x : T_Span) (d' : T_bk_Drum), p_bk_Drum_Span N d lo hi = some (x, d') ∧ lo ≤ x.Lo ∧ x.Lo ≤ x.Hi ∧ x.Hi ≤ hi := by
 unfold p_bk_Drum_Span
 obtain ⟨n, d1, e, n0, n1, _⟩ := mid_p N d lo hi (by omega) (by omega) (by omega) (by omega)
 have n1 := n1 h1
 rw [e, Option.bind_some]; clear e
 obtain ⟨r, d2, e, _⟩ := roll_le N d1 3 (by omega) (by omega)
 rw [e, Option.bind_some]; clear e
 dsimp only
 cases hc : (r == 0) with
 | true => exact ⟨⟨n, n⟩, d2, rfl, n0, Int.le_refl _, n1⟩
 | false =>
  rw [cond_false]
  cases hc2 : (r == 1) with
  | true =>
   rw [cond_true, w64 (x := n + 3) (by omega) (by omega)]
   generalize hm : (if n + 3 < hi then n + 3 else hi) = m
   have hm2 : n ≤ m ∧ m ≤ hi := by split at hm <;> omega
   obtain ⟨k, d3, e, k0, k1, _⟩ := mid_p N d2 n m (by omega) (by omega) (by omega) (by omega)
   have k1 := k1 hm2.1
   rw [e]
   exact ⟨⟨n, k⟩, d3, rfl, n0, k0, by dsimp only; omega⟩
  | false =>
   rw [cond_false]
   obtain ⟨k, d3, e, k0, k1, _⟩ := mid_p N d2 n hi (by omega) (by omega) (by omega) (by omega)
   have k1 := k1 n1
   rw [e]
   exact ⟨⟨n, k⟩, d3, rfl, n0, k0, by dsimp only; omega⟩
theorem path_p (N : Nat) (n : Nat) (ss : List T_Street) (hst : ∀ s ∈ ss, GoodSt n s) (at0 k0 b0 first : Int) (pl0 : List Int) {ρ : Type} (T : Option ρ → Prop) (K : Int → List Int → Option ρ) (hN : 1000 < N) (hk0 : k0 ≤ 4) (hk1 : 0 ≤ k0) (hss : ss.length ≤ 12)
  (hw : ∃ sq, Wk ss first [] sq ∧ sq[([] : List Int).length]? = some at0) (hend : ∀ b p, (∃ sq, Wk ss first p sq) → p.length ≤ 4 → T (K b p))
  {body : (Int → Int → Int → List Int → Option ρ) → Int → Int → Int → List Int → Option ρ}
  (hbody : ∀ rec at_ k b p, body rec at_ k b p = (letJ (fun (y_80 : Bool) => (bif y_80 then (letJ (fun (at_86 : Int) (b_87 : Int) (b_88 : List Int) => (rec at_86 (IntKind.i64.wrap (k - 1)) b_87 b_88)) (fun k_89 => ((p_bk_Drum_Roll N (⟨b⟩ : T_bk_Drum) ((ss.length : Nat) : Int)).bind fun r_92 => ((getI ss r_92.1).bind fun x_93 => ((p_br6_Other N x_93 at_).bind fun r_94 => (bif (decide (r_94 ≥ 0)) then ((pushI p ([r_92.1] : List Int)).bind fun l_96 => (k_89 r_94 r_92.2.beat_ l_96)) else (k_89 at_ r_92.2.beat_ p))))))) else (K b p))) (fun k_81 => (bif (decide (k > 0)) then (k_81 (decide (((ss.length : Nat) : Int) > 0))) else (k_81 false))))) :
  T (loop4 body N at0 k0 b0 []) := by
 refine loop4_T T (fun at_ k b p => 0 ≤ k ∧ (p.length : Int) + k ≤ 4 ∧ ∃ sq, Wk ss first p sq ∧ sq[p.length]? = some at_) (fun at_ k b p => k.toNat) ?_ N at0 k0 b0 [] ⟨hk1, by simpa using hk0, hw⟩ (by omega)
 rintro rec at_ k b p ⟨q0, q1, sq, hsq, hlast⟩ ih
 rw [hbody]
 simp only [letJ_eq]
 by_cases hk : k > 0
 ·rw [dT hk, cond_true]
  by_cases hl : ((ss.length : Nat) : Int) > 0
  ·rw [dT hl, cond_true]
   obtain ⟨r, d1, e, r0, r1⟩ := roll_le N ⟨b⟩ ((ss.length : Nat) : Int) (by omega) (by omega)
   rw [e, Option.bind_some]; clear e
   dsimp only
   obtain ⟨s, e1, e2, e3⟩ := getI_lt r0 r1
   rw [e1, Option.bind_some, other_p, Option.bind_some, w64 (x := k - 1) (by omega) (by omega)]
   have hg := hst s e3
   have := hg.a0; have := hg.b0
   by_cases hA : at_ = s.A
   ·rw [if_pos hA, dT (by omega), cond_true, pushI_ok (by simp; omega), Option.bind_some]
    refine ih _ _ _ _ ⟨by omega, by simp; omega, _, hsq.snoc hlast r0 e2 (.inl ⟨hA, rfl⟩), ?_⟩ (by omega)
    rw [List.length_append, List.length_singleton, ← hsq.len, List.getElem?_concat_length]
   ·rw [if_neg hA]
    by_cases hB : at_ = s.B
    ·rw [if_pos hB, dT (by omega), cond_true, pushI_ok (by simp; omega), Option.bind_some]
     refine ih _ _ _ _ ⟨by omega, by simp; omega, _, hsq.snoc hlast r0 e2 (.inr ⟨hA, hB, rfl⟩), ?_⟩ (by omega)
     rw [List.length_append, List.length_singleton, ← hsq.len, List.getElem?_concat_length]
    ·rw [if_neg hB, dF (by omega), cond_false]
     exact ih _ _ _ _ ⟨by omega, by omega, sq, hsq, hlast⟩ (by omega)
  ·rw [dF hl, cond_false]
   exact hend b p ⟨sq, hsq⟩ (by omega)
 ·rw [dF hk, cond_false, cond_false]
  exact hend b p ⟨sq, hsq⟩ (by omega)
theorem townOf_p (N : Nat) (hN : 1000 < N) (d : T_bk_Drum) (squares streets groups : Nat) (h1 : 1 ≤ squares) (hs : squares ≤ 12) (ht : streets ≤ 12) (hg : groups ≤ 12) : ∃ (t : T_Town) (d' : T_bk_Drum), p_bk_TownOf N d (squares : Int) (streets : Int) (groups : Int) = some (t, d') ∧ GoodTw t ∧ t.Rooms.length ≤ squares ∧ t.Streets.length ≤ streets ∧ t.Groups.length ≤ groups := by
 unfold p_bk_TownOf
 obtain ⟨r, d1, e, hr⟩ := any_p N d [4, 11] (by simp) (by simp)
 have hr : r = 4 ∨ r = 11 := by simpa using hr
 rw [e, Option.bind_some]; clear e
 dsimp only
 obtain ⟨steps, d2, e, e0, e1⟩ := roll_le N d1 r (by omega) (by omega)
 rw [e, Option.bind_some]; clear e
 dsimp only
 obtain ⟨n, d3, e, n0, n1, _⟩ := mid_p N d2 1 (squares : Int) (by omega) (by omega) (by omega) (by omega)
 have n1 := n1 (by omega)
 rw [e, Option.bind_some]; clear e
 dsimp only
 obtain ⟨n', rfl⟩ : ∃ n' : Nat, n = (n' : Int) := ⟨n.toNat, by omega⟩
 let T : Option (T_Town × T_bk_Drum) → Prop := fun x => ∃ (t : T_Town) (d' : T_bk_Drum), x = some (t, d') ∧ GoodTw t ∧ t.Rooms.length ≤ squares ∧ t.Streets.length ≤ streets ∧ t.Groups.length ≤ groups
 show T _
 refine letJ_gen T _ _ (fun K1 hK1 => ?_)
 refine loop3_T T (fun i b (l : List Int) => 0 ≤ i ∧ i ≤ (n' : Int) ∧ (l.length : Int) = i ∧ ∀ x ∈ l, 0 ≤ x ∧ x ≤ 500) (fun i b l => (n' - i.toNat)) ?_ N 0 _ [] ⟨by omega, by omega, by simp, by simp⟩ (by omega)
 rintro rec i b l ⟨i0, i1, hl, hx⟩ ih
 by_cases hi : i < (n' : Int)
 ·rw [dT hi, cond_true]
  obtain ⟨x1, d4, e, x0, x1'⟩ := roll_le N ⟨b⟩ 60 (by omega) (by omega)
  rw [e, Option.bind_some]; clear e
  dsimp only
  obtain ⟨x2, d5, e, y0, y1⟩ := roll_le N d4 150 (by omega) (by omega)
  rw [e, Option.bind_some]; clear e
  dsimp only
  obtain ⟨x3, d6, e, hx3⟩ := any_p N d5 [x1, x2, 500] (by simp) (by simp)
  have hx3 : x3 = x1 ∨ x3 = x2 ∨ x3 = 500 := by simpa using hx3
  rw [e, Option.bind_some]; clear e
  dsimp only
  rw [pushI_ok (by simp; omega), Option.bind_some, w64 (x := i + 1) (by omega) (by omega)]
  refine ih _ _ _ ⟨by omega, by omega, by simp; omega, fun x hm => ?_⟩ (by omega)
  rcases List.mem_append.1 hm with hm | hm
  ·exact hx x hm
  ·obtain rfl := List.mem_singleton.1 hm
   omega
 rw [dF hi, cond_false, hK1]
 have hln : l.length = n' := by omega
 clear ih hK1
 dsimp only
 obtain ⟨s0, d4, e, s1, s2⟩ := roll_le N ⟨b⟩ (streets + 1 : Int) (by omega) (by omega)
 rw [w64 (x := (streets : Int) + 1) (by omega) (by omega), e, Option.bind_some]; clear e
 dsimp only
 refine letJ_gen T _ _ (fun K2 hK2 => ?_)
 refine loop3_T T (fun i b (m : List T_Street) => 0 ≤ i ∧ (m.length : Int) + i ≤ streets ∧ ∀ s ∈ m, GoodSt n' s) (fun i b m => i.toNat) ?_ N s0 _ [] ⟨by omega, by simp; omega, by simp⟩ (by omega)
 rintro rec i2 b2 m ⟨j0, j1, hm⟩ ih
 simp only [letJ_eq]
 have fin : T (K2 b2 m) := by
  rw [hK2]
  dsimp only
  obtain ⟨g0, d5, e, g1, g2⟩ := roll_le N ⟨b2⟩ (groups + 1 : Int) (by omega) (by omega)
  rw [w64 (x := (groups : Int) + 1) (by omega) (by omega), e, Option.bind_some]; clear e
  dsimp only
  refine letJ_gen T _ _ (fun K3 hK3 => ?_)
  refine loop3_T T (fun i b (gs : List T_Group) => 0 ≤ i ∧ (gs.length : Int) + i ≤ groups ∧ ∀ g ∈ gs, GoodG n' m g) (fun i b gs => i.toNat) ?_ N g0 _ [] ⟨by omega, by simp; omega, by simp⟩ (by omega)
  rintro rec i3 b3 gs ⟨k0, k1, hgs⟩ ih3
  by_cases hi3 : i3 > 0
  ·rw [dT hi3, cond_true]
   obtain ⟨z, d6, e, hz⟩ := any_p N ⟨b3⟩ [30, 90] (by simp) (by simp)
   have hz : z = 30 ∨ z = 90 := by simpa using hz
   rw [e, Option.bind_some]; clear e
   dsimp only
   obtain ⟨size, d7, e, z0, z1, z2⟩ := span_p N d6 0 z (by omega) (by omega) (by omega)
   rw [e, Option.bind_some]; clear e
   dsimp only
   obtain ⟨w, d8, e, hw⟩ := any_p N d7 [0, 4] (by simp) (by simp)
   have hw : w = 0 ∨ w = 4 := by simpa using hw
   rw [e, Option.bind_some]; clear e
   dsimp only
   obtain ⟨at_, d9, e, a0, a1, a2⟩ := span_p N d8 0 w (by omega) (by omega) (by omega)
   rw [e, Option.bind_some]; clear e
   dsimp only
   obtain ⟨stay, d10, e, t0, t1, _⟩ := mid_p N d9 1 4 (by omega) (by omega) (by omega) (by omega)
   have t1 := t1 (by omega)
   rw [e, Option.bind_some]; clear e
   dsimp only
   obtain ⟨first, d11, e, f0, f1⟩ := roll_le N d10 (n' : Int) (by omega) (by omega)
   rw [e, Option.bind_some]; clear e
   dsimp only
   obtain ⟨k, d12, e, q0, q1⟩ := roll_le N d11 5 (by omega) (by omega)
   rw [e, Option.bind_some]; clear e
   dsimp only
   refine letJ_gen T _ _ (fun K4 hK4 => ?_)
   refine path_p N n' m hm first k _ first [] T K4 hN (by omega) q0 (by omega) ⟨[first], Wk.nil m first, rfl⟩ (fun b4 p hp hpl => ?_) (fun _ _ _ _ _ => rfl)
   rw [hK4]
   dsimp only
   rw [pushI_ok (by simp; omega), Option.bind_some, w64 (x := i3 - 1) (by omega) (by omega)]
   refine ih3 _ _ _ ⟨by omega, by simp; omega, fun g hgm => ?_⟩ (by omega)
   rcases List.mem_append.1 hgm with hgm | hgm
   ·exact hgs g hgm
   ·obtain rfl := List.mem_singleton.1 hgm
    exact ⟨z0, z1, by dsimp only; omega, a0, a1, by dsimp only; omega, t0, t1, f0, f1, hp, hpl⟩
  ·rw [dF hi3, cond_false, hK3]
   exact ⟨_, _, rfl, ⟨by dsimp only; omega, by dsimp only; omega, hx, by dsimp only; omega, by dsimp only; rw [hln]; exact hm, by dsimp only; omega, by dsimp only; rw [hln]; exact hgs, e0, by dsimp only; omega⟩, by dsimp only; omega, by dsimp only; omega, by dsimp only; omega⟩
 by_cases hi2 : i2 > 0
 ·rw [dT hi2, cond_true]
  by_cases hn1 : (n' : Int) > 1
  ·rw [dT hn1, cond_true]
   obtain ⟨a, d5, e, a0, a1⟩ := roll_le N ⟨b2⟩ (n' : Int) (by omega) (by omega)
   rw [e, Option.bind_some]; clear e
   dsimp only
   rw [w64 (x := (n' : Int) - 1) (by omega) (by omega)]
   obtain ⟨r2, d6, e, r0, r1, _⟩ := mid_p N d5 1 ((n' : Int) - 1) (by omega) (by omega) (by omega) (by omega)
   have r1 := r1 (by omega)
   rw [e, Option.bind_some]; clear e
   dsimp only
   rw [w64 (x := a + r2) (by omega) (by omega), fit_p N _ _ (by omega) (by omega) (by omega) (by omega), Option.bind_some, pushI_ok (by simp; omega), Option.bind_some, w64 (x := i2 - 1) (by omega) (by omega)]
   refine ih _ _ _ ⟨by omega, by simp; omega, fun s hsm => ?_⟩ (by omega)
   rcases List.mem_append.1 hsm with hsm | hsm
   ·exact hm s hsm
   ·obtain rfl := List.mem_singleton.1 hsm
    have h3 := Int.emod_nonneg (a + r2) (show (n' : Int) ≠ 0 by omega)
    have h4 := Int.emod_lt_of_pos (a + r2) (show 0 < (n' : Int) by omega)
    refine ⟨a0, a1, h3, h4, ?_⟩
    dsimp only
    by_cases hlt : a + r2 < (n' : Int)
    ·rw [Int.emod_eq_of_lt (by omega) hlt]; omega
    ·have : (a + r2) % (n' : Int) = a + r2 - n' := by
      rw [← Int.sub_emod_right, Int.emod_eq_of_lt (by omega) (by omega)]
     omega
  ·rw [dF hn1, cond_false]
   exact fin
 ·rw [dF hi2, cond_false, cond_false]
  exact fin
end Go.Proofs.YtkchfjblcfbajaaDoor
end
section
namespace Go.Proofs.YtkchfjblcfbajaaDoor
open Go.RowKit

structure GoodC (c : T_City) : Prop where
 tw : GoodTw c.Town
 r4 : c.Town.Rooms.length ≤ 4
 b0 : 0 ≤ c.Break
 b1 : c.Break ≤ 120
 sl : c.Sleep.length = c.Town.Rooms.length
 sv : ∀ x ∈ c.Sleep, 0 ≤ x ∧ x ≤ 720
structure GoodB (c : T_City) (b : T_Band) (sq : List Int) : Prop where
 f0 : 0 ≤ b.First
 f1 : b.First < (c.Town.Rooms.length : Int)
 wk : Wk c.Town.Streets b.First b.Path sq
 pl : b.Path.length ≤ 4
 s0 : 0 ≤ b.Start.Lo
 s1 : b.Start.Lo ≤ b.Start.Hi
 s2 : b.Start.Hi - b.Start.Lo ≤ 30
 y0 : 1 ≤ b.Stay
 y1 : b.Stay ≤ 20
 p0 : 0 ≤ b.People
 p1 : b.People ≤ 600
 en : b.Start.Hi + b.Stay * ((b.Path.length : Int) + 1) ≤ 720
theorem cityOf_p (N : Nat) (hN : 1000 < N) (d : T_bk_Drum) : ∃ (c : T_City) (d' : T_bk_Drum), p_bk_CityOf N d = some (c, d') ∧ GoodC c := by
 unfold p_bk_CityOf
 obtain ⟨t, d1, e, ht, h4, _, _⟩ := townOf_p N hN d 4 5 1 (by omega) (by omega) (by omega) (by omega)
 rw [show ((4 : Nat) : Int) = 4 from rfl, show ((5 : Nat) : Int) = 5 from rfl, show ((1 : Nat) : Int) = 1 from rfl] at e
 rw [e, Option.bind_some]; clear e
 dsimp only
 obtain ⟨x1, d2, e, x0, x1'⟩ := roll_le N d1 10 (by omega) (by omega)
 rw [e, Option.bind_some]; clear e
 dsimp only
 obtain ⟨x2, d3, e, y0, y1⟩ := roll_le N d2 60 (by omega) (by omega)
 rw [e, Option.bind_some]; clear e
 dsimp only
 obtain ⟨br, d4, e, hb⟩ := any_p N d3 [0, 1, x1, x2] (by simp) (by simp)
 have hb : br = 0 ∨ br = 1 ∨ br = x1 ∨ br = x2 := by simpa using hb
 rw [e, Option.bind_some]; clear e
 dsimp only
 let T : Option (T_City × T_bk_Drum) → Prop := fun x => ∃ (c : T_City) (d' : T_bk_Drum), x = some (c, d') ∧ GoodC c
 show T _
 refine letJ_gen T _ _ (fun K1 hK1 => ?_)
 have hr := ht.r2
 refine loop3_T T (fun i b (l : List Int) => 0 ≤ i ∧ i ≤ (t.Rooms.length : Int) ∧ (l.length : Int) = i ∧ ∀ x ∈ l, 0 ≤ x ∧ x ≤ 720) (fun i b l => (t.Rooms.length - i.toNat)) ?_ N 0 _ [] ⟨by omega, by omega, by simp, by simp⟩ (by omega)
 rintro rec i b l ⟨i0, i1, hl, hx⟩ ih
 by_cases hi : i < (t.Rooms.length : Int)
 ·rw [dT hi, cond_true]
  obtain ⟨x1, d4, e, x0, x1'⟩ := roll_le N ⟨b⟩ 721 (by omega) (by omega)
  rw [e, Option.bind_some]; clear e
  dsimp only
  obtain ⟨x2, d5, e, y0, y1, _⟩ := mid_p N d4 300 600 (by omega) (by omega) (by omega) (by omega)
  have y1 := y1 (by omega)
  rw [e, Option.bind_some]; clear e
  dsimp only
  obtain ⟨x3, d6, e, hx3⟩ := any_p N d5 [0, x1, x2] (by simp) (by simp)
  have hx3 : x3 = 0 ∨ x3 = x1 ∨ x3 = x2 := by simpa using hx3
  rw [e, Option.bind_some]; clear e
  dsimp only
  rw [pushI_ok (by simp; omega), Option.bind_some, w64 (x := i + 1) (by omega) (by omega)]
  refine ih _ _ _ ⟨by omega, by omega, by simp; omega, fun x hm => ?_⟩ (by omega)
  rcases List.mem_append.1 hm with hm | hm
  ·exact hx x hm
  ·obtain rfl := List.mem_singleton.1 hm
   omega
 ·rw [dF hi, cond_false, hK1]
  exact ⟨_, _, rfl, ⟨ht, h4, by dsimp only; omega, by dsimp only; omega, by dsimp only; omega, hx⟩⟩
theorem bandOf_p (N : Nat) (hN : 1000 < N) (d : T_bk_Drum) (c : T_City) (hc : GoodC c) : ∃ (b : T_Band) (d' : T_bk_Drum), p_bk_BandOf N d c = some (b, d') ∧ ∃ sq, GoodB c b sq ∧ b.Start.Hi - b.Start.Lo ≤ 4 := by
 unfold p_bk_BandOf
 have hr1 := hc.tw.r1; have hr2 := hc.tw.r2
 obtain ⟨first, d1, e, f0, f1⟩ := roll_le N d ((c.Town.Rooms.length : Nat) : Int) (by omega) (by omega)
 rw [e, Option.bind_some]; clear e
 dsimp only
 obtain ⟨z, d2, e, hz⟩ := any_p N d1 [6, 20] (by simp) (by simp)
 have hz : z = 6 ∨ z = 20 := by simpa using hz
 rw [e, Option.bind_some]; clear e
 dsimp only
 obtain ⟨stay, d3, e, y0, y1, _⟩ := mid_p N d2 1 z (by omega) (by omega) (by omega) (by omega)
 have y1 := y1 (by omega)
 rw [e, Option.bind_some]; clear e
 dsimp only
 obtain ⟨q1, d4, e, q10, q11⟩ := roll_le N d3 60 (by omega) (by omega)
 rw [e, Option.bind_some]; clear e
 dsimp only
 obtain ⟨q2, d5, e, q20, q21⟩ := roll_le N d4 600 (by omega) (by omega)
 rw [e, Option.bind_some]; clear e
 dsimp only
 obtain ⟨pp, d6, e, hp⟩ := any_p N d5 [0, q1, q2] (by simp) (by simp)
 have hp : pp = 0 ∨ pp = q1 ∨ pp = q2 := by simpa using hp
 rw [e, Option.bind_some]; clear e
 dsimp only
 obtain ⟨k, d7, e, k0, k1⟩ := roll_le N d6 5 (by omega) (by omega)
 rw [e, Option.bind_some]; clear e
 dsimp only
 let T : Option (T_Band × T_bk_Drum) → Prop := fun x => ∃ (b : T_Band) (d' : T_bk_Drum), x = some (b, d') ∧ ∃ sq, GoodB c b sq ∧ b.Start.Hi - b.Start.Lo ≤ 4
 show T _
 refine letJ_gen T _ _ (fun K1 hK1 => ?_)
 refine path_p N c.Town.Rooms.length c.Town.Streets hc.tw.st first k _ first [] T K1 hN (by omega) k0 hc.tw.s1 ⟨[first], Wk.nil _ first, rfl⟩ (fun b4 p hw hpl => ?_) (fun _ _ _ _ _ => rfl)
 obtain ⟨sq, hw⟩ := hw
 rw [hK1]
 dsimp only
 have hm : stay * ((p.length : Int) + 1) ≤ 20 * 5 := Int.mul_le_mul (by omega) (by omega) (by omega) (by omega)
 have hm0 : 0 ≤ stay * ((p.length : Int) + 1) := Int.mul_nonneg (by omega) (by omega)
 rw [w64 (x := (p.length : Int) + 1) (by omega) (by omega)]
 generalize hM : stay * ((p.length : Int) + 1) = M at hm hm0
 rw [w64 (x := M) (by omega) (by omega), w64 (x := 720 - M) (by omega) (by omega), Option.bind_some, w64 (x := 720 - M - 4) (by omega) (by omega)]
 obtain ⟨z2, d8, e, hz2⟩ := any_p N ⟨b4⟩ [60, 200, 720 - M - 4] (by simp) (by simp)
 have hz2 : z2 = 60 ∨ z2 = 200 ∨ z2 = 720 - M - 4 := by simpa using hz2
 rw [e, Option.bind_some]; clear e
 dsimp only
 obtain ⟨st, d9, e, st0, st1⟩ := roll_le N d8 z2 (by omega) (by omega)
 rw [e, Option.bind_some]; clear e
 dsimp only
 obtain ⟨w1, d10, e, w10, w11⟩ := roll_le N d9 5 (by omega) (by omega)
 rw [e, Option.bind_some]; clear e
 dsimp only
 obtain ⟨w2, d11, e, hw2⟩ := any_p N d10 [0, 0, w1] (by simp) (by simp)
 have hw2 : w2 = 0 ∨ w2 = w1 := by simpa using hw2
 rw [e, Option.bind_some]; clear e
 dsimp only
 rw [w64 (x := st + w2) (by omega) (by omega)]
 exact ⟨_, _, rfl, sq, ⟨f0, f1, hw, hpl, by dsimp only; omega, by dsimp only; omega, by dsimp only; omega, y0, by dsimp only; omega, by dsimp only; omega, by dsimp only; omega, by dsimp only; rw [hM]; omega⟩, by dsimp only; omega⟩
theorem bandsOf_p (N : Nat) (hN : 1000 < N) (d : T_bk_Drum) (c : T_City) (hc : GoodC c) (most : Nat) (hm : most ≤ 10) : ∃ (l : List T_Band) (d' : T_bk_Drum), p_bk_BandsOf N d c (most : Int) = some (l, d') ∧ l.length ≤ most ∧ ∀ b ∈ l, ∃ sq, GoodB c b sq ∧ b.Start.Hi - b.Start.Lo ≤ 4 := by
 unfold p_bk_BandsOf
 rw [w64 (x := (most : Int) + 1) (by omega) (by omega)]
 obtain ⟨n, d1, e, n0, n1⟩ := roll_le N d ((most : Int) + 1) (by omega) (by omega)
 rw [e, Option.bind_some]; clear e
 dsimp only
 let T : Option (List T_Band × T_bk_Drum) → Prop := fun x => ∃ (l : List T_Band) (d' : T_bk_Drum), x = some (l, d') ∧ l.length ≤ most ∧ ∀ b ∈ l, ∃ sq, GoodB c b sq ∧ b.Start.Hi - b.Start.Lo ≤ 4
 show T _
 refine letJ_gen T _ _ (fun K1 hK1 => ?_)
 refine loop3_T T (fun (l : List T_Band) i b => 0 ≤ i ∧ (l.length : Int) + i ≤ most ∧ ∀ b ∈ l, ∃ sq, GoodB c b sq ∧ b.Start.Hi - b.Start.Lo ≤ 4) (fun l i b => i.toNat) ?_ N [] n _ ⟨by omega, by simp; omega, by simp⟩ (by omega)
 rintro rec l i b ⟨i0, i1, hl⟩ ih
 by_cases hi : i > 0
 ·rw [dT hi, cond_true]
  obtain ⟨x, d2, e, hx⟩ := bandOf_p N hN ⟨b⟩ c hc
  rw [e, Option.bind_some]; clear e
  dsimp only
  rw [pushI_ok (by simp; omega), Option.bind_some, w64 (x := i - 1) (by omega) (by omega)]
  refine ih _ _ _ ⟨by omega, by simp; omega, fun y hy => ?_⟩ (by omega)
  rcases List.mem_append.1 hy with hy | hy
  ·exact hl y hy
  ·obtain rfl := List.mem_singleton.1 hy
   exact hx
 ·rw [dF hi, cond_false, hK1]
  exact ⟨_, _, rfl, by omega, hl⟩
end Go.Proofs.YtkchfjblcfbajaaDoor
end
