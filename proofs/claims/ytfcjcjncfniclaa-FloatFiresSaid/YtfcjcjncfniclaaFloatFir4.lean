/- Part 5 of what the law needs: own work, put together. -/
import Derived.Deep.Slices
import Derived.WideShapes
import Derived.ProofKit
import Derived.Test.YtfcjcjncfniclaaRows
import Derived.Test.YtfcjcjncfniclaaFloatFir3
section
namespace Go.Proofs.Ytfcjcjncfniclaa
open Go.RowKit
set_option linter.unusedVariables false
set_option maxRecDepth 100000
theorem b1_97 : evFn X4 300 F85 [.int .i64 97, .ptr 0 0, .ptr 1 0] [mid9, [.int .i64 200]] = some (.bool true, [mid9, [.int .i64 200]]) := by kernel_rfl
theorem b1_48 : evFn X4 300 F85 [.int .i64 48, .ptr 0 0, .ptr 1 0] [mid9, [.int .i64 200]] = some (.bool true, [mid9, [.int .i64 200]]) := by kernel_rfl
theorem b1_24 : evFn X4 300 F85 [.int .i64 24, .ptr 0 0, .ptr 1 0] [mid9, [.int .i64 200]] = some (.bool true, [mid9, [.int .i64 200]]) := by kernel_rfl
theorem b1_12 : evFn X4 300 F85 [.int .i64 12, .ptr 0 0, .ptr 1 0] [mid9, [.int .i64 200]] = some (.bool false, [mid9, [.int .i64 200]]) := by kernel_rfl
theorem b1_18 : evFn X4 300 F85 [.int .i64 18, .ptr 0 0, .ptr 1 0] [mid9, [.int .i64 200]] = some (.bool true, [mid9, [.int .i64 200]]) := by kernel_rfl
theorem b1_15 : evFn X4 300 F85 [.int .i64 15, .ptr 0 0, .ptr 1 0] [mid9, [.int .i64 200]] = some (.bool false, [mid9, [.int .i64 200]]) := by kernel_rfl
theorem b1_17 : evFn X4 300 F85 [.int .i64 17, .ptr 0 0, .ptr 1 0] [mid9, [.int .i64 200]] = some (.bool true, [mid9, [.int .i64 200]]) := by kernel_rfl
theorem b1_16 : evFn X4 300 F85 [.int .i64 16, .ptr 0 0, .ptr 1 0] [mid9, [.int .i64 200]] = some (.bool false, [mid9, [.int .i64 200]]) := by kernel_rfl
end Go.Proofs.Ytfcjcjncfniclaa
end
section
namespace Go.Proofs.Ytfcjcjncfniclaa
open Go.RowKit
set_option linter.unusedVariables false
set_option maxRecDepth 100000
theorem b2_50000 : evFn X4 300 F87 [.int .i64 50000, .ptr 0 0, .ptr 1 0, .ptr 2 0] [mid9, [.int .i64 200], [.nils]] = some (.bool false, [mid9, [.int .i64 200], [.nils]]) := by kernel_rfl
theorem b2_75001 : evFn X4 300 F87 [.int .i64 75001, .ptr 0 0, .ptr 1 0, .ptr 2 0] [mid9, [.int .i64 200], [.nils]] = some (.bool false, [mid9, [.int .i64 200], [.nils]]) := by kernel_rfl
theorem b2_87501 : evFn X4 300 F87 [.int .i64 87501, .ptr 0 0, .ptr 1 0, .ptr 2 0] [mid9, [.int .i64 200], [.nils]] = some (.bool false, [mid9, [.int .i64 200], [.nils]]) := by kernel_rfl
theorem b2_93751 : evFn X4 300 F87 [.int .i64 93751, .ptr 0 0, .ptr 1 0, .ptr 2 0] [mid9, [.int .i64 200], [.nils]] = some (.bool false, [mid9, [.int .i64 200], [.nils]]) := by kernel_rfl
theorem b2_96876 : evFn X4 300 F87 [.int .i64 96876, .ptr 0 0, .ptr 1 0, .ptr 2 0] [mid9, [.int .i64 200], [.nils]] = some (.bool false, [mid9, [.int .i64 200], [.nils]]) := by kernel_rfl
theorem b2_98439 : evFn X4 300 F87 [.int .i64 98439, .ptr 0 0, .ptr 1 0, .ptr 2 0] [mid9, [.int .i64 200], [.nils]] = some (.bool false, [mid9, [.int .i64 200], [.nils]]) := by kernel_rfl
theorem b2_99220 : evFn X4 300 F87 [.int .i64 99220, .ptr 0 0, .ptr 1 0, .ptr 2 0] [mid9, [.int .i64 200], [.nils]] = some (.bool false, [mid9, [.int .i64 200], [.nils]]) := by kernel_rfl
theorem b2_99611 : evFn X4 300 F87 [.int .i64 99611, .ptr 0 0, .ptr 1 0, .ptr 2 0] [mid9, [.int .i64 200], [.nils]] = some (.bool false, [mid9, [.int .i64 200], [.nils]]) := by kernel_rfl
theorem b2_99806 : evFn X4 300 F87 [.int .i64 99806, .ptr 0 0, .ptr 1 0, .ptr 2 0] [mid9, [.int .i64 200], [.nils]] = some (.bool false, [mid9, [.int .i64 200], [.nils]]) := by kernel_rfl
end Go.Proofs.Ytfcjcjncfniclaa
end
section
namespace Go.Proofs.Ytfcjcjncfniclaa
open Go.RowKit
set_option linter.unusedVariables false
set_option maxRecDepth 100000
theorem b2_99904 : evFn X4 300 F87 [.int .i64 99904, .ptr 0 0, .ptr 1 0, .ptr 2 0] [mid9, [.int .i64 200], [.nils]] = some (.bool false, [mid9, [.int .i64 200], [.nils]]) := by kernel_rfl
theorem b2_99953 : evFn X4 300 F87 [.int .i64 99953, .ptr 0 0, .ptr 1 0, .ptr 2 0] [mid9, [.int .i64 200], [.nils]] = some (.bool false, [mid9, [.int .i64 200], [.nils]]) := by kernel_rfl
theorem b2_99977 : evFn X4 300 F87 [.int .i64 99977, .ptr 0 0, .ptr 1 0, .ptr 2 0] [mid9, [.int .i64 200], [.nils]] = some (.bool false, [mid9, [.int .i64 200], [.nils]]) := by kernel_rfl
theorem b2_99989 : evFn X4 300 F87 [.int .i64 99989, .ptr 0 0, .ptr 1 0, .ptr 2 0] [mid9, [.int .i64 200], [.nils]] = some (.bool false, [mid9, [.int .i64 200], [.nils]]) := by kernel_rfl
theorem b2_99995 : evFn X4 300 F87 [.int .i64 99995, .ptr 0 0, .ptr 1 0, .ptr 2 0] [mid9, [.int .i64 200], [.nils]] = some (.bool false, [mid9, [.int .i64 200], [.nils]]) := by kernel_rfl
theorem b2_99998 : evFn X4 300 F87 [.int .i64 99998, .ptr 0 0, .ptr 1 0, .ptr 2 0] [mid9, [.int .i64 200], [.nils]] = some (.bool false, [mid9, [.int .i64 200], [.nils]]) := by kernel_rfl
theorem b2_100000 : evFn X4 300 F87 [.int .i64 100000, .ptr 0 0, .ptr 1 0, .ptr 2 0] [mid9, [.int .i64 200], [.nils]] = some (.bool false, [mid9, [.int .i64 200], [.nils]]) := by kernel_rfl
end Go.Proofs.Ytfcjcjncfniclaa
end
section
namespace Go.Proofs.Ytfcjcjncfniclaa
open Go.RowKit
set_option linter.unusedVariables false
set_option maxRecDepth 100000

structure Known (P : Program) where
  f : FuncId
  xs : List AV
  cells : List (List AV)
  v : AV
  cells' : List (List AV)
  h : Contract P f xs cells v cells'
def knO {P : Program} : List (Known P) → Orc
  | [], _, _, _ => none
  | e :: l, f, xs, cells => bif Nat.beq e.f f && (beqL e.xs xs && bxBeq e.cells cells) then some (e.v, e.cells') else knO l f xs cells
theorem knO_ok {P : Program} : ∀ (l : List (Known P)), OrcOk P (knO l)
  | [], _, _, _, _, _, h => by cases h
  | e :: l, f, xs, cells, v, c', h => by
    simp only [knO] at h
    cases hc : (Nat.beq e.f f && (beqL e.xs xs && bxBeq e.cells cells)) with
    | true =>
      rw [hc, cond_true] at h
      cases h
      simp only [Bool.and_eq_true] at hc
      have := e.h
      rw [Nat.eq_of_beq_eq_true hc.1, beqL_eq _ _ hc.2.1, bxBeq_eq _ _ hc.2.2] at this
      exact this
    | false =>
      rw [hc, cond_false] at h
      exact knO_ok l f xs cells v c' h
def known1 : List (Known Try.prog) := [⟨85, [.int .i64 50000, .ptr 0 0, .ptr 1 0], [mid9, [.int .i64 200]], .bool true, [mid9, [.int .i64 200]], evFn_ok X4_ok comp85 b1_50000⟩,⟨85, [.int .i64 25000, .ptr 0 0, .ptr 1 0], [mid9, [.int .i64 200]], .bool true, [mid9, [.int .i64 200]], evFn_ok X4_ok comp85 b1_25000⟩,⟨85, [.int .i64 12500, .ptr 0 0, .ptr 1 0], [mid9, [.int .i64 200]], .bool true, [mid9, [.int .i64 200]], evFn_ok X4_ok comp85 b1_12500⟩,⟨85, [.int .i64 6250, .ptr 0 0, .ptr 1 0], [mid9, [.int .i64 200]], .bool true, [mid9, [.int .i64 200]], evFn_ok X4_ok comp85 b1_6250⟩,⟨85, [.int .i64 3125, .ptr 0 0, .ptr 1 0], [mid9, [.int .i64 200]], .bool true, [mid9, [.int .i64 200]], evFn_ok X4_ok comp85 b1_3125⟩,⟨85, [.int .i64 1562, .ptr 0 0, .ptr 1 0], [mid9, [.int .i64 200]], .bool true, [mid9, [.int .i64 200]], evFn_ok X4_ok comp85 b1_1562⟩,⟨85, [.int .i64 781, .ptr 0 0, .ptr 1 0], [mid9, [.int .i64 200]], .bool true, [mid9, [.int .i64 200]], evFn_ok X4_ok comp85 b1_781⟩,⟨85, [.int .i64 390, .ptr 0 0, .ptr 1 0], [mid9, [.int .i64 200]], .bool true, [mid9, [.int .i64 200]], evFn_ok X4_ok comp85 b1_390⟩,⟨85, [.int .i64 195, .ptr 0 0, .ptr 1 0], [mid9, [.int .i64 200]], .bool true, [mid9, [.int .i64 200]], evFn_ok X4_ok comp85 b1_195⟩,⟨85, [.int .i64 97, .ptr 0 0, .ptr 1 0], [mid9, [.int .i64 200]], .bool true, [mid9, [.int .i64 200]], evFn_ok X4_ok comp85 b1_97⟩,⟨85, [.int .i64 48, .ptr 0 0, .ptr 1 0], [mid9, [.int .i64 200]], .bool true, [mid9, [.int .i64 200]], evFn_ok X4_ok comp85 b1_48⟩,⟨85, [.int .i64 24, .ptr 0 0, .ptr 1 0], [mid9, [.int .i64 200]], .bool true, [mid9, [.int .i64 200]], evFn_ok X4_ok comp85 b1_24⟩,⟨85, [.int .i64 12, .ptr 0 0, .ptr 1 0], [mid9, [.int .i64 200]], .bool false, [mid9, [.int .i64 200]], evFn_ok X4_ok comp85 b1_12⟩,⟨85, [.int .i64 18, .ptr 0 0, .ptr 1 0], [mid9, [.int .i64 200]], .bool true, [mid9, [.int .i64 200]], evFn_ok X4_ok comp85 b1_18⟩,⟨85, [.int .i64 15, .ptr 0 0, .ptr 1 0], [mid9, [.int .i64 200]], .bool false, [mid9, [.int .i64 200]], evFn_ok X4_ok comp85 b1_15⟩,⟨85, [.int .i64 17, .ptr 0 0, .ptr 1 0], [mid9, [.int .i64 200]], .bool true, [mid9, [.int .i64 200]], evFn_ok X4_ok comp85 b1_17⟩,⟨85, [.int .i64 16, .ptr 0 0, .ptr 1 0], [mid9, [.int .i64 200]], .bool false, [mid9, [.int .i64 200]], evFn_ok X4_ok comp85 b1_16⟩]
def known2 : List (Known Try.prog) := [⟨87, [.int .i64 50000, .ptr 0 0, .ptr 1 0, .ptr 2 0], [mid9, [.int .i64 200], [.nils]], .bool false, [mid9, [.int .i64 200], [.nils]], evFn_ok X4_ok comp87 b2_50000⟩,⟨87, [.int .i64 75001, .ptr 0 0, .ptr 1 0, .ptr 2 0], [mid9, [.int .i64 200], [.nils]], .bool false, [mid9, [.int .i64 200], [.nils]], evFn_ok X4_ok comp87 b2_75001⟩,⟨87, [.int .i64 87501, .ptr 0 0, .ptr 1 0, .ptr 2 0], [mid9, [.int .i64 200], [.nils]], .bool false, [mid9, [.int .i64 200], [.nils]], evFn_ok X4_ok comp87 b2_87501⟩,⟨87, [.int .i64 93751, .ptr 0 0, .ptr 1 0, .ptr 2 0], [mid9, [.int .i64 200], [.nils]], .bool false, [mid9, [.int .i64 200], [.nils]], evFn_ok X4_ok comp87 b2_93751⟩,⟨87, [.int .i64 96876, .ptr 0 0, .ptr 1 0, .ptr 2 0], [mid9, [.int .i64 200], [.nils]], .bool false, [mid9, [.int .i64 200], [.nils]], evFn_ok X4_ok comp87 b2_96876⟩,⟨87, [.int .i64 98439, .ptr 0 0, .ptr 1 0, .ptr 2 0], [mid9, [.int .i64 200], [.nils]], .bool false, [mid9, [.int .i64 200], [.nils]], evFn_ok X4_ok comp87 b2_98439⟩,⟨87, [.int .i64 99220, .ptr 0 0, .ptr 1 0, .ptr 2 0], [mid9, [.int .i64 200], [.nils]], .bool false, [mid9, [.int .i64 200], [.nils]], evFn_ok X4_ok comp87 b2_99220⟩,⟨87, [.int .i64 99611, .ptr 0 0, .ptr 1 0, .ptr 2 0], [mid9, [.int .i64 200], [.nils]], .bool false, [mid9, [.int .i64 200], [.nils]], evFn_ok X4_ok comp87 b2_99611⟩,⟨87, [.int .i64 99806, .ptr 0 0, .ptr 1 0, .ptr 2 0], [mid9, [.int .i64 200], [.nils]], .bool false, [mid9, [.int .i64 200], [.nils]], evFn_ok X4_ok comp87 b2_99806⟩,⟨87, [.int .i64 99904, .ptr 0 0, .ptr 1 0, .ptr 2 0], [mid9, [.int .i64 200], [.nils]], .bool false, [mid9, [.int .i64 200], [.nils]], evFn_ok X4_ok comp87 b2_99904⟩,⟨87, [.int .i64 99953, .ptr 0 0, .ptr 1 0, .ptr 2 0], [mid9, [.int .i64 200], [.nils]], .bool false, [mid9, [.int .i64 200], [.nils]], evFn_ok X4_ok comp87 b2_99953⟩,⟨87, [.int .i64 99977, .ptr 0 0, .ptr 1 0, .ptr 2 0], [mid9, [.int .i64 200], [.nils]], .bool false, [mid9, [.int .i64 200], [.nils]], evFn_ok X4_ok comp87 b2_99977⟩,⟨87, [.int .i64 99989, .ptr 0 0, .ptr 1 0, .ptr 2 0], [mid9, [.int .i64 200], [.nils]], .bool false, [mid9, [.int .i64 200], [.nils]], evFn_ok X4_ok comp87 b2_99989⟩,⟨87, [.int .i64 99995, .ptr 0 0, .ptr 1 0, .ptr 2 0], [mid9, [.int .i64 200], [.nils]], .bool false, [mid9, [.int .i64 200], [.nils]], evFn_ok X4_ok comp87 b2_99995⟩,⟨87, [.int .i64 99998, .ptr 0 0, .ptr 1 0, .ptr 2 0], [mid9, [.int .i64 200], [.nils]], .bool false, [mid9, [.int .i64 200], [.nils]], evFn_ok X4_ok comp87 b2_99998⟩,⟨87, [.int .i64 100000, .ptr 0 0, .ptr 1 0, .ptr 2 0], [mid9, [.int .i64 200], [.nils]], .bool false, [mid9, [.int .i64 200], [.nils]], evFn_ok X4_ok comp87 b2_100000⟩]
def tabB (f : FuncId) : Option AFn := bif Nat.beq f 85 || Nat.beq f 87 then none else tab f
theorem tabB_ok : ∀ f F, tabB f = some F → compFn Try.prog f = some F := by
  intro f F h
  unfold tabB at h
  cases hc : (Nat.beq f 85 || Nat.beq f 87) with
  | true => rw [hc] at h; cases h
  | false => rw [hc] at h; exact tab_ok f F h
noncomputable def X5 : Clr := clrN tabB inl (clrOf (knO (known1 ++ known2))) 300 14
theorem X5_ok : ClrOk Try.prog X5 := clrN_ok (clr_ok (knO_ok _)) tabB_ok 300 14
def spanA (a b : Int) : AV := .agg [.int .i64 a, .int .i64 b]
theorem ballast_run : evFn X5 300 F32 [.agg mid9, .nils, .int .i64 200] [] = some (.tup [spanA 17 100000, .int .i64 0], []) := by kernel_rfl
theorem axles_run : evFn X5 300 F16 [.agg (swanC 500)] [] = some (.tup [spanA 2650 2784, spanA 3000 3067, .int .i64 0], []) := by kernel_rfl
end Go.Proofs.Ytfcjcjncfniclaa
end
section
namespace Go.Proofs.Ytfcjcjncfniclaa
open Go.RowKit
set_option linter.unusedVariables false
set_option maxRecDepth 100000

def hur (k a b : Int) : AV := .agg [.int .i64 k, .int .i64 a, .int .i64 b]
theorem passes_run : evFn X5 300 F28 [.agg (swanC 500), .sl [hur 1 700 1400, hur 2 519 0, hur 3 5649 3067] none] [] = some (.tup [.sl [.int .i64 1, .int .i64 3, .int .i64 2] none, .int .i64 0], []) := by kernel_rfl
def known3 : List (Known Try.prog) := [⟨16, _, _, _, _, evFn_ok X5_ok comp16 axles_run⟩, ⟨28, _, _, _, _, evFn_ok X5_ok comp28 passes_run⟩, ⟨32, _, _, _, _, evFn_ok X5_ok comp32 ballast_run⟩]
def tabC (f : FuncId) : Option AFn := bif Nat.beq f 16 || (Nat.beq f 28 || Nat.beq f 32) then none else tab f
theorem tabC_ok : ∀ f F, tabC f = some F → compFn Try.prog f = some F := by
  intro f F h
  unfold tabC at h
  cases hc : (Nat.beq f 16 || (Nat.beq f 28 || Nat.beq f 32)) with
  | true => rw [hc] at h; cases h
  | false => rw [hc] at h; exact tab_ok f F h
noncomputable def X6 : Clr := clrN tabC inl (clrOf (knO known3)) 300 14
theorem X6_ok : ClrOk Try.prog X6 := clrN_ok (clr_ok (knO_ok _)) tabC_ok 300 14
theorem awake_run : evFn X6 300 F9 [] [] = some (.bool true, []) := by kernel_rfl
theorem awake_m : Meets Try.prog 9 [] [] fun v c' => v = .bool true ∧ c' = [] :=
  ⟨_, _, evFn_ok X6_ok comp9 awake_run, rfl, rfl⟩
end Go.Proofs.Ytfcjcjncfniclaa
end
section
namespace Go.Proofs.Ytfcjcjncfniclaa
open Go.RowKit
set_option linter.unusedVariables false
set_option linter.unusedSimpArgs false
set_option maxRecDepth 10000
set_option maxHeartbeats 4000000
def p_baterialaw02_awake (N : Nat) : Option Bool := some true
def v_baterialaw02_awake (r : Bool) : AV := .bool r
theorem a_baterialaw02_awake : ([] : List AV).mapM (ren []) = some [] := rfl
theorem b_baterialaw02_awake (r : Bool) (n n2 m : Nat) : back n n2 m (v_baterialaw02_awake r) = some (v_baterialaw02_awake r) := rfl
theorem d_baterialaw02_awake (N : Nat) (r : Bool) (h : p_baterialaw02_awake N = some r) : Does Try.prog 9 [] [] fun v c => v = v_baterialaw02_awake r ∧ c = [] := by
  cases h
  exact awake_m.does
def p_baterialaw02_FloatFires (N : Nat) (x_1 : T_api_Float) (apart_2 : Int) (nums_3 : (List Int)) : Option (Bool) := (bif (decide (((x_1.Loads.length : Nat) : Int) > 30)) then ((p_baterialaw02_awake N).bind fun r_5 => some r_5) else ((p_bateriakit_DrumOf N nums_3).bind fun r_6 => ((p_bateriakit_FloatOf N r_6 8).bind fun r_7 => ((p_bateriakit_Drum_Roll N r_7.2 400).bind fun r_8 => (letJ (fun (_ : Unit) => ((p_baterialaw02_awake N).bind fun r_42 => some r_42)) (fun k_10 => (loop1 (fun rec_14 (i_13 : Int) => (bif (decide (i_13 < 3)) then ((getI ([x_1, r_7.1, r_7.1] : List T_api_Float) i_13).bind fun x_18 => ((p_bateriakit_OwnFloat N x_18).bind fun r_19 => ((getI ([apart_2, r_8.1, apart_2] : List Int) i_13).bind fun x_20 => ((p_float_Fire N r_19 x_20).bind fun r_21 => ((getI ([x_1, r_7.1, r_7.1] : List T_api_Float) i_13).bind fun x_23 => ((getI ([apart_2, r_8.1, apart_2] : List Int) i_13).bind fun x_24 => ((p_bateriaref02_Fire N x_23 x_24).bind fun r_25 => (letJ (fun (y_27 : Bool) => (bif y_27 then some false else (rec_14 (IntKind.i64.wrap (i_13 + 1))))) (fun k_28 => (bif (r_21.2.1 != r_25.2.1) then (k_28 true) else (bif (r_21.2.2 != r_25.2.2) then (k_28 true) else ((p_bateriakit_EqNears N r_21.1 r_25.1).bind fun r_33 => (bif (!r_33) then (k_28 true) else ((getI ([x_1, r_7.1, r_7.1] : List T_api_Float) i_13).bind fun x_38 => ((p_bateriakit_EqFloats N r_19 x_38).bind fun r_40 => (k_28 (!r_40))))))))))))))))) else (k_10 ()))) N 0)))))))
def v_baterialaw02_FloatFires (r : Bool) : AV := .bool r
theorem d_baterialaw02_FloatFires (N : Nat) (x_1 : T_api_Float) (apart_2 : Int) (nums_3 : (List Int)) (r : Bool) (h : p_baterialaw02_FloatFires N x_1 apart_2 nums_3 = some r) : Does Try.prog 5 [(A_api_Float x_1), .int .i64 apart_2, .sl (nums_3.map (AV.int .i64)) none] [] fun v c => v = v_baterialaw02_FloatFires r ∧ c = [] := by
  unfold p_baterialaw02_FloatFires at h
  refine Does.ofL comp5 _ _ rfl rfl ?_
  refine Ex.seq ?_
  refine regH 2 [] [1, 2, 3] [] (mkS 95 [(1, .int .i64 apart_2), (2, .sl (nums_3.map (AV.int .i64)) none), (3, .ptr 0 0)]) (⟨[(C_api_Float x_1)], []⟩) (by kernel_rfl) trivial rfl ?_
  refine Ex.seq ?_
  refine Ex.seq ?_
  refine regH 4 [(2, .eq (.int .i64 ((x_1.Loads.length : Nat) : Int)))] [1, 2, 3, 22] [AV.int .i64 (((x_1.Loads.map A_api_Load).length : Nat) : Int) = AV.int .i64 ((x_1.Loads.length : Nat) : Int)] (mkS 95 [(1, .int .i64 apart_2), (2, .sl (nums_3.map (AV.int .i64)) none), (3, .ptr 0 0), (22, .bool (decide (((x_1.Loads.length : Nat) : Int) > 30)))]) (⟨[(C_api_Float x_1)], []⟩) (by kernel_rfl) ⟨lenM _ _, trivial⟩ rfl ?_
  rcases condI h with ⟨hc_4, h⟩ | ⟨hc_4, h⟩
  · refine Ex.condT _ rfl hc_4 ?_
    refine Ex.seq ?_
    obtain ⟨r_5, hr_5, h⟩ := Option.bind_eq_some_iff.1 h
    refine Ex.reg ?_
    refine ExO.callL [] [] rfl rfl (a_baterialaw02_awake) rfl rfl (d_baterialaw02_awake N r_5 hr_5) (b_baterialaw02_awake _ _ _ _) rfl ?_
    refine runH 1 [] [6] [] (mkS 95 [(6, .bool r_5)]) (⟨[(C_api_Float x_1)], []⟩) (by kernel_rfl) trivial ?_
    refine ExO.nil ?_
    refine Ex.ret ?_
    obtain rfl := Option.some.inj h
    exact ⟨.inr rfl, .bool r_5, by kernel_rfl, by kernel_rfl, by kernel_rfl, by kernel_rfl⟩
  · refine Ex.condF _ rfl hc_4 ?_
    refine Ex.skip ?_
    refine Ex.seq ?_
    obtain ⟨r_6, hr_6, h⟩ := Option.bind_eq_some_iff.1 h
    refine Ex.reg ?_
    refine runH 1 [] [1, 3, 24] [] (mkS 95 [(1, .int .i64 apart_2), (3, .ptr 0 0), (24, .sl (nums_3.map (AV.int .i64)) none)]) (⟨[(C_api_Float x_1)], []⟩) (by kernel_rfl) trivial ?_
    refine ExO.callL (v' := .ptr 1 0) [] [.sl (nums_3.map (AV.int .i64)) none] rfl rfl (a_bateriakit_DrumOf nums_3) rfl rfl (d_bateriakit_DrumOf N nums_3 r_6 hr_6) rfl (by simp [cleanL, AV.clean, cleanL, cleanI, cleanBo, cleanSt, cleanII, KL_bateriakit_Drum, KL_api_Span, KL_api_Load, KL_api_Float, KL_api_Near, A_bateriakit_Drum, C_bateriakit_Drum, A_api_Span, C_api_Span, A_api_Load, C_api_Load, A_api_Float, C_api_Float, A_api_Near, C_api_Near]) ?_
    refine runH 1 [] [1, 3, 7] [] (mkS 95 [(1, .int .i64 apart_2), (3, .ptr 0 0), (7, .ptr 1 0)]) (⟨[(C_api_Float x_1), (C_bateriakit_Drum r_6)], []⟩) (by kernel_rfl) trivial ?_
    refine ExO.nil ?_
    refine Ex.seq ?_
    obtain ⟨r_7, hr_7, h⟩ := Option.bind_eq_some_iff.1 h
    refine Ex.reg ?_
    refine runH 1 [] [1, 3, 7, 26] [] (mkS 95 [(1, .int .i64 apart_2), (3, .ptr 0 0), (7, .ptr 1 0), (26, .ptr 1 0)]) (⟨[(C_api_Float x_1), (C_bateriakit_Drum r_6)], []⟩) (by kernel_rfl) trivial ?_
    refine ExO.callL [1] [.ptr 1 0, .int .i64 8] rfl rfl (by simp [ren, ren1, fadeS, fadeV, AV.plain, AV.plain1, AV.clean, List.idxOf?, List.findIdx?, List.findIdx?.go, cleanL, cleanI, cleanBo, cleanSt, cleanII, KL_bateriakit_Drum, KL_api_Span, KL_api_Load, KL_api_Float, KL_api_Near, A_bateriakit_Drum, C_bateriakit_Drum, A_api_Span, C_api_Span, A_api_Load, C_api_Load, A_api_Float, C_api_Float, A_api_Near, C_api_Near]; try rfl) rfl (by simp [cleanL, AV.clean, cleanL, cleanI, cleanBo, cleanSt, cleanII, KL_bateriakit_Drum, KL_api_Span, KL_api_Load, KL_api_Float, KL_api_Near, A_bateriakit_Drum, C_bateriakit_Drum, A_api_Span, C_api_Span, A_api_Load, C_api_Load, A_api_Float, C_api_Float, A_api_Near, C_api_Near]) (d_bateriakit_FloatOf N r_6 8 r_7 hr_7) (b_bateriakit_FloatOf _ _ _ _) (by simp [cleanL, AV.clean, cleanL, cleanI, cleanBo, cleanSt, cleanII, KL_bateriakit_Drum, KL_api_Span, KL_api_Load, KL_api_Float, KL_api_Near, A_bateriakit_Drum, C_bateriakit_Drum, A_api_Span, C_api_Span, A_api_Load, C_api_Load, A_api_Float, C_api_Float, A_api_Near, C_api_Near]) ?_
    refine runH 2 [] [1, 3, 7, 8] [] (mkS 95 [(1, .int .i64 apart_2), (3, .ptr 0 0), (7, .ptr 1 0), (8, .ptr 2 0)]) (⟨[(C_api_Float x_1), (C_bateriakit_Drum r_7.2), (C_api_Float r_7.1)], []⟩) (by kernel_rfl) trivial ?_
    refine ExO.nil ?_
    refine Ex.seq ?_
    refine Ex.postF ?_
    obtain ⟨r_8, hr_8, h⟩ := Option.bind_eq_some_iff.1 h
    have hT_9 : DoesA Try.prog [⟨38, [.ptr 0 0, .int .i64 400], [(C_bateriakit_Drum r_7.2)], (v_bateriakit_Drum_Roll r_8), [(C_bateriakit_Drum r_8.2)]⟩] ∧ ConsA [⟨38, [.ptr 0 0, .int .i64 400], [(C_bateriakit_Drum r_7.2)], (v_bateriakit_Drum_Roll r_8), [(C_bateriakit_Drum r_8.2)]⟩] := ⟨⟨(d_bateriakit_Drum_Roll N r_7.2 400 r_8 hr_8), rfl, trivial⟩, ⟨trivial, trivial⟩⟩
    refine Ex.drawE (a1 := mkS 95 [(1, .int .i64 apart_2), (3, .ptr 0 0), (7, .ptr 1 0), (8, .ptr 2 0), (9, .sl (([x_1, r_7.1, r_7.1] : List T_api_Float).map A_api_Float) (some 0)), (28, (A_api_Float x_1)), (29, (A_api_Float r_7.1)), (30, (A_api_Float r_7.1)), (31, .sl (([x_1, r_7.1, r_7.1] : List T_api_Float).map A_api_Float) (some 0)), (32, .int .i64 apart_2), (33, .ptr 1 0), (34, .int .i64 r_8.1), (35, .int .i64 apart_2), (36, .sl (([apart_2, r_8.1, apart_2] : List Int).map (AV.int .i64)) (some 1))]) (tabO_ok hT_9.1) [] [(3, 9), (3, 1)] [⟨[(C_api_Float x_1), (C_bateriakit_Drum r_8.2), (C_api_Float r_7.1)], [(3, 9), (3, 1)]⟩] ?_ ?_
    · refine drS [0, 2] 3 [] [] (mkS 95 [(1, .int .i64 apart_2), (3, .ptr 0 0), (7, .ptr 1 0), (8, .ptr 2 0), (28, (A_api_Float x_1)), (29, (A_api_Float r_7.1)), (30, (A_api_Float r_7.1))]) (by simp) (by kernel_rfl) trivial (by kernel_rfl) ?_
      refine drR 0 9 (([x_1, r_7.1, r_7.1] : List T_api_Float).map A_api_Float) rfl rfl (fun _ => by kernel_rfl) (by simp) rfl rfl ?_
      refine drS [0, 2] 2 [] [] (mkS 95 [(1, .int .i64 apart_2), (3, .ptr 0 0), (7, .ptr 1 0), (8, .ptr 2 0), (28, (A_api_Float x_1)), (29, (A_api_Float r_7.1)), (30, (A_api_Float r_7.1)), (31, .sl (([x_1, r_7.1, r_7.1] : List T_api_Float).map A_api_Float) (some 0)), (32, .int .i64 apart_2), (33, .ptr 1 0)]) (by simp) (by kernel_rfl) trivial (by kernel_rfl) ?_
      refine drB hT_9.2 0 _ [1] [.ptr 1 0, .int .i64 400] (v_bateriakit_Drum_Roll r_8) _ _ rfl rfl rfl rfl rfl rfl rfl rfl (by simp [ren, ren1, AV.plain, AV.plain1, AV.clean, List.idxOf?, List.findIdx?, List.findIdx?.go, cleanL, cleanI, cleanBo, cleanSt, cleanII, KL_bateriakit_Drum, KL_api_Span, KL_api_Load, KL_api_Float, KL_api_Near, A_bateriakit_Drum, C_bateriakit_Drum, A_api_Span, C_api_Span, A_api_Load, C_api_Load, A_api_Float, C_api_Float, A_api_Near, C_api_Near]; try rfl) rfl (by simp [cleanL, AV.clean, cleanL, cleanI, cleanBo, cleanSt, cleanII, KL_bateriakit_Drum, KL_api_Span, KL_api_Load, KL_api_Float, KL_api_Near, A_bateriakit_Drum, C_bateriakit_Drum, A_api_Span, C_api_Span, A_api_Load, C_api_Load, A_api_Float, C_api_Float, A_api_Near, C_api_Near]) (b_bateriakit_Drum_Roll _ _ _ _) (by simp [cleanL, AV.clean, cleanL, cleanI, cleanBo, cleanSt, cleanII, KL_bateriakit_Drum, KL_api_Span, KL_api_Load, KL_api_Float, KL_api_Near, A_bateriakit_Drum, C_bateriakit_Drum, A_api_Span, C_api_Span, A_api_Load, C_api_Load, A_api_Float, C_api_Float, A_api_Near, C_api_Near]) rfl ?_
      refine drS [0, 2] 1 [] [] (mkS 95 [(1, .int .i64 apart_2), (3, .ptr 0 0), (7, .ptr 1 0), (8, .ptr 2 0), (28, (A_api_Float x_1)), (29, (A_api_Float r_7.1)), (30, (A_api_Float r_7.1)), (31, .sl (([x_1, r_7.1, r_7.1] : List T_api_Float).map A_api_Float) (some 0)), (32, .int .i64 apart_2), (33, .ptr 1 0), (34, .int .i64 r_8.1), (35, .int .i64 apart_2)]) (by simp) (by kernel_rfl) trivial (by kernel_rfl) ?_
      refine drR 1 1 (([apart_2, r_8.1, apart_2] : List Int).map (AV.int .i64)) rfl rfl (fun _ => by kernel_rfl) (by simp) rfl rfl ?_
      refine drS [0, 2] 1 [] [] (mkS 95 [(1, .int .i64 apart_2), (3, .ptr 0 0), (7, .ptr 1 0), (8, .ptr 2 0), (9, .sl (([x_1, r_7.1, r_7.1] : List T_api_Float).map A_api_Float) (some 0)), (28, (A_api_Float x_1)), (29, (A_api_Float r_7.1)), (30, (A_api_Float r_7.1)), (31, .sl (([x_1, r_7.1, r_7.1] : List T_api_Float).map A_api_Float) (some 0)), (32, .int .i64 apart_2), (33, .ptr 1 0), (34, .int .i64 r_8.1), (35, .int .i64 apart_2), (36, .sl (([apart_2, r_8.1, apart_2] : List Int).map (AV.int .i64)) (some 1))]) (by simp) (by kernel_rfl) trivial (by kernel_rfl) ?_
      exact DrO.nil rfl
    · dsimp only [List.getLastD_cons, List.getLastD_nil]
      refine runH 1 [] [9, 10] [] (mkS 95 [(9, .sl (([x_1, r_7.1, r_7.1] : List T_api_Float).map A_api_Float) (some 0)), (10, .sl (([apart_2, r_8.1, apart_2] : List Int).map (AV.int .i64)) (some 1))]) (⟨[(C_api_Float x_1), (C_bateriakit_Drum r_8.2), (C_api_Float r_7.1)], [(3, 9), (3, 1)]⟩) (by kernel_rfl) trivial ?_
      refine ExO.nil ?_
      refine ⟨mkS 95 [(9, .sl (([x_1, r_7.1, r_7.1] : List T_api_Float).map A_api_Float) (some 0)), (10, .sl (([apart_2, r_8.1, apart_2] : List Int).map (AV.int .i64)) (some 1))], ⟨[(C_api_Float x_1), (C_bateriakit_Drum r_8.2), (C_api_Float r_7.1)], [(3, 9), (3, 1)]⟩, Forgets.refl _ _ _, ?_⟩
      refine Ex.seq ?_
      refine Ex.seq ?_
      refine regH 1 [] [9, 10, 11] [] (mkS 95 [(9, .sl (([x_1, r_7.1, r_7.1] : List T_api_Float).map A_api_Float) (some 0)), (10, .sl (([apart_2, r_8.1, apart_2] : List Int).map (AV.int .i64)) (some 1)), (11, .int .i64 0)]) (⟨[(C_api_Float x_1), (C_bateriakit_Drum r_8.2), (C_api_Float r_7.1)], [(3, 9), (3, 1)]⟩) (by kernel_rfl) trivial rfl ?_
      obtain ⟨K_11, hK_12, h⟩ := letE h
      refine Ex.blockJ (fun a S => K_11 () = some r ∧ a = mkS 95 [] ∧ S = ⟨[], []⟩) ?_ ?_
      · obtain ⟨B_15, hB_16, h⟩ := loop1I h
        refine Ex.loopF (fun k a S => ∃ (i_13 : Int), loop1 B_15 k i_13 = some r ∧ a = mkS 95 [(9, .sl (([x_1, r_7.1, r_7.1] : List T_api_Float).map A_api_Float) (some 0)), (10, .sl (([apart_2, r_8.1, apart_2] : List Int).map (AV.int .i64)) (some 1)), (11, .int .i64 i_13)] ∧ S = ⟨[], [(3, 9), (3, 1)]⟩) N ⟨_, _, forgetA (m := 95) 0 [0, 1] [(9, .sl (([x_1, r_7.1, r_7.1] : List T_api_Float).map A_api_Float) (some 0)), (10, .sl (([apart_2, r_8.1, apart_2] : List Int).map (AV.int .i64)) (some 1)), (11, .int .i64 0)] [] [(3, 9), (3, 1)] (by simp) (by simp) ⟨(reT (KL_api_Float _) rfl), (reT (cleanI _ _) rfl), rfl, trivial⟩ (by simp [re, re1, AV.clean, List.idxOf?, List.findIdx?, List.findIdx?.go, cleanL, cleanI, cleanBo, cleanSt, cleanII, KL_bateriakit_Drum, KL_api_Span, KL_api_Load, KL_api_Float, KL_api_Near, KB_bateriakit_Drum, KB_api_Span, KB_api_Load, KB_api_Float, KB_api_Near]) rfl (by decide), 0, h, rfl, rfl⟩ ?_
        rintro k a S ⟨i_13, h, rfl, rfl⟩
        cases k with
        | zero => exact (loop1Z h).elim
        | succ k =>
          replace h := loop1S h hB_16
          refine Ex.seq ?_
          refine Ex.seq ?_
          refine regH 4 [] [9, 10, 11, 40] [] (mkS 95 [(9, .sl (([x_1, r_7.1, r_7.1] : List T_api_Float).map A_api_Float) (some 0)), (10, .sl (([apart_2, r_8.1, apart_2] : List Int).map (AV.int .i64)) (some 1)), (11, .int .i64 i_13), (40, .bool (decide (i_13 < 3)))]) (⟨[], [(3, 9), (3, 1)]⟩) (by kernel_rfl) trivial rfl ?_
          rcases condI h with ⟨hc_17, h⟩ | ⟨hc_17, h⟩
          · refine Ex.condT _ rfl hc_17 ?_
            refine Ex.skip ?_
            refine Ex.seq ?_
            refine Ex.blockK ?_
            refine Ex.seq ?_
            obtain ⟨x_18, hx_18, h⟩ := Option.bind_eq_some_iff.1 h
            obtain ⟨r_19, hr_19, h⟩ := Option.bind_eq_some_iff.1 h
            refine Ex.reg ?_
            refine runH 4 [(2, .rop (C_api_Float x_18))] [9, 10, 11, 46] [LGet (([x_1, r_7.1, r_7.1] : List T_api_Float).map A_api_Float) i_13 9 (C_api_Float x_18)] (mkS 95 [(9, .sl (([x_1, r_7.1, r_7.1] : List T_api_Float).map A_api_Float) (some 0)), (10, .sl (([apart_2, r_8.1, apart_2] : List Int).map (AV.int .i64)) (some 1)), (11, .int .i64 i_13), (46, (A_api_Float x_18))]) (⟨[], [(3, 9), (3, 1)]⟩) (by kernel_rfl) ⟨LGet.of hx_18 rfl, trivial⟩ ?_
            refine ExO.callL [] [(A_api_Float x_18)] rfl rfl (a_bateriakit_OwnFloat x_18) rfl rfl (d_bateriakit_OwnFloat N x_18 r_19 hr_19) (b_bateriakit_OwnFloat _ _ _ _) rfl ?_
            refine runH 2 [] [9, 10, 11, 12] [] (mkS 95 [(9, .sl (([x_1, r_7.1, r_7.1] : List T_api_Float).map A_api_Float) (some 0)), (10, .sl (([apart_2, r_8.1, apart_2] : List Int).map (AV.int .i64)) (some 1)), (11, .int .i64 i_13), (12, .ptr 0 0)]) (⟨[(C_api_Float r_19)], [(3, 9), (3, 1)]⟩) (by kernel_rfl) trivial ?_
            refine ExO.nil ?_
            refine Ex.seq ?_
            obtain ⟨x_20, hx_20, h⟩ := Option.bind_eq_some_iff.1 h
            obtain ⟨r_21, hr_21, h⟩ := Option.bind_eq_some_iff.1 h
            have hT_22 : DoesA Try.prog [⟨39, [(A_api_Float r_19), .int .i64 x_20], [], (v_float_Fire r_21), []⟩] ∧ ConsA [⟨39, [(A_api_Float r_19), .int .i64 x_20], [], (v_float_Fire r_21), []⟩] := ⟨⟨(d_float_Fire N r_19 x_20 r_21 hr_21), rfl, trivial⟩, ⟨trivial, trivial⟩⟩
            refine Ex.drawE (a1 := mkS 95 [(9, .sl (([x_1, r_7.1, r_7.1] : List T_api_Float).map A_api_Float) (some 0)), (10, .sl (([apart_2, r_8.1, apart_2] : List Int).map (AV.int .i64)) (some 1)), (11, .int .i64 i_13), (12, .ptr 0 0), (13, .sl (r_21.1.map A_api_Near) none), (14, .int .i64 r_21.2.1), (48, .tup [.sl (r_21.1.map A_api_Near) none, .int .i64 r_21.2.1, .int .i64 r_21.2.2]), (49, (A_api_Float r_19)), (50, .sl (([apart_2, r_8.1, apart_2] : List Int).map (AV.int .i64)) (some 1)), (51, .int .i64 i_13), (52, .rop [.int .i64 x_20]), (53, .int .i64 x_20), (54, .tup [.sl (r_21.1.map A_api_Near) none, .int .i64 r_21.2.1, .int .i64 r_21.2.2]), (55, .sl (r_21.1.map A_api_Near) none), (56, .int .i64 r_21.2.1), (57, .int .i64 r_21.2.2)]) (tabO_ok hT_22.1) [] [] [] ?_ ?_
            · refine drS [0] 5 [(3, .rop [.int .i64 x_20])] [LGet (([apart_2, r_8.1, apart_2] : List Int).map (AV.int .i64)) i_13 1 [.int .i64 x_20]] (mkS 95 [(9, .sl (([x_1, r_7.1, r_7.1] : List T_api_Float).map A_api_Float) (some 0)), (10, .sl (([apart_2, r_8.1, apart_2] : List Int).map (AV.int .i64)) (some 1)), (11, .int .i64 i_13), (12, .ptr 0 0), (49, (A_api_Float r_19)), (50, .sl (([apart_2, r_8.1, apart_2] : List Int).map (AV.int .i64)) (some 1)), (51, .int .i64 i_13), (52, .rop [.int .i64 x_20]), (53, .int .i64 x_20)]) (by simp) (by kernel_rfl) ⟨LGet.of hx_20 rfl, trivial⟩ (by kernel_rfl) ?_
              refine drC hT_22.2 0 _ [(A_api_Float r_19), .int .i64 x_20] (v_float_Fire r_21) rfl rfl rfl rfl rfl (fun _ => rfl) rfl (by simp [ren, ren1, AV.plain, AV.plain1, AV.clean, List.idxOf?, List.findIdx?, List.findIdx?.go, cleanL, cleanI, cleanBo, cleanSt, cleanII, KL_bateriakit_Drum, KL_api_Span, KL_api_Load, KL_api_Float, KL_api_Near, A_bateriakit_Drum, C_bateriakit_Drum, A_api_Span, C_api_Span, A_api_Load, C_api_Load, A_api_Float, C_api_Float, A_api_Near, C_api_Near]; try rfl) (fun _ => b_float_Fire _ _ _ _) ?_
              refine drS [0] 6 [] [] (mkS 95 [(9, .sl (([x_1, r_7.1, r_7.1] : List T_api_Float).map A_api_Float) (some 0)), (10, .sl (([apart_2, r_8.1, apart_2] : List Int).map (AV.int .i64)) (some 1)), (11, .int .i64 i_13), (12, .ptr 0 0), (13, .sl (r_21.1.map A_api_Near) none), (14, .int .i64 r_21.2.1), (48, .tup [.sl (r_21.1.map A_api_Near) none, .int .i64 r_21.2.1, .int .i64 r_21.2.2]), (49, (A_api_Float r_19)), (50, .sl (([apart_2, r_8.1, apart_2] : List Int).map (AV.int .i64)) (some 1)), (51, .int .i64 i_13), (52, .rop [.int .i64 x_20]), (53, .int .i64 x_20), (54, .tup [.sl (r_21.1.map A_api_Near) none, .int .i64 r_21.2.1, .int .i64 r_21.2.2]), (55, .sl (r_21.1.map A_api_Near) none), (56, .int .i64 r_21.2.1), (57, .int .i64 r_21.2.2)]) (by simp) (by kernel_rfl) trivial (by kernel_rfl) ?_
              exact DrO.nil rfl
            · dsimp only [List.getLastD_cons, List.getLastD_nil]
              refine runH 1 [] [9, 10, 11, 12, 13, 14, 15] [] (mkS 95 [(9, .sl (([x_1, r_7.1, r_7.1] : List T_api_Float).map A_api_Float) (some 0)), (10, .sl (([apart_2, r_8.1, apart_2] : List Int).map (AV.int .i64)) (some 1)), (11, .int .i64 i_13), (12, .ptr 0 0), (13, .sl (r_21.1.map A_api_Near) none), (14, .int .i64 r_21.2.1), (15, .int .i64 r_21.2.2)]) (⟨[(C_api_Float r_19)], [(3, 9), (3, 1)]⟩) (by kernel_rfl) trivial ?_
              refine ExO.nil ?_
              refine Ex.seq ?_
              obtain ⟨x_23, hx_23, h⟩ := Option.bind_eq_some_iff.1 h
              obtain ⟨x_24, hx_24, h⟩ := Option.bind_eq_some_iff.1 h
              obtain ⟨r_25, hr_25, h⟩ := Option.bind_eq_some_iff.1 h
              have hT_26 : DoesA Try.prog [⟨40, [(A_api_Float x_23), .int .i64 x_24], [], (v_bateriaref02_Fire r_25), []⟩] ∧ ConsA [⟨40, [(A_api_Float x_23), .int .i64 x_24], [], (v_bateriaref02_Fire r_25), []⟩] := ⟨⟨(d_bateriaref02_Fire N x_23 x_24 r_25 hr_25), rfl, trivial⟩, ⟨trivial, trivial⟩⟩
              refine Ex.drawE (a1 := mkS 95 [(9, .sl (([x_1, r_7.1, r_7.1] : List T_api_Float).map A_api_Float) (some 0)), (10, .sl (([apart_2, r_8.1, apart_2] : List Int).map (AV.int .i64)) (some 1)), (11, .int .i64 i_13), (12, .ptr 0 0), (13, .sl (r_21.1.map A_api_Near) none), (14, .int .i64 r_21.2.1), (15, .int .i64 r_21.2.2), (16, .sl (r_25.1.map A_api_Near) none), (17, .int .i64 r_25.2.1), (58, .tup [.sl (r_25.1.map A_api_Near) none, .int .i64 r_25.2.1, .int .i64 r_25.2.2]), (59, .sl (([x_1, r_7.1, r_7.1] : List T_api_Float).map A_api_Float) (some 0)), (60, .int .i64 i_13), (61, .rop (C_api_Float x_23)), (62, (A_api_Float x_23)), (63, .sl (([apart_2, r_8.1, apart_2] : List Int).map (AV.int .i64)) (some 1)), (64, .int .i64 i_13), (65, .rop [.int .i64 x_24]), (66, .int .i64 x_24), (67, .tup [.sl (r_25.1.map A_api_Near) none, .int .i64 r_25.2.1, .int .i64 r_25.2.2]), (68, .sl (r_25.1.map A_api_Near) none), (69, .int .i64 r_25.2.1), (70, .int .i64 r_25.2.2)]) (tabO_ok hT_26.1) [] [] [] ?_ ?_
              · refine drS [0] 8 [(2, .rop (C_api_Float x_23)), (6, .rop [.int .i64 x_24])] [LGet (([x_1, r_7.1, r_7.1] : List T_api_Float).map A_api_Float) i_13 9 (C_api_Float x_23), LGet (([apart_2, r_8.1, apart_2] : List Int).map (AV.int .i64)) i_13 1 [.int .i64 x_24]] (mkS 95 [(9, .sl (([x_1, r_7.1, r_7.1] : List T_api_Float).map A_api_Float) (some 0)), (10, .sl (([apart_2, r_8.1, apart_2] : List Int).map (AV.int .i64)) (some 1)), (11, .int .i64 i_13), (12, .ptr 0 0), (13, .sl (r_21.1.map A_api_Near) none), (14, .int .i64 r_21.2.1), (15, .int .i64 r_21.2.2), (59, .sl (([x_1, r_7.1, r_7.1] : List T_api_Float).map A_api_Float) (some 0)), (60, .int .i64 i_13), (61, .rop (C_api_Float x_23)), (62, (A_api_Float x_23)), (63, .sl (([apart_2, r_8.1, apart_2] : List Int).map (AV.int .i64)) (some 1)), (64, .int .i64 i_13), (65, .rop [.int .i64 x_24]), (66, .int .i64 x_24)]) (by simp) (by kernel_rfl) ⟨LGet.of hx_23 rfl, LGet.of hx_24 rfl, trivial⟩ (by kernel_rfl) ?_
                refine drC hT_26.2 0 _ [(A_api_Float x_23), .int .i64 x_24] (v_bateriaref02_Fire r_25) rfl rfl rfl rfl rfl (fun _ => rfl) rfl (by simp [ren, ren1, AV.plain, AV.plain1, AV.clean, List.idxOf?, List.findIdx?, List.findIdx?.go, cleanL, cleanI, cleanBo, cleanSt, cleanII, KL_bateriakit_Drum, KL_api_Span, KL_api_Load, KL_api_Float, KL_api_Near, A_bateriakit_Drum, C_bateriakit_Drum, A_api_Span, C_api_Span, A_api_Load, C_api_Load, A_api_Float, C_api_Float, A_api_Near, C_api_Near]; try rfl) (fun _ => b_bateriaref02_Fire _ _ _ _) ?_
                refine drS [0] 6 [] [] (mkS 95 [(9, .sl (([x_1, r_7.1, r_7.1] : List T_api_Float).map A_api_Float) (some 0)), (10, .sl (([apart_2, r_8.1, apart_2] : List Int).map (AV.int .i64)) (some 1)), (11, .int .i64 i_13), (12, .ptr 0 0), (13, .sl (r_21.1.map A_api_Near) none), (14, .int .i64 r_21.2.1), (15, .int .i64 r_21.2.2), (16, .sl (r_25.1.map A_api_Near) none), (17, .int .i64 r_25.2.1), (58, .tup [.sl (r_25.1.map A_api_Near) none, .int .i64 r_25.2.1, .int .i64 r_25.2.2]), (59, .sl (([x_1, r_7.1, r_7.1] : List T_api_Float).map A_api_Float) (some 0)), (60, .int .i64 i_13), (61, .rop (C_api_Float x_23)), (62, (A_api_Float x_23)), (63, .sl (([apart_2, r_8.1, apart_2] : List Int).map (AV.int .i64)) (some 1)), (64, .int .i64 i_13), (65, .rop [.int .i64 x_24]), (66, .int .i64 x_24), (67, .tup [.sl (r_25.1.map A_api_Near) none, .int .i64 r_25.2.1, .int .i64 r_25.2.2]), (68, .sl (r_25.1.map A_api_Near) none), (69, .int .i64 r_25.2.1), (70, .int .i64 r_25.2.2)]) (by simp) (by kernel_rfl) trivial (by kernel_rfl) ?_
                exact DrO.nil rfl
              · dsimp only [List.getLastD_cons, List.getLastD_nil]
                refine runH 1 [] [9, 10, 11, 12, 13, 14, 15, 16, 17, 18] [] (mkS 95 [(9, .sl (([x_1, r_7.1, r_7.1] : List T_api_Float).map A_api_Float) (some 0)), (10, .sl (([apart_2, r_8.1, apart_2] : List Int).map (AV.int .i64)) (some 1)), (11, .int .i64 i_13), (12, .ptr 0 0), (13, .sl (r_21.1.map A_api_Near) none), (14, .int .i64 r_21.2.1), (15, .int .i64 r_21.2.2), (16, .sl (r_25.1.map A_api_Near) none), (17, .int .i64 r_25.2.1), (18, .int .i64 r_25.2.2)]) (⟨[(C_api_Float r_19)], [(3, 9), (3, 1)]⟩) (by kernel_rfl) trivial ?_
                refine ExO.nil ?_
                obtain ⟨K_29, hK_30, h⟩ := letE h
                refine Ex.seqJ (fun a S => ∃ (y_27 : Bool), K_29 y_27 = some r ∧ a = mkS 95 [(9, .sl (([x_1, r_7.1, r_7.1] : List T_api_Float).map A_api_Float) (some 0)), (10, .sl (([apart_2, r_8.1, apart_2] : List Int).map (AV.int .i64)) (some 1)), (11, .int .i64 i_13), (93, .bool y_27)] ∧ S = ⟨[], [(3, 9), (3, 1)]⟩) ?_ ?_
                · rcases condI h with ⟨hc_31, h⟩ | ⟨hc_31, h⟩
                  · refine dregX (noClr_ok _) [(3, .eq (.bool true))] [] [9, 10, 11, 93] [AV.bool (r_21.2.1 != r_25.2.1) = AV.bool true] [] (mkS 95 [(9, .sl (([x_1, r_7.1, r_7.1] : List T_api_Float).map A_api_Float) (some 0)), (10, .sl (([apart_2, r_8.1, apart_2] : List Int).map (AV.int .i64)) (some 1)), (11, .int .i64 i_13), (12, .ptr 0 0), (13, .sl (r_21.1.map A_api_Near) none), (14, .int .i64 r_21.2.1), (15, .int .i64 r_21.2.2), (16, .sl (r_25.1.map A_api_Near) none), (17, .int .i64 r_25.2.1), (18, .int .i64 r_25.2.2), (71, .int .i64 r_21.2.1), (72, .int .i64 r_25.2.1), (73, .bool (r_21.2.1 != r_25.2.1)), (74, .bool true), (75, .tup []), (76, .tup []), (77, .tup []), (78, .bool true), (79, .bool true), (80, .tup []), (81, .tup []), (82, .tup []), (83, .tup []), (84, .bool true), (85, .bool true), (86, .tup []), (87, .tup []), (88, .tup []), (89, .tup []), (90, .tup [])]) (mkS 95 [(9, .sl (([x_1, r_7.1, r_7.1] : List T_api_Float).map A_api_Float) (some 0)), (10, .sl (([apart_2, r_8.1, apart_2] : List Int).map (AV.int .i64)) (some 1)), (11, .int .i64 i_13), (93, .bool true)]) (by kernel_rfl) (by kernel_rfl) ⟨congrArg AV.bool hc_31, trivial⟩ (by kernel_rfl) trivial ?_
                    (try simp only [reduceCtorEq, AEx.ex.injEq, Nat.reduceEqDiff, if_true, if_false])
                    exact ⟨_, _, forgetA (m := 95) 0 [0, 1] [(9, .sl (([x_1, r_7.1, r_7.1] : List T_api_Float).map A_api_Float) (some 0)), (10, .sl (([apart_2, r_8.1, apart_2] : List Int).map (AV.int .i64)) (some 1)), (11, .int .i64 i_13), (93, .bool true)] [] [(3, 9), (3, 1)] (by simp) (by simp) ⟨(reT (KL_api_Float _) rfl), (reT (cleanI _ _) rfl), rfl, rfl, trivial⟩ (by simp [re, re1, AV.clean, List.idxOf?, List.findIdx?, List.findIdx?.go, cleanL, cleanI, cleanBo, cleanSt, cleanII, KL_bateriakit_Drum, KL_api_Span, KL_api_Load, KL_api_Float, KL_api_Near, KB_bateriakit_Drum, KB_api_Span, KB_api_Load, KB_api_Float, KB_api_Near]) rfl (by decide), true, h, rfl, rfl⟩
                  · rcases condI h with ⟨hc_32, h⟩ | ⟨hc_32, h⟩
                    · refine dregX (noClr_ok _) [(3, .eq (.bool false)), (8, .eq (.bool true))] [] [9, 10, 11, 93] [AV.bool (r_21.2.1 != r_25.2.1) = AV.bool false, AV.bool (r_21.2.2 != r_25.2.2) = AV.bool true] [] (mkS 95 [(9, .sl (([x_1, r_7.1, r_7.1] : List T_api_Float).map A_api_Float) (some 0)), (10, .sl (([apart_2, r_8.1, apart_2] : List Int).map (AV.int .i64)) (some 1)), (11, .int .i64 i_13), (12, .ptr 0 0), (13, .sl (r_21.1.map A_api_Near) none), (14, .int .i64 r_21.2.1), (15, .int .i64 r_21.2.2), (16, .sl (r_25.1.map A_api_Near) none), (17, .int .i64 r_25.2.1), (18, .int .i64 r_25.2.2), (71, .int .i64 r_21.2.1), (72, .int .i64 r_25.2.1), (73, .bool (r_21.2.1 != r_25.2.1)), (74, .bool false), (75, .int .i64 r_21.2.2), (76, .int .i64 r_25.2.2), (77, .bool (r_21.2.2 != r_25.2.2)), (78, .bool (r_21.2.2 != r_25.2.2)), (79, .bool true), (80, .tup []), (81, .tup []), (82, .tup []), (83, .tup []), (84, .bool true), (85, .bool true), (86, .tup []), (87, .tup []), (88, .tup []), (89, .tup []), (90, .tup [])]) (mkS 95 [(9, .sl (([x_1, r_7.1, r_7.1] : List T_api_Float).map A_api_Float) (some 0)), (10, .sl (([apart_2, r_8.1, apart_2] : List Int).map (AV.int .i64)) (some 1)), (11, .int .i64 i_13), (93, .bool true)]) (by kernel_rfl) (by kernel_rfl) ⟨congrArg AV.bool hc_31, congrArg AV.bool hc_32, trivial⟩ (by kernel_rfl) trivial ?_
                      (try simp only [reduceCtorEq, AEx.ex.injEq, Nat.reduceEqDiff, if_true, if_false])
                      exact ⟨_, _, forgetA (m := 95) 0 [0, 1] [(9, .sl (([x_1, r_7.1, r_7.1] : List T_api_Float).map A_api_Float) (some 0)), (10, .sl (([apart_2, r_8.1, apart_2] : List Int).map (AV.int .i64)) (some 1)), (11, .int .i64 i_13), (93, .bool true)] [] [(3, 9), (3, 1)] (by simp) (by simp) ⟨(reT (KL_api_Float _) rfl), (reT (cleanI _ _) rfl), rfl, rfl, trivial⟩ (by simp [re, re1, AV.clean, List.idxOf?, List.findIdx?, List.findIdx?.go, cleanL, cleanI, cleanBo, cleanSt, cleanII, KL_bateriakit_Drum, KL_api_Span, KL_api_Load, KL_api_Float, KL_api_Near, KB_bateriakit_Drum, KB_api_Span, KB_api_Load, KB_api_Float, KB_api_Near]) rfl (by decide), true, h, rfl, rfl⟩
                    · obtain ⟨r_33, hr_33, h⟩ := Option.bind_eq_some_iff.1 h
                      rcases condI h with ⟨hc_34, h⟩ | ⟨hc_34, h⟩
                      · have hT_36 : DoesA Try.prog [⟨41, [.sl (r_21.1.map A_api_Near) none, .sl (r_25.1.map A_api_Near) none], [], (v_bateriakit_EqNears r_33), []⟩] ∧ ConsA [⟨41, [.sl (r_21.1.map A_api_Near) none, .sl (r_25.1.map A_api_Near) none], [], (v_bateriakit_EqNears r_33), []⟩] := ⟨⟨(d_bateriakit_EqNears N r_21.1 r_25.1 r_33 hr_33), rfl, trivial⟩, ⟨trivial, trivial⟩⟩
                        obtain ⟨X_35, hX_35, hcl_37⟩ : ∃ X : Clr, ClrOk Try.prog X ∧ X 41 [.sl (r_21.1.map A_api_Near) none, .sl (r_25.1.map A_api_Near) none] ⟨[(C_api_Float r_19)], [(3, 9), (3, 1)]⟩ = some (v_bateriakit_EqNears r_33, none) := ⟨_, tabO_ok hT_36.1, tabO_pure hT_36.2 0 _ [.sl (r_21.1.map A_api_Near) none, .sl (r_25.1.map A_api_Near) none] _ rfl rfl rfl rfl (by simp [ren, ren1, AV.plain, AV.plain1, AV.clean, List.idxOf?, List.findIdx?, List.findIdx?.go, cleanL, cleanI, cleanBo, cleanSt, cleanII, KL_bateriakit_Drum, KL_api_Span, KL_api_Load, KL_api_Float, KL_api_Near, A_bateriakit_Drum, C_bateriakit_Drum, A_api_Span, C_api_Span, A_api_Load, C_api_Load, A_api_Float, C_api_Float, A_api_Near, C_api_Near]; try rfl) (fun _ => b_bateriakit_EqNears _ _ _ _)⟩
                        refine dregX hX_35 [(3, .eq (.bool false)), (8, .eq (.bool false)), (11, .cl (v_bateriakit_EqNears r_33)), (14, .eq (.bool true))] [] [9, 10, 11, 93] [AV.bool (r_21.2.1 != r_25.2.1) = AV.bool false, AV.bool (r_21.2.2 != r_25.2.2) = AV.bool false, X_35 41 [.sl (r_21.1.map A_api_Near) none, .sl (r_25.1.map A_api_Near) none] ⟨[(C_api_Float r_19)], [(3, 9), (3, 1)]⟩ = some (v_bateriakit_EqNears r_33, none), AV.bool (!r_33) = AV.bool true] [] (mkS 95 [(9, .sl (([x_1, r_7.1, r_7.1] : List T_api_Float).map A_api_Float) (some 0)), (10, .sl (([apart_2, r_8.1, apart_2] : List Int).map (AV.int .i64)) (some 1)), (11, .int .i64 i_13), (12, .ptr 0 0), (13, .sl (r_21.1.map A_api_Near) none), (14, .int .i64 r_21.2.1), (15, .int .i64 r_21.2.2), (16, .sl (r_25.1.map A_api_Near) none), (17, .int .i64 r_25.2.1), (18, .int .i64 r_25.2.2), (71, .int .i64 r_21.2.1), (72, .int .i64 r_25.2.1), (73, .bool (r_21.2.1 != r_25.2.1)), (74, .bool false), (75, .int .i64 r_21.2.2), (76, .int .i64 r_25.2.2), (77, .bool (r_21.2.2 != r_25.2.2)), (78, .bool (r_21.2.2 != r_25.2.2)), (79, .bool false), (80, .sl (r_21.1.map A_api_Near) none), (81, .sl (r_25.1.map A_api_Near) none), (82, .bool r_33), (83, .bool (!r_33)), (84, .bool (!r_33)), (85, .bool true), (86, .tup []), (87, .tup []), (88, .tup []), (89, .tup []), (90, .tup [])]) (mkS 95 [(9, .sl (([x_1, r_7.1, r_7.1] : List T_api_Float).map A_api_Float) (some 0)), (10, .sl (([apart_2, r_8.1, apart_2] : List Int).map (AV.int .i64)) (some 1)), (11, .int .i64 i_13), (93, .bool true)]) (by kernel_rfl) (by kernel_rfl) ⟨congrArg AV.bool hc_31, congrArg AV.bool hc_32, hcl_37, congrArg AV.bool hc_34, trivial⟩ (by kernel_rfl) trivial ?_
                        (try simp only [reduceCtorEq, AEx.ex.injEq, Nat.reduceEqDiff, if_true, if_false])
                        exact ⟨_, _, forgetA (m := 95) 0 [0, 1] [(9, .sl (([x_1, r_7.1, r_7.1] : List T_api_Float).map A_api_Float) (some 0)), (10, .sl (([apart_2, r_8.1, apart_2] : List Int).map (AV.int .i64)) (some 1)), (11, .int .i64 i_13), (93, .bool true)] [] [(3, 9), (3, 1)] (by simp) (by simp) ⟨(reT (KL_api_Float _) rfl), (reT (cleanI _ _) rfl), rfl, rfl, trivial⟩ (by simp [re, re1, AV.clean, List.idxOf?, List.findIdx?, List.findIdx?.go, cleanL, cleanI, cleanBo, cleanSt, cleanII, KL_bateriakit_Drum, KL_api_Span, KL_api_Load, KL_api_Float, KL_api_Near, KB_bateriakit_Drum, KB_api_Span, KB_api_Load, KB_api_Float, KB_api_Near]) rfl (by decide), true, h, rfl, rfl⟩
                      · obtain ⟨x_38, hx_38, h⟩ := Option.bind_eq_some_iff.1 h
                        have hT_39 : DoesA Try.prog [⟨41, [.sl (r_21.1.map A_api_Near) none, .sl (r_25.1.map A_api_Near) none], [], (v_bateriakit_EqNears r_33), []⟩] ∧ ConsA [⟨41, [.sl (r_21.1.map A_api_Near) none, .sl (r_25.1.map A_api_Near) none], [], (v_bateriakit_EqNears r_33), []⟩] := ⟨⟨(d_bateriakit_EqNears N r_21.1 r_25.1 r_33 hr_33), rfl, trivial⟩, ⟨trivial, trivial⟩⟩
                        refine Ex.drawE (a1 := mkS 95 [(9, .sl (([x_1, r_7.1, r_7.1] : List T_api_Float).map A_api_Float) (some 0)), (10, .sl (([apart_2, r_8.1, apart_2] : List Int).map (AV.int .i64)) (some 1)), (11, .int .i64 i_13), (12, .ptr 0 0), (13, .sl (r_21.1.map A_api_Near) none), (14, .int .i64 r_21.2.1), (15, .int .i64 r_21.2.2), (16, .sl (r_25.1.map A_api_Near) none), (17, .int .i64 r_25.2.1), (18, .int .i64 r_25.2.2), (71, .int .i64 r_21.2.1), (72, .int .i64 r_25.2.1), (73, .bool (r_21.2.1 != r_25.2.1)), (74, .bool false), (75, .int .i64 r_21.2.2), (76, .int .i64 r_25.2.2), (77, .bool (r_21.2.2 != r_25.2.2)), (78, .bool (r_21.2.2 != r_25.2.2)), (79, .bool false), (80, .sl (r_21.1.map A_api_Near) none), (81, .sl (r_25.1.map A_api_Near) none), (82, .bool r_33), (83, .bool (!r_33)), (84, .bool (!r_33)), (85, .bool false), (86, (A_api_Float r_19)), (87, .sl (([x_1, r_7.1, r_7.1] : List T_api_Float).map A_api_Float) (some 0)), (88, .int .i64 i_13), (89, .rop (C_api_Float x_38)), (90, (A_api_Float x_38))]) (tabO_ok hT_39.1) [] [] [] ?_ ?_
                        · refine drS [0] 11 [(3, .eq (.bool false)), (8, .eq (.bool false))] [AV.bool (r_21.2.1 != r_25.2.1) = AV.bool false, AV.bool (r_21.2.2 != r_25.2.2) = AV.bool false] (mkS 95 [(9, .sl (([x_1, r_7.1, r_7.1] : List T_api_Float).map A_api_Float) (some 0)), (10, .sl (([apart_2, r_8.1, apart_2] : List Int).map (AV.int .i64)) (some 1)), (11, .int .i64 i_13), (12, .ptr 0 0), (13, .sl (r_21.1.map A_api_Near) none), (14, .int .i64 r_21.2.1), (15, .int .i64 r_21.2.2), (16, .sl (r_25.1.map A_api_Near) none), (17, .int .i64 r_25.2.1), (18, .int .i64 r_25.2.2), (71, .int .i64 r_21.2.1), (72, .int .i64 r_25.2.1), (73, .bool (r_21.2.1 != r_25.2.1)), (74, .bool false), (75, .int .i64 r_21.2.2), (76, .int .i64 r_25.2.2), (77, .bool (r_21.2.2 != r_25.2.2)), (78, .bool (r_21.2.2 != r_25.2.2)), (79, .bool false), (80, .sl (r_21.1.map A_api_Near) none), (81, .sl (r_25.1.map A_api_Near) none)]) (by simp) (by kernel_rfl) ⟨congrArg AV.bool hc_31, congrArg AV.bool hc_32, trivial⟩ (by kernel_rfl) ?_
                          refine drC hT_39.2 0 _ [.sl (r_21.1.map A_api_Near) none, .sl (r_25.1.map A_api_Near) none] (v_bateriakit_EqNears r_33) rfl rfl rfl rfl rfl (fun _ => rfl) rfl (by simp [ren, ren1, AV.plain, AV.plain1, AV.clean, List.idxOf?, List.findIdx?, List.findIdx?.go, cleanL, cleanI, cleanBo, cleanSt, cleanII, KL_bateriakit_Drum, KL_api_Span, KL_api_Load, KL_api_Float, KL_api_Near, A_bateriakit_Drum, C_bateriakit_Drum, A_api_Span, C_api_Span, A_api_Load, C_api_Load, A_api_Float, C_api_Float, A_api_Near, C_api_Near]; try rfl) (fun _ => b_bateriakit_EqNears _ _ _ _) ?_
                          refine drS [0] 8 [(2, .eq (.bool false)), (6, .rop (C_api_Float x_38))] [AV.bool (!r_33) = AV.bool false, LGet (([x_1, r_7.1, r_7.1] : List T_api_Float).map A_api_Float) i_13 9 (C_api_Float x_38)] (mkS 95 [(9, .sl (([x_1, r_7.1, r_7.1] : List T_api_Float).map A_api_Float) (some 0)), (10, .sl (([apart_2, r_8.1, apart_2] : List Int).map (AV.int .i64)) (some 1)), (11, .int .i64 i_13), (12, .ptr 0 0), (13, .sl (r_21.1.map A_api_Near) none), (14, .int .i64 r_21.2.1), (15, .int .i64 r_21.2.2), (16, .sl (r_25.1.map A_api_Near) none), (17, .int .i64 r_25.2.1), (18, .int .i64 r_25.2.2), (71, .int .i64 r_21.2.1), (72, .int .i64 r_25.2.1), (73, .bool (r_21.2.1 != r_25.2.1)), (74, .bool false), (75, .int .i64 r_21.2.2), (76, .int .i64 r_25.2.2), (77, .bool (r_21.2.2 != r_25.2.2)), (78, .bool (r_21.2.2 != r_25.2.2)), (79, .bool false), (80, .sl (r_21.1.map A_api_Near) none), (81, .sl (r_25.1.map A_api_Near) none), (82, .bool r_33), (83, .bool (!r_33)), (84, .bool (!r_33)), (85, .bool false), (86, (A_api_Float r_19)), (87, .sl (([x_1, r_7.1, r_7.1] : List T_api_Float).map A_api_Float) (some 0)), (88, .int .i64 i_13), (89, .rop (C_api_Float x_38)), (90, (A_api_Float x_38))]) (by simp) (by kernel_rfl) ⟨congrArg AV.bool hc_34, LGet.of hx_38 rfl, trivial⟩ (by kernel_rfl) ?_
                          exact DrO.nil rfl
                        · dsimp only [List.getLastD_cons, List.getLastD_nil]
                          obtain ⟨r_40, hr_40, h⟩ := Option.bind_eq_some_iff.1 h
                          refine ExO.callL [] [(A_api_Float r_19), (A_api_Float x_38)] rfl rfl (a_bateriakit_EqFloats r_19 x_38) rfl rfl (d_bateriakit_EqFloats N r_19 x_38 r_40 hr_40) (b_bateriakit_EqFloats _ _ _ _) rfl ?_
                          refine runH 2 [] [9, 10, 11, 93] [] (mkS 95 [(9, .sl (([x_1, r_7.1, r_7.1] : List T_api_Float).map A_api_Float) (some 0)), (10, .sl (([apart_2, r_8.1, apart_2] : List Int).map (AV.int .i64)) (some 1)), (11, .int .i64 i_13), (93, .bool (!r_40))]) (⟨[(C_api_Float r_19)], [(3, 9), (3, 1)]⟩) (by kernel_rfl) trivial ?_
                          refine ExO.nil ?_
                          (try simp only [reduceCtorEq, AEx.ex.injEq, Nat.reduceEqDiff, if_true, if_false])
                          exact ⟨_, _, forgetA (m := 95) 0 [0, 1] [(9, .sl (([x_1, r_7.1, r_7.1] : List T_api_Float).map A_api_Float) (some 0)), (10, .sl (([apart_2, r_8.1, apart_2] : List Int).map (AV.int .i64)) (some 1)), (11, .int .i64 i_13), (93, .bool (!r_40))] [] [(3, 9), (3, 1)] (by simp) (by simp) ⟨(reT (KL_api_Float _) rfl), (reT (cleanI _ _) rfl), rfl, rfl, trivial⟩ (by simp [re, re1, AV.clean, List.idxOf?, List.findIdx?, List.findIdx?.go, cleanL, cleanI, cleanBo, cleanSt, cleanII, KL_bateriakit_Drum, KL_api_Span, KL_api_Load, KL_api_Float, KL_api_Near, KB_bateriakit_Drum, KB_api_Span, KB_api_Load, KB_api_Float, KB_api_Near]) rfl (by decide), (!r_40), h, rfl, rfl⟩
                · rintro a S ⟨y_27, h, rfl, rfl⟩
                  subst hK_30
                  rcases condI h with ⟨hc_41, h⟩ | ⟨hc_41, h⟩
                  · refine Ex.condT _ rfl hc_41 ?_
                    refine Ex.seq ?_
                    refine regH 1 [] [6] [] (mkS 95 [(6, .bool false)]) (⟨[], [(3, 9), (3, 1)]⟩) (by kernel_rfl) trivial rfl ?_
                    refine Ex.ret ?_
                    obtain rfl := Option.some.inj h
                    exact ⟨.inr rfl, .bool false, by kernel_rfl, by kernel_rfl, by kernel_rfl, by kernel_rfl⟩
                  · refine Ex.condF _ rfl hc_41 ?_
                    refine Ex.skip ?_
                    refine regH 3 [] [9, 10, 11] [] (mkS 95 [(9, .sl (([x_1, r_7.1, r_7.1] : List T_api_Float).map A_api_Float) (some 0)), (10, .sl (([apart_2, r_8.1, apart_2] : List Int).map (AV.int .i64)) (some 1)), (11, .int .i64 (IntKind.i64.wrap (i_13 + 1)))]) (⟨[], [(3, 9), (3, 1)]⟩) (by kernel_rfl) trivial rfl ?_
                    dsimp only
                    exact ⟨_, _, Forgets.refl _ _ _, k, Nat.lt_succ_self k, (IntKind.i64.wrap (i_13 + 1)), h, rfl, rfl⟩
          · refine Ex.condF _ rfl hc_17 ?_
            refine Ex.exit ?_
            (try simp only [reduceCtorEq, AEx.ex.injEq, Nat.reduceEqDiff, if_true, if_false])
            exact ⟨_, _, forgetA (m := 95) 0 [] [] [] [] (by simp) (by simp) trivial (by simp [re, re1, AV.clean, List.idxOf?, List.findIdx?, List.findIdx?.go, cleanL, cleanI, cleanBo, cleanSt, cleanII, KL_bateriakit_Drum, KL_api_Span, KL_api_Load, KL_api_Float, KL_api_Near, KB_bateriakit_Drum, KB_api_Span, KB_api_Load, KB_api_Float, KB_api_Near]) rfl (by decide), h, rfl, rfl⟩
      · rintro a S ⟨h, rfl, rfl⟩
        subst hK_12
        refine Ex.seq ?_
        obtain ⟨r_42, hr_42, h⟩ := Option.bind_eq_some_iff.1 h
        refine Ex.reg ?_
        refine ExO.callL [] [] rfl rfl (a_baterialaw02_awake) rfl rfl (d_baterialaw02_awake N r_42 hr_42) (b_baterialaw02_awake _ _ _ _) rfl ?_
        refine runH 1 [] [6] [] (mkS 95 [(6, .bool r_42)]) (⟨[], []⟩) (by kernel_rfl) trivial ?_
        refine ExO.nil ?_
        refine Ex.ret ?_
        obtain rfl := Option.some.inj h
        exact ⟨.inr rfl, .bool r_42, by kernel_rfl, by kernel_rfl, by kernel_rfl, by kernel_rfl⟩
end Go.Proofs.Ytfcjcjncfniclaa
end
section
namespace Go.Proofs.Ytfcjcjncfniclaa
open Go.RowKit
set_option linter.unusedVariables false
set_option linter.unusedSimpArgs false
set_option maxRecDepth 10000
set_option maxHeartbeats 4000000

theorem fires_p (N : Nat) (x : T_api_Float) (ap : Int) (zs : List Int) (hN : zs.length + 200000 ≤ N) (hz : zs.length < 9223372036854775808) : p_baterialaw02_FloatFires N x ap zs = some true := by
  unfold p_baterialaw02_FloatFires
  by_cases hx : ((x.Loads.length : Nat) : Int) > 30
  · rw [show decide (((x.Loads.length : Nat) : Int) > 30) = true from decide_eq_true hx]
    rfl
  rw [show decide (((x.Loads.length : Nat) : Int) > 30) = false from decide_eq_false hx, cond_false]
  obtain ⟨d2, e⟩ := drumOf_p N zs (by omega) (by omega)
  rw [e, Option.bind_some]; clear e
  obtain ⟨f, d3, e, hf⟩ := floatOf_p N d2 8 (by omega) (by omega) (by omega)
  rw [e, Option.bind_some]; clear e
  dsimp only
  obtain ⟨r, d4, e, _⟩ := roll_p N d3 400 (by omega)
  rw [e, Option.bind_some]; clear e
  dsimp only
  have hn := hf.n
  have key : ∀ y : T_api_Float, y.Loads.length ≤ 30 → ∀ n : Int, ∃ q, p_bateriakit_OwnFloat N y = some y ∧ p_float_Fire N y n = some q ∧ p_bateriaref02_Fire N y n = some q ∧ p_bateriakit_EqNears N q.1 q.1 = some true ∧ p_bateriakit_EqFloats N y y = some true := by
    intro y hy n
    obtain ⟨c, e1, e2⟩ := check_d N y (by omega)
    refine ⟨_, ownFloat_t N y (by omega), fire_s N y n c e1 hy (by omega), fire_r N y n c e2 hy (by omega), ?_, eqFloats_t N y (by omega) (by omega)⟩
    have hl : (fireR c y n).1.length ≤ 900 := by
      have h1 := nr_len n y.Loads y.Loads.length
      have h2 : y.Loads.length * y.Loads.length ≤ 30 * 30 := Nat.mul_le_mul hy hy
      unfold fireR
      cases (c != 0)
      · cases (!(decide (0 ≤ n) && decide (n ≤ 3000)))
        · exact Nat.le_trans h1 h2
        · exact Nat.zero_le _
      · exact Nat.zero_le _
    exact eqNears_t N _ (by omega) (by omega)
  refine st1 3 _ (some true) ?_ ?_ N 0 (by omega) (by omega)
  · intro rec
    rfl
  · intro rec i hi
    obtain ⟨y, n, hy, g1, g2⟩ : ∃ y n, y.Loads.length ≤ 30 ∧ getI ([x, f, f] : List T_api_Float) (i : Int) = some y ∧ getI ([ap, r, ap] : List Int) (i : Int) = some n := by
      match i, hi with
      | 0, _ => exact ⟨x, ap, by omega, rfl, rfl⟩
      | 1, _ => exact ⟨f, r, by omega, rfl, rfl⟩
      | 2, _ => exact ⟨f, ap, by omega, rfl, rfl⟩
    obtain ⟨q, q1, q2, q3, q4, q5⟩ := key y hy n
    rw [show decide ((i : Int) < 3) = true from decide_eq_true (by omega), cond_true]
    simp only [g1, g2, Option.bind_some, q1, q2, q3, q4, q5, letJ_eq, bne_self_eq_false, cond_false, Bool.not_true, nadd1 i (by omega)]
theorem fires_m (x : T_api_Float) (ap : Int) (zs : List Int) (h : zs.length < 9223372036854775808) : Does Try.prog 5 [A_api_Float x, .int .i64 ap, .sl (zs.map (AV.int .i64)) none] [] fun v _ => v = .bool true :=
  (d_baterialaw02_FloatFires _ x ap zs true (fires_p _ x ap zs (Nat.le_refl _) h)).mono fun v c h => h.1
end Go.Proofs.Ytfcjcjncfniclaa
end
section
namespace Go.Proofs.Ytfcjcjncfniclaa
open Go.RowKit Go.ChangeShapes Go.WideShapes Go.Deep
set_option linter.unusedVariables false
set_option linter.unusedSimpArgs false

section
variable {H : Type} {enc : TypeId × Value → H} {W : World} {base : Nat} {spare : Nat → Bool} {held : Bool}

theorem ex_of_len {α : Type} {xs : List α} {n i : Nat} (h : xs.length = n) (hi : i < n) : ∃ x, xs[i]? = some x := ⟨xs[i]'(by omega), List.getElem?_eq_getElem (by omega)⟩
theorem int_at {n : Nat} {off : Nat} {cs : List Value} {x : Option (DataW H × List MemPlace)} (hx : x ≠ none) (h : DataW.trod enc Try.prog W base spare held n 3 ((cs.drop off).take (Try.prog.cellsOf 3)) = x) : ∃ z : Int, (cs.drop off).take 1 = [.int .i64 z] := by
  have k : Try.prog.cellsOf 3 = 1 := by kernel_rfl
  rw [k] at h
  cases x with
  | none => exact absurd rfl hx
  | some y =>
    obtain ⟨lo, hl, _⟩ := DataW.trod_int Try.underlying3 h
    exact ⟨lo, hl⟩

set_option maxRecDepth 100000 in
theorem span_at {n : Nat} {a b : Value} {x : DataW H × List MemPlace} (h : DataW.trod enc Try.prog W base spare held n 26 [a, b] = some x) : ∃ lo hi : Int, a = .int .i64 lo ∧ b = .int .i64 hi := by
  obtain ⟨xs, m, _, _, _, hlen, hf⟩ := DataW.trod_struct Try.underlying26 h
  obtain ⟨x0, e0⟩ := ex_of_len hlen (i := 0) (by decide)
  obtain ⟨x1, e1⟩ := ex_of_len hlen (i := 1) (by decide)
  obtain ⟨lo, hl⟩ := int_at (cs := [a, b]) (off := 0) (by rw [e0]; simp) (hf 0 _ rfl)
  obtain ⟨hi, hh⟩ := int_at (cs := [a, b]) (off := 1) (by rw [e1]; simp) (hf 1 _ rfl)
  simp at hl hh
  exact ⟨lo, hi, hl, hh⟩

def lints (l : T_api_Load) : List Int := [l.At, l.Kilos.Lo, l.Kilos.Hi, l.Top.Lo, l.Top.Hi, l.Kind, l.Watts]

set_option maxRecDepth 100000 in
theorem load_at {n : Nat} {cs : List Value} {x : DataW H × List MemPlace} (h : DataW.trod enc Try.prog W base spare held n 28 cs = some x) : ∃ l : T_api_Load, cs = (lints l).map (Value.int .i64) := by
  obtain ⟨xs, m, _, _, hcl, hlen, hf⟩ := DataW.trod_struct Try.underlying28 h
  have kp : Try.prog.cellsOf 26 = 2 := by kernel_rfl
  have kw : Try.prog.cellsOf 28 = 7 := by kernel_rfl
  rw [kw] at hcl
  match cs, hcl with
  | [c0, c1, c2, c3, c4, c5, c6], _ =>
    obtain ⟨x0, e0⟩ := ex_of_len hlen (i := 0) (by decide)
    obtain ⟨x1, e1⟩ := ex_of_len hlen (i := 1) (by decide)
    obtain ⟨x2, e2⟩ := ex_of_len hlen (i := 2) (by decide)
    obtain ⟨x3, e3⟩ := ex_of_len hlen (i := 3) (by decide)
    obtain ⟨x4, e4⟩ := ex_of_len hlen (i := 4) (by decide)
    obtain ⟨z0, h0⟩ := int_at (cs := [c0, c1, c2, c3, c4, c5, c6]) (off := 0) (by rw [e0]; simp) (hf 0 _ rfl)
    have h1 : DataW.trod enc Try.prog W base spare held m 26 ((([c0, c1, c2, c3, c4, c5, c6] : List Value).drop 1).take (Try.prog.cellsOf 26)) = xs[1]? := by have := hf 1 _ rfl; exact this
    have h2 : DataW.trod enc Try.prog W base spare held m 26 ((([c0, c1, c2, c3, c4, c5, c6] : List Value).drop 3).take (Try.prog.cellsOf 26)) = xs[2]? := by have := hf 2 _ rfl; exact this
    obtain ⟨z3, h3⟩ := int_at (cs := [c0, c1, c2, c3, c4, c5, c6]) (off := 5) (by rw [e3]; simp) (hf 3 _ rfl)
    obtain ⟨z4, h4⟩ := int_at (cs := [c0, c1, c2, c3, c4, c5, c6]) (off := 6) (by rw [e4]; simp) (hf 4 _ rfl)
    rw [e1, kp] at h1
    rw [e2, kp] at h2
    obtain ⟨a1, b1, g1, g2⟩ := span_at h1
    obtain ⟨a2, b2, g3, g4⟩ := span_at h2
    simp at h0 h3 h4
    subst h0 h3 h4 g1 g2 g3 g4
    exact ⟨⟨z0, ⟨a1, b1⟩, ⟨a2, b2⟩, z3, z4⟩, rfl⟩

theorem loads_cells (l : T_api_Load) : (A_api_Load l).cells = (lints l).map (AV.int .i64) := rfl

set_option maxRecDepth 100000 in
theorem loads_vr {a : Option Addr} {len cap : Nat} {x : DataW H × List MemPlace} {fuel : Nat} (hsp : ∀ b, spare b = true) (h : DataW.trod enc Try.prog W base spare held fuel 22 [.slice a len cap] = some x) :
    ∃ ls : List T_api_Load, ls.length ≤ maxLen ∧ VR (Gh.all W) (.sl (ls.map A_api_Load) none) (.slice a len cap) := by
  have kw : Try.prog.cellsOf 28 = 7 := by kernel_rfl
  rcases open_slice Try.underlying22 h with ⟨hcs, _⟩ | ⟨ad, l, c, m, n, D, Pl, hcs, hb, hl, hm, hmm, hx, hi⟩
  · simp at hcs
    obtain ⟨rfl, rfl, rfl⟩ := hcs
    exact ⟨[], by simp, .sl0 _ _⟩
  · simp at hcs
    obtain ⟨rfl, rfl, rfl⟩ := hcs
    have hw : ∀ i, ∃ g : T_api_Load, i < len → ∀ j z, (lints g)[j]? = some z → W.cell? (ad.add (i * 7 + j)) = some (.int .i64 z) := by
      intro i
      by_cases hil : i < len
      · obtain ⟨cs, hcells, ht⟩ := hi i (by rw [hmm]; split <;> omega)
        obtain ⟨g, rfl⟩ := load_at ht
        rw [kw] at hcells
        obtain ⟨_, hcl, hat⟩ := World.cells?_some hcells
        refine ⟨g, fun _ j z hz => ?_⟩
        have hj : j < 7 := (List.getElem?_eq_some_iff.1 hz).1
        rw [← Go.Deep.add_add, hat j hj, List.getElem?_map, hz]
        rfl
      · exact ⟨default, fun h => absurd h hil⟩
    obtain ⟨f, hf⟩ := Classical.axiomOfChoice hw
    refine ⟨(List.range len).map f, by simp; omega, ?_⟩
    by_cases h0 : len = 0
    · subst h0
      exact .sl0 _ _
    · have hx : ∃ b o, ad = ⟨b, o, none⟩ := by
        have h1 := hf 0 (by omega) 0 _ rfl
        obtain ⟨b, o, sp⟩ := ad
        cases sp with
        | none => exact ⟨b, o, rfl⟩
        | some s =>
          exfalso
          unfold World.cell? at h1
          simp only [Addr.add] at h1
          split at h1 <;> simp_all
      obtain ⟨b, o, rfl⟩ := hx
      have hcl : ∀ i, i < len → ∀ j z, (lints (f i))[j]? = some z → W.cell? ⟨b, o + (i * 7 + j), none⟩ = some (.int .i64 z) := fun i hi j z hz => by
        have h1 := hf i hi j z hz
        have ej : ((⟨b, o, none⟩ : Addr).add (i * 7 + j)) = ⟨b, o + (i * 7 + j), none⟩ := by unfold Addr.add; split <;> simp_all
        rw [ej] at h1
        exact h1
      have hel : ∀ (i : Nat) y, (((List.range len).map f).map A_api_Load)[i]? = some y → i < len ∧ y = A_api_Load (f i) := fun i y hy => by
        rw [List.map_map, List.getElem?_map, Option.map_eq_some_iff] at hy
        obtain ⟨z, hz1, rfl⟩ := hy
        have hi : i < (List.range len).length := (List.getElem?_eq_some_iff.1 hz1).1
        rw [List.length_range] at hi
        rw [List.getElem?_range hi] at hz1
        cases hz1
        exact ⟨hi, rfl⟩
      have hcz : ∀ (i j : Nat) x, (A_api_Load (f i)).cells[j]? = some x → j < 7 ∧ ∃ z, (lints (f i))[j]? = some z ∧ x = .int .i64 z := fun i j x hx => by
        rw [loads_cells, List.getElem?_map, Option.map_eq_some_iff] at hx
        obtain ⟨z, hz, rfl⟩ := hx
        exact ⟨(List.getElem?_eq_some_iff.1 hz).1, z, hz, rfl⟩
      have hus : ∀ (i j : Nat) z, j < 7 → (lints (f i))[j]? = some z → (lints (f ((i * 7 + j) / 7))).getD ((i * 7 + j) % 7) 0 = z := fun i j z hj hz => by
        rw [show (i * 7 + j) / 7 = i by omega, show (i * 7 + j) % 7 = j by omega, List.getD_eq_getElem?_getD, hz]
        rfl
      have hlm : (((List.range len).map f).map A_api_Load).length = len := by simp
      have key := VR.sl (G := Gh.all W) (((List.range len).map f).map A_api_Load) 7 b o cap (fun k => .int .i64 ((lints (f (k / 7))).getD (k % 7) 0)) (by rw [hlm]; exact hl) (fun i y hy => by rw [(hel i y hy).2]; rfl)
        (fun i y j x hy hx => by
          obtain ⟨hi, rfl⟩ := hel i y hy
          obtain ⟨hj, z, hz, rfl⟩ := hcz i j x hx
          show W.cell? _ = _
          rw [hcl i hi j z hz, hus i j z hj hz])
        (fun i y j x hy hx => by
          obtain ⟨hi, rfl⟩ := hel i y hy
          obtain ⟨hj, z, hz, rfl⟩ := hcz i j x hx
          rw [hus i j z hj hz]
          exact .int _ _)
      rw [hlm] at key
      exact key

set_option maxRecDepth 100000 in
theorem float_vr {r0 : Reach} {b0 : Nat} {v : Value} {d : DataW H} {p : List MemPlace} (hv : Value.okWide Try.prog W r0 b0 24 v) (h : DataW.Trod enc Try.prog W base (fun _ => true) held 24 v d p) :
    ∃ x : T_api_Float, x.Loads.length ≤ maxLen ∧ VR (Gh.all W) (A_api_Float x) v := by
  obtain ⟨us, rfl, hsz⟩ := okWide_struct Try.underlying24 hv
  obtain ⟨fuel, hf⟩ := h
  have kw : Try.prog.cellsOf 24 = 9 := by kernel_rfl
  have ks : Try.prog.cellsOf 22 = 1 := by kernel_rfl
  rw [kw] at hsz
  obtain ⟨us⟩ := us
  match us, hsz with
  | [c0, c1, c2, c3, c4, c5, c6, c7, c8], _ =>
    obtain ⟨xs, m, _, _, _, hlen, hf⟩ := DataW.trod_struct Try.underlying24 hf
    obtain ⟨x0, e0⟩ := ex_of_len hlen (i := 0) (by decide)
    obtain ⟨x1, e1⟩ := ex_of_len hlen (i := 1) (by decide)
    obtain ⟨x2, e2⟩ := ex_of_len hlen (i := 2) (by decide)
    obtain ⟨x3, e3⟩ := ex_of_len hlen (i := 3) (by decide)
    obtain ⟨x4, e4⟩ := ex_of_len hlen (i := 4) (by decide)
    obtain ⟨x5, e5⟩ := ex_of_len hlen (i := 5) (by decide)
    obtain ⟨x6, e6⟩ := ex_of_len hlen (i := 6) (by decide)
    obtain ⟨x7, e7⟩ := ex_of_len hlen (i := 7) (by decide)
    obtain ⟨x8, e8⟩ := ex_of_len hlen (i := 8) (by decide)
    obtain ⟨z0, h0⟩ := int_at (cs := [c0, c1, c2, c3, c4, c5, c6, c7, c8]) (off := 0) (by rw [e0]; simp) (hf 0 _ rfl)
    obtain ⟨z1, h1⟩ := int_at (cs := [c0, c1, c2, c3, c4, c5, c6, c7, c8]) (off := 1) (by rw [e1]; simp) (hf 1 _ rfl)
    obtain ⟨z2, h2⟩ := int_at (cs := [c0, c1, c2, c3, c4, c5, c6, c7, c8]) (off := 2) (by rw [e2]; simp) (hf 2 _ rfl)
    obtain ⟨z3, h3⟩ := int_at (cs := [c0, c1, c2, c3, c4, c5, c6, c7, c8]) (off := 3) (by rw [e3]; simp) (hf 3 _ rfl)
    obtain ⟨z4, h4⟩ := int_at (cs := [c0, c1, c2, c3, c4, c5, c6, c7, c8]) (off := 4) (by rw [e4]; simp) (hf 4 _ rfl)
    obtain ⟨z5, h5⟩ := int_at (cs := [c0, c1, c2, c3, c4, c5, c6, c7, c8]) (off := 5) (by rw [e5]; simp) (hf 5 _ rfl)
    obtain ⟨z6, h6⟩ := int_at (cs := [c0, c1, c2, c3, c4, c5, c6, c7, c8]) (off := 6) (by rw [e6]; simp) (hf 6 _ rfl)
    obtain ⟨z7, h7⟩ := int_at (cs := [c0, c1, c2, c3, c4, c5, c6, c7, c8]) (off := 7) (by rw [e7]; simp) (hf 7 _ rfl)
    have h8 : DataW.trod enc Try.prog W base (fun _ => true) held m 22 ((([c0, c1, c2, c3, c4, c5, c6, c7, c8] : List Value).drop 8).take (Try.prog.cellsOf 22)) = xs[8]? := by have := hf 8 _ rfl; exact this
    rw [e8, ks] at h8
    replace h8 : DataW.trod enc Try.prog W base (fun _ => true) held m 22 [c8] = some x8 := h8
    simp at h0 h1 h2 h3 h4 h5 h6 h7
    subst h0 h1 h2 h3 h4 h5 h6 h7
    have hsl : ∃ a len cap, c8 = .slice a len cap := by
      rcases open_slice Try.underlying22 h8 with ⟨hcs, _⟩ | ⟨ad, l, c, m, n, D, Pl, hcs, _⟩
      · simp at hcs; exact ⟨_, _, _, hcs⟩
      · simp at hcs; exact ⟨_, _, _, hcs⟩
    obtain ⟨a, len, cap, rfl⟩ := hsl
    obtain ⟨ls, hl, hvr⟩ := loads_vr (fun _ => rfl) h8
    refine ⟨⟨z0, z1, z2, z3, z4, z5, z6, z7, ls⟩, hl, .agg _ _ rfl ?_⟩
    intro i x u hx hu
    match i with
    | 0 => simp [C_api_Float] at hx hu; subst hx; subst hu; exact .int _ _
    | 1 => simp [C_api_Float] at hx hu; subst hx; subst hu; exact .int _ _
    | 2 => simp [C_api_Float] at hx hu; subst hx; subst hu; exact .int _ _
    | 3 => simp [C_api_Float] at hx hu; subst hx; subst hu; exact .int _ _
    | 4 => simp [C_api_Float] at hx hu; subst hx; subst hu; exact .int _ _
    | 5 => simp [C_api_Float] at hx hu; subst hx; subst hu; exact .int _ _
    | 6 => simp [C_api_Float] at hx hu; subst hx; subst hu; exact .int _ _
    | 7 => simp [C_api_Float] at hx hu; subst hx; subst hu; exact .int _ _
    | 8 => simp [C_api_Float] at hx hu; subst hx; subst hu; exact hvr
    | i + 9 => simp [C_api_Float] at hx
end
end Go.Proofs.Ytfcjcjncfniclaa
end
section
namespace Go.Proofs.Ytfcjcjncfniclaa
open Go.RowKit Go.ChangeShapes Go.WideShapes Go.ChangeAt
set_option linter.unusedVariables false
set_option linter.unusedSimpArgs false

def nums (zs : List Int) : AV := .sl (zs.map fun z => .int .i64 z) none
theorem prog_own : ownKnob Try.prog.godebug = none := by kernel_rfl
theorem prog_laid : laidOutB Try.prog = true := by kernel_rfl

namespace floatFires
set_option maxRecDepth 100000 in
theorem lifted (hM : ∀ (x0 : T_api_Float), x0.Loads.length ≤ maxLen → ∀ (x1 : Int), (Lit.int .i64 x1).wf = true → ∀ (x2 : List Int), (∀ z ∈ x2, (Lit.int .i64 z).wf = true) → x2.length ≤ maxLen → Does Try.prog 5 [A_api_Float x0, .int .i64 x1, nums x2] [] fun v _ => v = .bool true) (os : Os) (started : os.Started) (H : Type) (enc : TypeId × Value → H) :
    ReturnsInHanded {} Try.checked os 5 .any (Rows.floatFiresSpec.pre6 enc Try.prog Try.f5 Rows.floatFiresRow.domain false) (Rows.floatFiresSpec.post enc Try.prog Try.f5 false true false false) := by
  refine returnsInHanded_of_change (C := Try.checked) prog_own started (by kernel_rfl) Try.func5
    (ChangeSpec.witness6 (enc := enc) (C := Try.checked) false ⟨#[], #[.agg #[.int .i64 0, .int .i64 0, .int .i64 0, .int .i64 0, .int .i64 0, .int .i64 0, .int .i64 0, .int .i64 0, .slice none 0 0], .int .i64 0, .slice none 0 0], []⟩ 8 (by kernel_rfl) (by kernel_rfl) (by kernel_rfl) (by kernel_rfl)) ?_
  intro W base args ds gs before hval0 hW hcnd _
  have hval : ∀ (j : Nat) t v, Try.f5.params[j]? = some t → args[j]? = some v → Value.okWide Try.prog W .any base t v := hval0
  have hW' := hW
  obtain ⟨p, q, hA0, hV, rfl, hfz, hnd⟩ := hW
  have hA : DataW.TrodAll enc Try.prog W 0 (fun _ => true) true Try.f5.params.toList args.toList ds p := hA0
  rw [Try.params5] at hA hval
  obtain ⟨v0, vs0, d0, ds0, p0, q0, hargs, rfl, rfl, h0, r0⟩ := trodAll_cons hA
  obtain ⟨v1, vs1, d1, ds1, p1, q1, rfl, rfl, rfl, h1, r1⟩ := trodAll_cons r0
  obtain ⟨v2, vs2, d2, ds2, p2, q2, rfl, rfl, rfl, h2, r2⟩ := trodAll_cons r1
  obtain ⟨rfl, rfl, rfl⟩ := trodAll_nil r2
  obtain rfl : args = #[v0, v1, v2] := by cases args; simp_all
  obtain ⟨rfl, rfl⟩ := trodVars_none hV
  have k0 := h0
  have lt0 : ∀ x ∈ p0, x.block < W.heap.size := by obtain ⟨m, hm⟩ := k0; exact DataW.trod_lt m _ _ _ hm
  obtain ⟨zs0, hlen0, hvr0⟩ := float_vr (hval 0 24 v0 rfl rfl) h0
  obtain ⟨a1, rfl, rfl, rfl, w1⟩ := open_int Try.underlying3 (hval 1 3 v1 rfl rfl) h1
  have k2 := h2
  have lt2 : ∀ x ∈ p2, x.block < W.heap.size := by obtain ⟨m, hm⟩ := k2; exact DataW.trod_lt m _ _ _ hm
  obtain ⟨a2, len2, cap2, rfl⟩ := okWide_slice Try.underlying29 (hval 2 29 v2 rfl rfl)
  obtain ⟨zs2, hwf2, hlen2, hvr2⟩ := ints_vr Try.underlying29 Try.underlying3 (by kernel_rfl) h2
  clear hA0 hval0
  refine ((hM zs0 hlen0 a1 w1 zs2 hwf2 hlen2).law (us := #[v0, .int .i64 a1, .slice a2 len2 cap2]) ⟨rfl, fun i x u hx hu => ?_⟩).mono fun e W' ⟨he, bel⟩ => ?_
  · match i with
    | 0 => simp at hx hu; subst hx; subst hu; exact hvr0
    | 1 => simp at hx hu; subst hx; subst hu; exact .int _ _
    | 2 => simp at hx hu; subst hx; subst hu; exact hvr2
    | i + 3 => simp at hx
  subst he
  exact ⟨_, rfl, _, _, _, [], _, [], hW', trodAll_mk1 (shut_bool Try.underlying4 _), (trodAll_cons_mk (Below.trod prog_laid (by kernel_rfl) (of_decide_eq_true (by kernel_rfl)) k0 bel lt0) (trodAll_cons_mk (shut_int Try.underlying3 w1) (trodAll_cons_mk (Below.trod prog_laid (by kernel_rfl) (of_decide_eq_true (by kernel_rfl)) k2 bel lt2) trodAll_mk0))), rfl, bel.frame _, fun h => by cases h⟩

theorem frame (hM : ∀ (x0 : T_api_Float), x0.Loads.length ≤ maxLen → ∀ (x1 : Int), (Lit.int .i64 x1).wf = true → ∀ (x2 : List Int), (∀ z ∈ x2, (Lit.int .i64 z).wf = true) → x2.length ≤ maxLen → Does Try.prog 5 [A_api_Float x0, .int .i64 x1, nums x2] [] fun v _ => v = .bool true) : Rows.FloatFiresSaid :=
  OpenClaim.holds_of_wide 5 Try.f5 rfl rfl rfl rfl rfl rfl rfl ⟨rfl, rfl, rfl, rfl, rfl⟩ rfl rfl rfl rfl rfl (by kernel_rfl) Try.func5 (by kernel_rfl)
    (of_decide_eq_true (by kernel_rfl)) (by unfold Func.isWrapper; first | (rw [if_pos (by decide +kernel)]; kernel_rfl) | (rw [if_neg (by decide +kernel)]; exact ⟨rfl, rfl⟩))
    (fun os started H enc _ => lifted hM os started H enc)
end floatFires
end Go.Proofs.Ytfcjcjncfniclaa
end
