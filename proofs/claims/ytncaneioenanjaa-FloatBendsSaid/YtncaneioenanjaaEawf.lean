/- The chapter's examples (awake), the last part. Own work. -/
import Derived.Test.YtncaneioenanjaaEawe
namespace Go.Proofs.Ytncaneioenanjaa
open Go.RowKit
set_option linter.unusedVariables false
set_option maxRecDepth 100000

def hur (k a b : Int) : AV := .agg [.int .i64 k, .int .i64 a, .int .i64 b]
theorem passes_run : evFn X5 300 F18 [.agg (swanC 500), .sl [hur 1 700 1400, hur 2 519 0, hur 3 5649 3067] none] [] = some (.tup [.sl [.int .i64 1, .int .i64 3, .int .i64 2] none, .int .i64 0], []) := by kernel_rfl
def known3 : List (Known Try.prog) := [⟨15, _, _, _, _, evFn_ok X5_ok comp15 axles_run⟩, ⟨18, _, _, _, _, evFn_ok X5_ok comp18 passes_run⟩, ⟨43, _, _, _, _, evFn_ok X5_ok comp43 ballast_run⟩]
def tabC (f : FuncId) : Option AFn := bif Nat.beq f 15 || (Nat.beq f 18 || Nat.beq f 43) then none else tab f
theorem tabC_ok : ∀ f F, tabC f = some F → compFn Try.prog f = some F := by
  intro f F h
  unfold tabC at h
  cases hc : (Nat.beq f 15 || (Nat.beq f 18 || Nat.beq f 43)) with
  | true => rw [hc] at h; cases h
  | false => rw [hc] at h; exact tab_ok f F h
noncomputable def X6 : Clr := clrN tabC inl (clrOf (knO known3)) 300 14
theorem X6_ok : ClrOk Try.prog X6 := clrN_ok (clr_ok (knO_ok _)) tabC_ok 300 14
theorem awake_run : evFn X6 300 F26 [] [] = some (.bool true, []) := by kernel_rfl
theorem awake_m : Meets Try.prog 26 [] [] fun v c' => v = .bool true ∧ c' = [] :=
  ⟨_, _, evFn_ok X6_ok comp26 awake_run, rfl, rfl⟩
end Go.Proofs.Ytncaneioenanjaa
