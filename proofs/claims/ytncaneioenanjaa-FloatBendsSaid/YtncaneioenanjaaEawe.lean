/- The chapter's examples (awake), reckoned out of what was reckoned. Own work. -/
import Derived.Test.YtncaneioenanjaaEawa
import Derived.Test.YtncaneioenanjaaEawb
import Derived.Test.YtncaneioenanjaaEawc
import Derived.Test.YtncaneioenanjaaEawd
namespace Go.Proofs.Ytncaneioenanjaa
open Go.RowKit
set_option linter.unusedVariables false
set_option maxRecDepth 100000

/-- What a call is known to come to. -/
structure Known (P : Program) where
  f : FuncId
  xs : List AV
  cells : List (List AV)
  v : AV
  cells' : List (List AV)
  h : Contract P f xs cells v cells'
def knO {P : Program} : List (Known P) → Orc
  | [], _, _, _ => none
  | e :: l, f, xs, cells => bif Nat.beq e.f f && (beqL e.xs xs && bxBeq e.cells cells) then some (e.v, e.cells') else knO l f xs cells
theorem knO_ok {P : Program} : ∀ (l : List (Known P)), OrcOk P (knO l)
  | [], _, _, _, _, _, h => by cases h
  | e :: l, f, xs, cells, v, c', h => by
    simp only [knO] at h
    cases hc : (Nat.beq e.f f && (beqL e.xs xs && bxBeq e.cells cells)) with
    | true =>
      rw [hc, cond_true] at h
      cases h
      simp only [Bool.and_eq_true] at hc
      have := e.h
      rw [Nat.eq_of_beq_eq_true hc.1, beqL_eq _ _ hc.2.1, bxBeq_eq _ _ hc.2.2] at this
      exact this
    | false =>
      rw [hc, cond_false] at h
      exact knO_ok l f xs cells v c' h
def known1 : List (Known Try.prog) := [⟨71, [.int .i64 50000, .ptr 0 0, .ptr 1 0], [mid9, [.int .i64 200]], .bool true, [mid9, [.int .i64 200]], evFn_ok X4_ok comp71 b1_50000⟩,⟨71, [.int .i64 25000, .ptr 0 0, .ptr 1 0], [mid9, [.int .i64 200]], .bool true, [mid9, [.int .i64 200]], evFn_ok X4_ok comp71 b1_25000⟩,⟨71, [.int .i64 12500, .ptr 0 0, .ptr 1 0], [mid9, [.int .i64 200]], .bool true, [mid9, [.int .i64 200]], evFn_ok X4_ok comp71 b1_12500⟩,⟨71, [.int .i64 6250, .ptr 0 0, .ptr 1 0], [mid9, [.int .i64 200]], .bool true, [mid9, [.int .i64 200]], evFn_ok X4_ok comp71 b1_6250⟩,⟨71, [.int .i64 3125, .ptr 0 0, .ptr 1 0], [mid9, [.int .i64 200]], .bool true, [mid9, [.int .i64 200]], evFn_ok X4_ok comp71 b1_3125⟩,⟨71, [.int .i64 1562, .ptr 0 0, .ptr 1 0], [mid9, [.int .i64 200]], .bool true, [mid9, [.int .i64 200]], evFn_ok X4_ok comp71 b1_1562⟩,⟨71, [.int .i64 781, .ptr 0 0, .ptr 1 0], [mid9, [.int .i64 200]], .bool true, [mid9, [.int .i64 200]], evFn_ok X4_ok comp71 b1_781⟩,⟨71, [.int .i64 390, .ptr 0 0, .ptr 1 0], [mid9, [.int .i64 200]], .bool true, [mid9, [.int .i64 200]], evFn_ok X4_ok comp71 b1_390⟩,⟨71, [.int .i64 195, .ptr 0 0, .ptr 1 0], [mid9, [.int .i64 200]], .bool true, [mid9, [.int .i64 200]], evFn_ok X4_ok comp71 b1_195⟩,⟨71, [.int .i64 97, .ptr 0 0, .ptr 1 0], [mid9, [.int .i64 200]], .bool true, [mid9, [.int .i64 200]], evFn_ok X4_ok comp71 b1_97⟩,⟨71, [.int .i64 48, .ptr 0 0, .ptr 1 0], [mid9, [.int .i64 200]], .bool true, [mid9, [.int .i64 200]], evFn_ok X4_ok comp71 b1_48⟩,⟨71, [.int .i64 24, .ptr 0 0, .ptr 1 0], [mid9, [.int .i64 200]], .bool true, [mid9, [.int .i64 200]], evFn_ok X4_ok comp71 b1_24⟩,⟨71, [.int .i64 12, .ptr 0 0, .ptr 1 0], [mid9, [.int .i64 200]], .bool false, [mid9, [.int .i64 200]], evFn_ok X4_ok comp71 b1_12⟩,⟨71, [.int .i64 18, .ptr 0 0, .ptr 1 0], [mid9, [.int .i64 200]], .bool true, [mid9, [.int .i64 200]], evFn_ok X4_ok comp71 b1_18⟩,⟨71, [.int .i64 15, .ptr 0 0, .ptr 1 0], [mid9, [.int .i64 200]], .bool false, [mid9, [.int .i64 200]], evFn_ok X4_ok comp71 b1_15⟩,⟨71, [.int .i64 17, .ptr 0 0, .ptr 1 0], [mid9, [.int .i64 200]], .bool true, [mid9, [.int .i64 200]], evFn_ok X4_ok comp71 b1_17⟩,⟨71, [.int .i64 16, .ptr 0 0, .ptr 1 0], [mid9, [.int .i64 200]], .bool false, [mid9, [.int .i64 200]], evFn_ok X4_ok comp71 b1_16⟩]
def known2 : List (Known Try.prog) := [⟨73, [.int .i64 50000, .ptr 0 0, .ptr 1 0, .ptr 2 0], [mid9, [.int .i64 200], [.nils]], .bool false, [mid9, [.int .i64 200], [.nils]], evFn_ok X4_ok comp73 b2_50000⟩,⟨73, [.int .i64 75001, .ptr 0 0, .ptr 1 0, .ptr 2 0], [mid9, [.int .i64 200], [.nils]], .bool false, [mid9, [.int .i64 200], [.nils]], evFn_ok X4_ok comp73 b2_75001⟩,⟨73, [.int .i64 87501, .ptr 0 0, .ptr 1 0, .ptr 2 0], [mid9, [.int .i64 200], [.nils]], .bool false, [mid9, [.int .i64 200], [.nils]], evFn_ok X4_ok comp73 b2_87501⟩,⟨73, [.int .i64 93751, .ptr 0 0, .ptr 1 0, .ptr 2 0], [mid9, [.int .i64 200], [.nils]], .bool false, [mid9, [.int .i64 200], [.nils]], evFn_ok X4_ok comp73 b2_93751⟩,⟨73, [.int .i64 96876, .ptr 0 0, .ptr 1 0, .ptr 2 0], [mid9, [.int .i64 200], [.nils]], .bool false, [mid9, [.int .i64 200], [.nils]], evFn_ok X4_ok comp73 b2_96876⟩,⟨73, [.int .i64 98439, .ptr 0 0, .ptr 1 0, .ptr 2 0], [mid9, [.int .i64 200], [.nils]], .bool false, [mid9, [.int .i64 200], [.nils]], evFn_ok X4_ok comp73 b2_98439⟩,⟨73, [.int .i64 99220, .ptr 0 0, .ptr 1 0, .ptr 2 0], [mid9, [.int .i64 200], [.nils]], .bool false, [mid9, [.int .i64 200], [.nils]], evFn_ok X4_ok comp73 b2_99220⟩,⟨73, [.int .i64 99611, .ptr 0 0, .ptr 1 0, .ptr 2 0], [mid9, [.int .i64 200], [.nils]], .bool false, [mid9, [.int .i64 200], [.nils]], evFn_ok X4_ok comp73 b2_99611⟩,⟨73, [.int .i64 99806, .ptr 0 0, .ptr 1 0, .ptr 2 0], [mid9, [.int .i64 200], [.nils]], .bool false, [mid9, [.int .i64 200], [.nils]], evFn_ok X4_ok comp73 b2_99806⟩,⟨73, [.int .i64 99904, .ptr 0 0, .ptr 1 0, .ptr 2 0], [mid9, [.int .i64 200], [.nils]], .bool false, [mid9, [.int .i64 200], [.nils]], evFn_ok X4_ok comp73 b2_99904⟩,⟨73, [.int .i64 99953, .ptr 0 0, .ptr 1 0, .ptr 2 0], [mid9, [.int .i64 200], [.nils]], .bool false, [mid9, [.int .i64 200], [.nils]], evFn_ok X4_ok comp73 b2_99953⟩,⟨73, [.int .i64 99977, .ptr 0 0, .ptr 1 0, .ptr 2 0], [mid9, [.int .i64 200], [.nils]], .bool false, [mid9, [.int .i64 200], [.nils]], evFn_ok X4_ok comp73 b2_99977⟩,⟨73, [.int .i64 99989, .ptr 0 0, .ptr 1 0, .ptr 2 0], [mid9, [.int .i64 200], [.nils]], .bool false, [mid9, [.int .i64 200], [.nils]], evFn_ok X4_ok comp73 b2_99989⟩,⟨73, [.int .i64 99995, .ptr 0 0, .ptr 1 0, .ptr 2 0], [mid9, [.int .i64 200], [.nils]], .bool false, [mid9, [.int .i64 200], [.nils]], evFn_ok X4_ok comp73 b2_99995⟩,⟨73, [.int .i64 99998, .ptr 0 0, .ptr 1 0, .ptr 2 0], [mid9, [.int .i64 200], [.nils]], .bool false, [mid9, [.int .i64 200], [.nils]], evFn_ok X4_ok comp73 b2_99998⟩,⟨73, [.int .i64 100000, .ptr 0 0, .ptr 1 0, .ptr 2 0], [mid9, [.int .i64 200], [.nils]], .bool false, [mid9, [.int .i64 200], [.nils]], evFn_ok X4_ok comp73 b2_100000⟩]
/-- All functions but those of which all is known. -/
def tabB (f : FuncId) : Option AFn := bif Nat.beq f 71 || Nat.beq f 73 then none else tab f
theorem tabB_ok : ∀ f F, tabB f = some F → compFn Try.prog f = some F := by
  intro f F h
  unfold tabB at h
  cases hc : (Nat.beq f 71 || Nat.beq f 73) with
  | true => rw [hc] at h; cases h
  | false => rw [hc] at h; exact tab_ok f F h
noncomputable def X5 : Clr := clrN tabB inl (clrOf (knO (known1 ++ known2))) 300 14
theorem X5_ok : ClrOk Try.prog X5 := clrN_ok (clr_ok (knO_ok _)) tabB_ok 300 14
def spanA (a b : Int) : AV := .agg [.int .i64 a, .int .i64 b]
theorem ballast_run : evFn X5 300 F43 [.agg mid9, .nils, .int .i64 200] [] = some (.tup [spanA 17 100000, .int .i64 0], []) := by kernel_rfl
theorem axles_run : evFn X5 300 F15 [.agg (swanC 500)] [] = some (.tup [spanA 2650 2784, spanA 3000 3067, .int .i64 0], []) := by kernel_rfl
end Go.Proofs.Ytncaneioenanjaa
