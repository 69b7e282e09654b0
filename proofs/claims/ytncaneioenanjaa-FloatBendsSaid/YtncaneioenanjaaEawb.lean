/- The chapter's examples (awake): what the two searches of Ballast ask for, reckoned, part b. Needs XFa. Own work. -/
import Derived.Test.YtncaneioenanjaaEaw
namespace Go.Proofs.Ytncaneioenanjaa
open Go.RowKit
set_option linter.unusedVariables false
set_option maxRecDepth 100000
theorem b1_97 : evFn X4 300 F71 [.int .i64 97, .ptr 0 0, .ptr 1 0] [mid9, [.int .i64 200]] = some (.bool true, [mid9, [.int .i64 200]]) := by kernel_rfl
theorem b1_48 : evFn X4 300 F71 [.int .i64 48, .ptr 0 0, .ptr 1 0] [mid9, [.int .i64 200]] = some (.bool true, [mid9, [.int .i64 200]]) := by kernel_rfl
theorem b1_24 : evFn X4 300 F71 [.int .i64 24, .ptr 0 0, .ptr 1 0] [mid9, [.int .i64 200]] = some (.bool true, [mid9, [.int .i64 200]]) := by kernel_rfl
theorem b1_12 : evFn X4 300 F71 [.int .i64 12, .ptr 0 0, .ptr 1 0] [mid9, [.int .i64 200]] = some (.bool false, [mid9, [.int .i64 200]]) := by kernel_rfl
theorem b1_18 : evFn X4 300 F71 [.int .i64 18, .ptr 0 0, .ptr 1 0] [mid9, [.int .i64 200]] = some (.bool true, [mid9, [.int .i64 200]]) := by kernel_rfl
theorem b1_15 : evFn X4 300 F71 [.int .i64 15, .ptr 0 0, .ptr 1 0] [mid9, [.int .i64 200]] = some (.bool false, [mid9, [.int .i64 200]]) := by kernel_rfl
theorem b1_17 : evFn X4 300 F71 [.int .i64 17, .ptr 0 0, .ptr 1 0] [mid9, [.int .i64 200]] = some (.bool true, [mid9, [.int .i64 200]]) := by kernel_rfl
theorem b1_16 : evFn X4 300 F71 [.int .i64 16, .ptr 0 0, .ptr 1 0] [mid9, [.int .i64 200]] = some (.bool false, [mid9, [.int .i64 200]]) := by kernel_rfl
end Go.Proofs.Ytncaneioenanjaa
