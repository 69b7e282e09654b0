/- The chapter's examples (awake): what the two searches of Ballast ask for, reckoned, part a. Needs XFa. Own work. -/
import Derived.Test.YtncaneioenanjaaEaw
namespace Go.Proofs.Ytncaneioenanjaa
open Go.RowKit
set_option linter.unusedVariables false
set_option maxRecDepth 100000
theorem b1_50000 : evFn X4 300 F71 [.int .i64 50000, .ptr 0 0, .ptr 1 0] [mid9, [.int .i64 200]] = some (.bool true, [mid9, [.int .i64 200]]) := by kernel_rfl
theorem b1_25000 : evFn X4 300 F71 [.int .i64 25000, .ptr 0 0, .ptr 1 0] [mid9, [.int .i64 200]] = some (.bool true, [mid9, [.int .i64 200]]) := by kernel_rfl
theorem b1_12500 : evFn X4 300 F71 [.int .i64 12500, .ptr 0 0, .ptr 1 0] [mid9, [.int .i64 200]] = some (.bool true, [mid9, [.int .i64 200]]) := by kernel_rfl
theorem b1_6250 : evFn X4 300 F71 [.int .i64 6250, .ptr 0 0, .ptr 1 0] [mid9, [.int .i64 200]] = some (.bool true, [mid9, [.int .i64 200]]) := by kernel_rfl
theorem b1_3125 : evFn X4 300 F71 [.int .i64 3125, .ptr 0 0, .ptr 1 0] [mid9, [.int .i64 200]] = some (.bool true, [mid9, [.int .i64 200]]) := by kernel_rfl
theorem b1_1562 : evFn X4 300 F71 [.int .i64 1562, .ptr 0 0, .ptr 1 0] [mid9, [.int .i64 200]] = some (.bool true, [mid9, [.int .i64 200]]) := by kernel_rfl
theorem b1_781 : evFn X4 300 F71 [.int .i64 781, .ptr 0 0, .ptr 1 0] [mid9, [.int .i64 200]] = some (.bool true, [mid9, [.int .i64 200]]) := by kernel_rfl
theorem b1_390 : evFn X4 300 F71 [.int .i64 390, .ptr 0 0, .ptr 1 0] [mid9, [.int .i64 200]] = some (.bool true, [mid9, [.int .i64 200]]) := by kernel_rfl
theorem b1_195 : evFn X4 300 F71 [.int .i64 195, .ptr 0 0, .ptr 1 0] [mid9, [.int .i64 200]] = some (.bool true, [mid9, [.int .i64 200]]) := by kernel_rfl
end Go.Proofs.Ytncaneioenanjaa
