/- The chapter's examples (awake): what the two searches of Ballast ask for, reckoned, part c. Needs XFa. Own work. -/
import Derived.Test.YtncaneioenanjaaEaw
namespace Go.Proofs.Ytncaneioenanjaa
open Go.RowKit
set_option linter.unusedVariables false
set_option maxRecDepth 100000
theorem b2_50000 : evFn X4 300 F73 [.int .i64 50000, .ptr 0 0, .ptr 1 0, .ptr 2 0] [mid9, [.int .i64 200], [.nils]] = some (.bool false, [mid9, [.int .i64 200], [.nils]]) := by kernel_rfl
theorem b2_75001 : evFn X4 300 F73 [.int .i64 75001, .ptr 0 0, .ptr 1 0, .ptr 2 0] [mid9, [.int .i64 200], [.nils]] = some (.bool false, [mid9, [.int .i64 200], [.nils]]) := by kernel_rfl
theorem b2_87501 : evFn X4 300 F73 [.int .i64 87501, .ptr 0 0, .ptr 1 0, .ptr 2 0] [mid9, [.int .i64 200], [.nils]] = some (.bool false, [mid9, [.int .i64 200], [.nils]]) := by kernel_rfl
theorem b2_93751 : evFn X4 300 F73 [.int .i64 93751, .ptr 0 0, .ptr 1 0, .ptr 2 0] [mid9, [.int .i64 200], [.nils]] = some (.bool false, [mid9, [.int .i64 200], [.nils]]) := by kernel_rfl
theorem b2_96876 : evFn X4 300 F73 [.int .i64 96876, .ptr 0 0, .ptr 1 0, .ptr 2 0] [mid9, [.int .i64 200], [.nils]] = some (.bool false, [mid9, [.int .i64 200], [.nils]]) := by kernel_rfl
theorem b2_98439 : evFn X4 300 F73 [.int .i64 98439, .ptr 0 0, .ptr 1 0, .ptr 2 0] [mid9, [.int .i64 200], [.nils]] = some (.bool false, [mid9, [.int .i64 200], [.nils]]) := by kernel_rfl
theorem b2_99220 : evFn X4 300 F73 [.int .i64 99220, .ptr 0 0, .ptr 1 0, .ptr 2 0] [mid9, [.int .i64 200], [.nils]] = some (.bool false, [mid9, [.int .i64 200], [.nils]]) := by kernel_rfl
theorem b2_99611 : evFn X4 300 F73 [.int .i64 99611, .ptr 0 0, .ptr 1 0, .ptr 2 0] [mid9, [.int .i64 200], [.nils]] = some (.bool false, [mid9, [.int .i64 200], [.nils]]) := by kernel_rfl
theorem b2_99806 : evFn X4 300 F73 [.int .i64 99806, .ptr 0 0, .ptr 1 0, .ptr 2 0] [mid9, [.int .i64 200], [.nils]] = some (.bool false, [mid9, [.int .i64 200], [.nils]]) := by kernel_rfl
end Go.Proofs.Ytncaneioenanjaa
