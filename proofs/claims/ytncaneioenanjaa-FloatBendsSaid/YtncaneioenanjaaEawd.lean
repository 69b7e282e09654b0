/- The chapter's examples (awake): what the two searches of Ballast ask for, reckoned, part d. Needs XFa. Own work. -/
import Derived.Test.YtncaneioenanjaaEaw
namespace Go.Proofs.Ytncaneioenanjaa
open Go.RowKit
set_option linter.unusedVariables false
set_option maxRecDepth 100000
theorem b2_99904 : evFn X4 300 F73 [.int .i64 99904, .ptr 0 0, .ptr 1 0, .ptr 2 0] [mid9, [.int .i64 200], [.nils]] = some (.bool false, [mid9, [.int .i64 200], [.nils]]) := by kernel_rfl
theorem b2_99953 : evFn X4 300 F73 [.int .i64 99953, .ptr 0 0, .ptr 1 0, .ptr 2 0] [mid9, [.int .i64 200], [.nils]] = some (.bool false, [mid9, [.int .i64 200], [.nils]]) := by kernel_rfl
theorem b2_99977 : evFn X4 300 F73 [.int .i64 99977, .ptr 0 0, .ptr 1 0, .ptr 2 0] [mid9, [.int .i64 200], [.nils]] = some (.bool false, [mid9, [.int .i64 200], [.nils]]) := by kernel_rfl
theorem b2_99989 : evFn X4 300 F73 [.int .i64 99989, .ptr 0 0, .ptr 1 0, .ptr 2 0] [mid9, [.int .i64 200], [.nils]] = some (.bool false, [mid9, [.int .i64 200], [.nils]]) := by kernel_rfl
theorem b2_99995 : evFn X4 300 F73 [.int .i64 99995, .ptr 0 0, .ptr 1 0, .ptr 2 0] [mid9, [.int .i64 200], [.nils]] = some (.bool false, [mid9, [.int .i64 200], [.nils]]) := by kernel_rfl
theorem b2_99998 : evFn X4 300 F73 [.int .i64 99998, .ptr 0 0, .ptr 1 0, .ptr 2 0] [mid9, [.int .i64 200], [.nils]] = some (.bool false, [mid9, [.int .i64 200], [.nils]]) := by kernel_rfl
theorem b2_100000 : evFn X4 300 F73 [.int .i64 100000, .ptr 0 0, .ptr 1 0, .ptr 2 0] [mid9, [.int .i64 200], [.nils]] = some (.bool false, [mid9, [.int .i64 200], [.nils]]) := by kernel_rfl
end Go.Proofs.Ytncaneioenanjaa
