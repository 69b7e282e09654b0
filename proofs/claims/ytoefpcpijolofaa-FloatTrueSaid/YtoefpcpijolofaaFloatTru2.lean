/- Part 3 of what the law needs: own work, put together. -/
import Derived.Test.YtoefpcpijolofaaProg
import Derived.KernelRfl
import Derived.OpenShut
import Derived.ShutString
import Derived.ChangeOld
import Derived.ChangeSlices
import Derived.Test.YtoefpcpijolofaaFloatTru1
section
namespace Go.Proofs.Ytoefpcpijolofaa
set_option linter.unusedVariables false
set_option maxRecDepth 100000

def F3 : AFn := ⟨1, 177, [.tmp 2], (.seq (.reg [⟨some 2, .mov (.con (.bool false)), none⟩]) (.seq (.reg [⟨some 23, .mov (.tmp 0), none⟩, ⟨some 24, .call (.con (.fn 11 [] [])) [(.tmp 23)], none⟩, ⟨some 3, .mov (.tmp 24), none⟩]) (.seq (.reg [⟨some 25, .mov (.tmp 3), none⟩, ⟨some 26, .call (.con (.fn 12 [] [])) [(.tmp 25), (.con (.int .i64 6))], none⟩, ⟨some 4, .box (.con (.agg [.int .i64 0, .int .i64 0, .int .i64 0, .int .i64 0, .int .i64 0, .int .i64 0, .int .i64 0, .int .i64 0, .nils])), none⟩, ⟨none, .store 9 (.tmp 4) (.tmp 26), none⟩]) (.seq (.reg [⟨some 27, .mov (.tmp 3), none⟩, ⟨some 28, .load (some 9) (.tmp 4), none⟩, ⟨some 29, .call (.con (.fn 13 [] [])) [(.tmp 27), (.tmp 28), (.con (.int .i64 5))], none⟩, ⟨some 5, .mov (.tmp 29), none⟩]) (.seq (.reg [⟨some 31, .load (some 9) (.tmp 4), none⟩, ⟨some 32, .call (.con (.fn 14 [] [])) [(.tmp 31)], none⟩, ⟨some 30, .mov (.tmp 32), none⟩, ⟨some 33, .ext (.tmp 30) 0, none⟩, ⟨some 34, .ext (.tmp 30) 1, none⟩, ⟨some 6, .box (.con (.agg [.int .i64 0, .int .i64 0])), none⟩, ⟨none, .store 2 (.tmp 6) (.tmp 33), none⟩, ⟨some 7, .mov (.tmp 34), none⟩]) (.seq (.reg [⟨some 36, .load (some 9) (.tmp 4), none⟩, ⟨some 37, .call (.con (.fn 15 [] [])) [(.tmp 36)], none⟩, ⟨some 35, .mov (.tmp 37), none⟩, ⟨some 38, .ext (.tmp 35) 0, none⟩, ⟨some 39, .ext (.tmp 35) 1, none⟩, ⟨some 40, .ext (.tmp 35) 2, none⟩, ⟨some 8, .box (.con (.agg [.int .i64 0, .int .i64 0])), none⟩, ⟨some 9, .box (.con (.agg [.int .i64 0, .int .i64 0])), none⟩, ⟨none, .store 2 (.tmp 8) (.tmp 38), none⟩, ⟨none, .store 2 (.tmp 9) (.tmp 39), none⟩, ⟨some 10, .mov (.tmp 40), none⟩]) (.seq (.reg [⟨some 42, .load (some 9) (.tmp 4), none⟩, ⟨some 43, .call (.con (.fn 16 [] [])) [(.tmp 42)], none⟩, ⟨some 41, .mov (.tmp 43), none⟩, ⟨some 44, .ext (.tmp 41) 0, none⟩, ⟨some 45, .ext (.tmp 41) 1, none⟩, ⟨some 11, .box (.con (.agg [.int .i64 0, .int .i64 0])), none⟩, ⟨none, .store 2 (.tmp 11) (.tmp 44), none⟩, ⟨some 12, .mov (.tmp 45), none⟩]) (.seq (.reg [⟨some 47, .load (some 9) (.tmp 4), none⟩, ⟨some 48, .call (.con (.fn 17 [] [])) [(.tmp 47)], none⟩, ⟨some 46, .mov (.tmp 48), none⟩, ⟨some 49, .ext (.tmp 46) 0, none⟩, ⟨some 50, .ext (.tmp 46) 1, none⟩, ⟨some 13, .mov (.tmp 49), none⟩, ⟨some 14, .mov (.tmp 50), none⟩]) (.seq (.reg [⟨some 52, .load (some 9) (.tmp 4), none⟩, ⟨some 53, .mov (.tmp 5), none⟩, ⟨some 54, .call (.con (.fn 18 [] [])) [(.tmp 52), (.tmp 53)], none⟩, ⟨some 51, .mov (.tmp 54), none⟩, ⟨some 55, .ext (.tmp 51) 0, none⟩, ⟨some 56, .ext (.tmp 51) 1, none⟩, ⟨some 15, .mov (.tmp 55), none⟩, ⟨some 16, .mov (.tmp 56), none⟩]) (.seq (.seq (.reg [⟨some 57, .mov (.tmp 7), none⟩, ⟨some 58, .bin .neq (.tmp 57) (.con (.int .i64 0)), none⟩, ⟨some 59, .mov (.tmp 58), none⟩, ⟨some 60, .mov (.tmp 10), some (59, false)⟩, ⟨some 61, .bin .neq (.tmp 60) (.con (.int .i64 0)), some (59, false)⟩, ⟨some 62, .pick (.tmp 59) (.con (.bool true)) (.tmp 61), none⟩, ⟨some 63, .mov (.tmp 62), none⟩, ⟨some 64, .mov (.tmp 12), some (63, false)⟩, ⟨some 65, .bin .neq (.tmp 64) (.con (.int .i64 0)), some (63, false)⟩, ⟨some 66, .pick (.tmp 63) (.con (.bool true)) (.tmp 65), none⟩, ⟨some 67, .mov (.tmp 66), none⟩, ⟨some 68, .mov (.tmp 14), some (67, false)⟩, ⟨some 69, .bin .neq (.tmp 68) (.con (.int .i64 0)), some (67, false)⟩, ⟨some 70, .pick (.tmp 67) (.con (.bool true)) (.tmp 69), none⟩, ⟨some 71, .mov (.tmp 70), none⟩, ⟨some 72, .mov (.tmp 16), some (71, false)⟩, ⟨some 73, .bin .neq (.tmp 72) (.con (.int .i64 0)), some (71, false)⟩, ⟨some 74, .pick (.tmp 71) (.con (.bool true)) (.tmp 73), none⟩, ⟨some 75, .mov (.tmp 74), none⟩, ⟨some 76, .mov (.tmp 15), some (75, false)⟩, ⟨some 77, .len false (.tmp 76), some (75, false)⟩, ⟨some 78, .mov (.tmp 5), some (75, false)⟩, ⟨some 79, .len false (.tmp 78), some (75, false)⟩, ⟨some 80, .bin .neq (.tmp 77) (.tmp 79), some (75, false)⟩, ⟨some 81, .pick (.tmp 75) (.con (.bool true)) (.tmp 80), none⟩]) (.cond (.tmp 81) (.seq (.reg [⟨some 2, .mov (.con (.bool false)), none⟩]) .ret) .skip)) (.seq (.reg [⟨some 82, .faddr (.tmp 4) 3, none⟩, ⟨some 83, .load none (.tmp 82), none⟩, ⟨some 84, .faddr (.tmp 4) 2, none⟩, ⟨some 85, .load none (.tmp 84), none⟩, ⟨some 86, .bin .sub (.tmp 83) (.tmp 85), none⟩, ⟨some 17, .mov (.tmp 86), none⟩]) (.seq (.seq (.reg [⟨some 18, .mov (.con (.int .i64 0)), none⟩]) (.block 0 (.loop (.seq (.seq (.reg [⟨some 87, .mov (.tmp 18), none⟩, ⟨some 88, .bin .lss (.tmp 87) (.con (.int .i64 6)), none⟩]) (.cond (.tmp 88) .skip (.exit 0))) (.seq (.block 1 (.seq (.reg [⟨some 91, .mov (.tmp 3), none⟩, ⟨some 92, .load (some 9) (.tmp 4), none⟩, ⟨some 93, .call (.con (.fn 19 [] [])) [(.tmp 91), (.tmp 92)], none⟩, ⟨some 19, .box (.con (.agg [.nils, .nils])), none⟩, ⟨none, .store 2 (.tmp 19) (.tmp 93), none⟩]) (.seq (.reg [⟨some 95, .load (some 9) (.tmp 4), none⟩, ⟨some 96, .load (some 2) (.tmp 19), none⟩, ⟨some 97, .call (.con (.fn 20 [] [])) [(.tmp 95), (.tmp 96)], none⟩, ⟨some 94, .mov (.tmp 97), none⟩, ⟨some 98, .ext (.tmp 94) 0, none⟩, ⟨some 99, .ext (.tmp 94) 1, none⟩, ⟨some 20, .mov (.tmp 98), none⟩, ⟨some 21, .mov (.tmp 99), none⟩]) (.seq (.seq (.dreg 54 [⟨some 100, .load (some 2) (.tmp 6), none⟩, ⟨some 101, .load (some 9) (.tmp 4), none⟩, ⟨some 102, .load (some 2) (.tmp 19), none⟩, ⟨some 103, .call (.con (.fn 22 [] [])) [(.tmp 101), (.tmp 102)], none⟩, ⟨some 104, .call (.con (.fn 21 [] [])) [(.tmp 100), (.tmp 103)], none⟩, ⟨some 105, .un .not (.tmp 104), none⟩, ⟨some 106, .mov (.tmp 105), none⟩, ⟨some 107, .mov (.tmp 20), some (106, false)⟩, ⟨some 108, .faddr (.tmp 8) 0, some (106, false)⟩, ⟨some 109, .load none (.tmp 108), some (106, false)⟩, ⟨some 110, .mov (.tmp 17), some (106, false)⟩, ⟨some 111, .bin .mul (.tmp 109) (.tmp 110), some (106, false)⟩, ⟨some 112, .bin .lss (.tmp 107) (.tmp 111), some (106, false)⟩, ⟨some 113, .pick (.tmp 106) (.con (.bool true)) (.tmp 112), none⟩, ⟨some 114, .mov (.tmp 113), none⟩, ⟨some 115, .mov (.tmp 20), some (114, false)⟩, ⟨some 116, .faddr (.tmp 8) 1, some (114, false)⟩, ⟨some 117, .load none (.tmp 116), some (114, false)⟩, ⟨some 118, .mov (.tmp 17), some (114, false)⟩, ⟨some 119, .bin .mul (.tmp 117) (.tmp 118), some (114, false)⟩, ⟨some 120, .bin .gtr (.tmp 115) (.tmp 119), some (114, false)⟩, ⟨some 121, .pick (.tmp 114) (.con (.bool true)) (.tmp 120), none⟩, ⟨some 122, .mov (.tmp 121), none⟩, ⟨some 123, .mov (.tmp 21), some (122, false)⟩, ⟨some 124, .faddr (.tmp 9) 0, some (122, false)⟩, ⟨some 125, .load none (.tmp 124), some (122, false)⟩, ⟨some 126, .mov (.tmp 17), some (122, false)⟩, ⟨some 127, .bin .mul (.tmp 125) (.tmp 126), some (122, false)⟩, ⟨some 128, .bin .lss (.tmp 123) (.tmp 127), some (122, false)⟩, ⟨some 129, .pick (.tmp 122) (.con (.bool true)) (.tmp 128), none⟩, ⟨some 130, .mov (.tmp 129), none⟩, ⟨some 131, .mov (.tmp 21), some (130, false)⟩, ⟨some 132, .faddr (.tmp 9) 1, some (130, false)⟩, ⟨some 133, .load none (.tmp 132), some (130, false)⟩, ⟨some 134, .mov (.tmp 17), some (130, false)⟩, ⟨some 135, .bin .mul (.tmp 133) (.tmp 134), some (130, false)⟩, ⟨some 136, .bin .gtr (.tmp 131) (.tmp 135), some (130, false)⟩, ⟨some 137, .pick (.tmp 130) (.con (.bool true)) (.tmp 136), none⟩, ⟨some 138, .mov (.tmp 137), none⟩, ⟨some 139, .load (some 2) (.tmp 11), some (138, false)⟩, ⟨some 140, .load (some 9) (.tmp 4), some (138, false)⟩, ⟨some 141, .load (some 2) (.tmp 19), some (138, false)⟩, ⟨some 142, .call (.con (.fn 23 [] [])) [(.tmp 140), (.tmp 141)], some (138, false)⟩, ⟨some 143, .call (.con (.fn 21 [] [])) [(.tmp 139), (.tmp 142)], some (138, false)⟩, ⟨some 144, .un .not (.tmp 143), some (138, false)⟩, ⟨some 145, .pick (.tmp 138) (.con (.bool true)) (.tmp 144), none⟩, ⟨some 146, .mov (.tmp 145), none⟩, ⟨some 147, .mov (.tmp 13), some (146, false)⟩, ⟨some 148, .mov (.tmp 20), some (146, false)⟩, ⟨some 149, .bin .geq (.tmp 148) (.con (.int .i64 0)), some (146, false)⟩, ⟨some 150, .mov (.tmp 149), some (146, false)⟩, ⟨some 151, .mov (.tmp 21), some (150, true)⟩, ⟨some 152, .bin .geq (.tmp 151) (.con (.int .i64 0)), some (150, true)⟩, ⟨some 153, .pick (.tmp 150) (.tmp 152) (.con (.bool false)), some (146, false)⟩, ⟨some 154, .call (.con (.fn 24 [] [])) [(.tmp 147), (.tmp 153)], some (146, false)⟩, ⟨some 155, .un .not (.tmp 154), some (146, false)⟩, ⟨some 156, .pick (.tmp 146) (.con (.bool true)) (.tmp 155), none⟩]) (.cond (.tmp 156) (.seq (.reg [⟨some 2, .mov (.con (.bool false)), none⟩]) .ret) .skip)) (.seq (.reg [⟨some 22, .mov (.con (.int .i64 0)), none⟩]) (.block 2 (.loop (.seq (.seq (.reg [⟨some 157, .mov (.tmp 22), none⟩, ⟨some 158, .mov (.tmp 15), none⟩, ⟨some 159, .len false (.tmp 158), none⟩, ⟨some 160, .bin .lss (.tmp 157) (.tmp 159), none⟩]) (.cond (.tmp 160) .skip (.exit 2))) (.seq (.block 3 (.seq (.dreg 11 [⟨some 163, .mov (.tmp 15), none⟩, ⟨some 164, .mov (.tmp 22), none⟩, ⟨some 165, .iaddr (.tmp 163) (.tmp 164) 1 none, none⟩, ⟨some 166, .load none (.tmp 165), none⟩, ⟨some 167, .load (some 9) (.tmp 4), none⟩, ⟨some 168, .mov (.tmp 5), none⟩, ⟨some 169, .mov (.tmp 22), none⟩, ⟨some 170, .iaddr (.tmp 168) (.tmp 169) 3 none, none⟩, ⟨some 171, .load (some 3) (.tmp 170), none⟩, ⟨some 172, .load (some 2) (.tmp 19), none⟩, ⟨some 173, .call (.con (.fn 25 [] [])) [(.tmp 167), (.tmp 171), (.tmp 172)], none⟩, ⟨some 174, .call (.con (.fn 24 [] [])) [(.tmp 166), (.tmp 173)], none⟩, ⟨some 175, .un .not (.tmp 174), none⟩]) (.cond (.tmp 175) (.seq (.reg [⟨some 2, .mov (.con (.bool false)), none⟩]) .ret) .skip))) (.reg [⟨some 161, .mov (.tmp 22), none⟩, ⟨some 162, .bin .add (.tmp 161) (.con (.int .i64 1)), none⟩, ⟨some 22, .mov (.tmp 162), none⟩])))))))))) (.reg [⟨some 89, .mov (.tmp 18), none⟩, ⟨some 90, .bin .add (.tmp 89) (.con (.int .i64 1)), none⟩, ⟨some 18, .mov (.tmp 90), none⟩])))))) (.seq (.reg [⟨some 176, .call (.con (.fn 26 [] [])) [], none⟩, ⟨some 2, .mov (.tmp 176), none⟩]) .ret)))))))))))))⟩
theorem comp3 : compFn Try.prog 3 = some F3 := by kernel_rfl
def F11 : AFn := ⟨1, 29, [.tmp 2], (.seq (.reg [⟨some 2, .mov (.con (.nilp)), none⟩]) (.seq (.reg [⟨some 5, .build [.int .u64 0] [(0, 1, (.con (.int .u64 2685821657736338717)))], none⟩, ⟨some 6, .box (.tmp 5), none⟩, ⟨some 3, .mov (.tmp 6), none⟩]) (.seq (.seq (.reg [⟨some 4, .mov (.con (.int .i64 0)), none⟩]) (.block 0 (.loop (.seq (.seq (.reg [⟨some 7, .mov (.tmp 4), none⟩, ⟨some 8, .mov (.tmp 0), none⟩, ⟨some 9, .len false (.tmp 8), none⟩, ⟨some 10, .bin .lss (.tmp 7) (.tmp 9), none⟩]) (.cond (.tmp 10) .skip (.exit 0))) (.seq (.block 1 (.seq (.dreg 11 [⟨some 13, .mov (.tmp 3), none⟩, ⟨some 14, .mov (.tmp 3), none⟩, ⟨some 15, .nilck (.tmp 14), none⟩, ⟨some 16, .faddr (.tmp 15) 0, none⟩, ⟨some 17, .load none (.tmp 16), none⟩, ⟨some 18, .mov (.tmp 0), none⟩, ⟨some 19, .mov (.tmp 4), none⟩, ⟨some 20, .iaddr (.tmp 18) (.tmp 19) 1 none, none⟩, ⟨some 21, .load none (.tmp 20), none⟩, ⟨some 22, .conv .u64 (.tmp 21), none⟩, ⟨some 23, .bin .xor (.tmp 17) (.tmp 22), none⟩, ⟨some 24, .nilck (.tmp 13), none⟩, ⟨some 25, .faddr (.tmp 24) 0, none⟩, ⟨none, .store 1 (.tmp 25) (.tmp 23), none⟩]) (.reg [⟨some 26, .mov (.tmp 3), none⟩, ⟨some 27, .call (.con (.fn 48 [] [])) [(.tmp 26)], none⟩]))) (.reg [⟨some 11, .mov (.tmp 4), none⟩, ⟨some 12, .bin .add (.tmp 11) (.con (.int .i64 1)), none⟩, ⟨some 4, .mov (.tmp 12), none⟩])))))) (.seq (.reg [⟨some 28, .mov (.tmp 3), none⟩, ⟨some 2, .mov (.tmp 28), none⟩]) .ret))))⟩
theorem comp11 : compFn Try.prog 11 = some F11 := by kernel_rfl
def F12 : AFn := ⟨2, 91, [.cell 4 (some 9)], (.seq (.reg [⟨some 4, .box (.con (.agg [.int .i64 0, .int .i64 0, .int .i64 0, .int .i64 0, .int .i64 0, .int .i64 0, .int .i64 0, .int .i64 0, .nils])), none⟩]) (.seq (.reg [⟨some 8, .mov (.tmp 0), none⟩, ⟨some 9, .mov (.tmp 0), none⟩, ⟨some 10, .bsl 1 false [.int .i64 0] 2 [(0, (.con (.int .i64 20))), (1, (.con (.int .i64 1200)))], none⟩, ⟨some 11, .call (.con (.fn 39 [] [])) [(.tmp 9), (.tmp 10)], none⟩, ⟨some 12, .call (.con (.fn 41 [] [])) [(.tmp 8), (.con (.int .i64 2)), (.tmp 11)], none⟩, ⟨some 13, .mov (.tmp 0), none⟩, ⟨some 14, .call (.con (.fn 41 [] [])) [(.tmp 13), (.con (.int .i64 1)), (.con (.int .i64 400))], none⟩, ⟨some 15, .mov (.tmp 0), none⟩, ⟨some 16, .mov (.tmp 0), none⟩, ⟨some 17, .call (.con (.fn 40 [] [])) [(.tmp 16), (.con (.int .i64 1500))], none⟩, ⟨some 18, .bsl 1 false [.int .i64 0] 2 [(0, (.con (.int .i64 0))), (1, (.tmp 17))], none⟩, ⟨some 19, .call (.con (.fn 39 [] [])) [(.tmp 15), (.tmp 18)], none⟩, ⟨some 20, .mov (.tmp 0), none⟩, ⟨some 21, .mov (.tmp 0), none⟩, ⟨some 22, .call (.con (.fn 40 [] [])) [(.tmp 21), (.con (.int .i64 5000))], none⟩, ⟨some 23, .bsl 1 false [.int .i64 0] 2 [(0, (.con (.int .i64 0))), (1, (.tmp 22))], none⟩, ⟨some 24, .call (.con (.fn 39 [] [])) [(.tmp 20), (.tmp 23)], none⟩, ⟨some 25, .mov (.tmp 0), none⟩, ⟨some 26, .call (.con (.fn 40 [] [])) [(.tmp 25), (.con (.int .i64 500))], none⟩, ⟨some 27, .build [.int .i64 0, .int .i64 0, .int .i64 0, .int .i64 0, .int .i64 0, .int .i64 0, .int .i64 0, .int .i64 0, .nils] [(0, 1, (.tmp 12)), (1, 1, (.tmp 14)), (4, 1, (.tmp 19)), (5, 1, (.tmp 24)), (7, 1, (.tmp 26))], none⟩, ⟨some 5, .box (.con (.agg [.int .i64 0, .int .i64 0, .int .i64 0, .int .i64 0, .int .i64 0, .int .i64 0, .int .i64 0, .int .i64 0, .nils])), none⟩, ⟨none, .store 9 (.tmp 5) (.tmp 27), none⟩]) (.seq (.reg [⟨some 28, .mov (.tmp 0), none⟩, ⟨some 29, .faddr (.tmp 5) 0, none⟩, ⟨some 30, .load none (.tmp 29), none⟩, ⟨some 31, .call (.con (.fn 40 [] [])) [(.tmp 28), (.tmp 30)], none⟩, ⟨some 32, .faddr (.tmp 5) 2, none⟩, ⟨none, .store 1 (.tmp 32) (.tmp 31), none⟩]) (.seq (.reg [⟨some 33, .mov (.tmp 0), none⟩, ⟨some 34, .faddr (.tmp 5) 2, none⟩, ⟨some 35, .load none (.tmp 34), none⟩, ⟨some 36, .bin .add (.tmp 35) (.con (.int .i64 1)), none⟩, ⟨some 37, .faddr (.tmp 5) 0, none⟩, ⟨some 38, .load none (.tmp 37), none⟩, ⟨some 39, .call (.con (.fn 41 [] [])) [(.tmp 33), (.tmp 36), (.tmp 38)], none⟩, ⟨some 40, .faddr (.tmp 5) 3, none⟩, ⟨none, .store 1 (.tmp 40) (.tmp 39), none⟩]) (.seq (.reg [⟨some 41, .mov (.tmp 0), none⟩, ⟨some 42, .faddr (.tmp 5) 0, none⟩, ⟨some 43, .load none (.tmp 42), none⟩, ⟨some 44, .call (.con (.fn 41 [] [])) [(.tmp 41), (.con (.int .i64 0)), (.tmp 43)], none⟩, ⟨some 45, .faddr (.tmp 5) 6, none⟩, ⟨none, .store 1 (.tmp 45) (.tmp 44), none⟩]) (.seq (.seq (.reg [⟨some 46, .mov (.tmp 0), none⟩, ⟨some 47, .mov (.tmp 1), none⟩, ⟨some 48, .bin .add (.tmp 47) (.con (.int .i64 1)), none⟩, ⟨some 49, .call (.con (.fn 40 [] [])) [(.tmp 46), (.tmp 48)], none⟩, ⟨some 6, .mov (.tmp 49), none⟩]) (.block 0 (.loop (.seq (.seq (.reg [⟨some 50, .mov (.tmp 6), none⟩, ⟨some 51, .bin .gtr (.tmp 50) (.con (.int .i64 0)), none⟩]) (.cond (.tmp 51) .skip (.exit 0))) (.seq (.block 1 (.seq (.reg [⟨some 54, .mov (.tmp 0), none⟩, ⟨some 55, .faddr (.tmp 5) 2, none⟩, ⟨some 56, .load none (.tmp 55), none⟩, ⟨some 57, .faddr (.tmp 5) 3, none⟩, ⟨some 58, .load none (.tmp 57), none⟩, ⟨some 59, .call (.con (.fn 41 [] [])) [(.tmp 54), (.tmp 56), (.tmp 58)], none⟩, ⟨some 60, .mov (.tmp 0), none⟩, ⟨some 61, .mov (.tmp 0), none⟩, ⟨some 62, .bsl 1 false [.int .i64 0] 2 [(0, (.con (.int .i64 5))), (1, (.con (.int .i64 900)))], none⟩, ⟨some 63, .call (.con (.fn 39 [] [])) [(.tmp 61), (.tmp 62)], none⟩, ⟨some 64, .call (.con (.fn 49 [] [])) [(.tmp 60), (.con (.int .i64 0)), (.tmp 63)], none⟩, ⟨some 65, .mov (.tmp 0), none⟩, ⟨some 66, .mov (.tmp 0), none⟩, ⟨some 67, .bsl 1 false [.int .i64 0] 2 [(0, (.con (.int .i64 20))), (1, (.con (.int .i64 700)))], none⟩, ⟨some 68, .call (.con (.fn 39 [] [])) [(.tmp 66), (.tmp 67)], none⟩, ⟨some 69, .call (.con (.fn 49 [] [])) [(.tmp 65), (.con (.int .i64 0)), (.tmp 68)], none⟩, ⟨some 70, .mov (.tmp 0), none⟩, ⟨some 71, .call (.con (.fn 41 [] [])) [(.tmp 70), (.con (.int .i64 1)), (.con (.int .i64 4))], none⟩, ⟨some 72, .build [.int .i64 0, .int .i64 0, .int .i64 0, .int .i64 0, .int .i64 0, .int .i64 0, .int .i64 0] [(0, 1, (.tmp 59)), (1, 2, (.tmp 64)), (3, 2, (.tmp 69)), (5, 1, (.tmp 71))], none⟩, ⟨some 7, .box (.con (.agg [.int .i64 0, .int .i64 0, .int .i64 0, .int .i64 0, .int .i64 0, .int .i64 0, .int .i64 0])), none⟩, ⟨none, .store 7 (.tmp 7) (.tmp 72), none⟩]) (.seq (.seq (.reg [⟨some 73, .faddr (.tmp 7) 5, none⟩, ⟨some 74, .load none (.tmp 73), none⟩, ⟨some 75, .bin .eql (.tmp 74) (.con (.int .i64 2)), none⟩, ⟨some 76, .mov (.tmp 75), none⟩, ⟨some 77, .faddr (.tmp 7) 5, some (76, false)⟩, ⟨some 78, .load none (.tmp 77), some (76, false)⟩, ⟨some 79, .bin .eql (.tmp 78) (.con (.int .i64 3)), some (76, false)⟩, ⟨some 80, .pick (.tmp 76) (.con (.bool true)) (.tmp 79), none⟩]) (.cond (.tmp 80) (.reg [⟨some 81, .mov (.tmp 0), none⟩, ⟨some 82, .call (.con (.fn 40 [] [])) [(.tmp 81), (.con (.int .i64 3000))], none⟩, ⟨some 83, .faddr (.tmp 7) 6, none⟩, ⟨none, .store 1 (.tmp 83) (.tmp 82), none⟩]) .skip)) (.reg [⟨some 84, .faddr (.tmp 5) 8, none⟩, ⟨some 85, .load none (.tmp 84), none⟩, ⟨some 86, .load (some 7) (.tmp 7), none⟩, ⟨some 87, .bsl 7 true [.int .i64 0, .int .i64 0, .int .i64 0, .int .i64 0, .int .i64 0, .int .i64 0, .int .i64 0] 1 [(0, (.tmp 86))], none⟩, ⟨some 88, .app (.tmp 85) (.tmp 87) 7 56 [.int .i64 0, .int .i64 0, .int .i64 0, .int .i64 0, .int .i64 0, .int .i64 0, .int .i64 0], none⟩, ⟨some 89, .faddr (.tmp 5) 8, none⟩, ⟨none, .store 1 (.tmp 89) (.tmp 88), none⟩])))) (.reg [⟨some 52, .mov (.tmp 6), none⟩, ⟨some 53, .bin .sub (.tmp 52) (.con (.int .i64 1)), none⟩, ⟨some 6, .mov (.tmp 53), none⟩])))))) (.seq (.reg [⟨some 90, .load (some 9) (.tmp 5), none⟩, ⟨none, .store 9 (.tmp 4) (.tmp 90), none⟩]) .ret)))))))⟩
theorem comp12 : compFn Try.prog 12 = some F12 := by kernel_rfl
def F13 : AFn := ⟨3, 103, [.tmp 6], (.seq (.reg [⟨some 4, .box (.tmp 1), none⟩, ⟨some 6, .mov (.con (.nils)), none⟩]) (.seq (.reg [⟨some 18, .load (some 9) (.tmp 4), none⟩, ⟨some 19, .call (.con (.fn 50 [] [])) [(.tmp 18)], none⟩, ⟨some 17, .mov (.tmp 19), none⟩, ⟨some 20, .ext (.tmp 17) 0, none⟩, ⟨some 21, .ext (.tmp 17) 1, none⟩, ⟨some 7, .box (.con (.agg [.int .i64 0, .int .i64 0])), none⟩, ⟨none, .store 2 (.tmp 7) (.tmp 20), none⟩, ⟨some 8, .mov (.tmp 21), none⟩]) (.seq (.reg [⟨some 23, .load (some 9) (.tmp 4), none⟩, ⟨some 24, .call (.con (.fn 51 [] [])) [(.tmp 23)], none⟩, ⟨some 22, .mov (.tmp 24), none⟩, ⟨some 25, .ext (.tmp 22) 0, none⟩, ⟨some 26, .ext (.tmp 22) 1, none⟩, ⟨some 27, .ext (.tmp 22) 2, none⟩, ⟨some 9, .box (.con (.agg [.int .i64 0, .int .i64 0])), none⟩, ⟨some 10, .box (.con (.agg [.int .i64 0, .int .i64 0])), none⟩, ⟨none, .store 2 (.tmp 9) (.tmp 25), none⟩, ⟨none, .store 2 (.tmp 10) (.tmp 26), none⟩, ⟨some 11, .mov (.tmp 27), none⟩]) (.seq (.reg [⟨some 29, .load (some 9) (.tmp 4), none⟩, ⟨some 30, .call (.con (.fn 52 [] [])) [(.tmp 29)], none⟩, ⟨some 28, .mov (.tmp 30), none⟩, ⟨some 31, .ext (.tmp 28) 0, none⟩, ⟨some 32, .ext (.tmp 28) 1, none⟩, ⟨some 12, .box (.con (.agg [.int .i64 0, .int .i64 0])), none⟩, ⟨none, .store 2 (.tmp 12) (.tmp 31), none⟩, ⟨some 13, .mov (.tmp 32), none⟩]) (.seq (.reg [⟨some 14, .mov (.con (.nils)), none⟩]) (.seq (.seq (.reg [⟨some 33, .mov (.tmp 0), none⟩, ⟨some 34, .mov (.tmp 2), none⟩, ⟨some 35, .bin .add (.tmp 34) (.con (.int .i64 1)), none⟩, ⟨some 36, .call (.con (.fn 40 [] [])) [(.tmp 33), (.tmp 35)], none⟩, ⟨some 15, .mov (.tmp 36), none⟩]) (.block 0 (.loop (.seq (.seq (.reg [⟨some 37, .mov (.tmp 15), none⟩, ⟨some 38, .bin .gtr (.tmp 37) (.con (.int .i64 0)), none⟩]) (.cond (.tmp 38) .skip (.exit 0))) (.seq (.block 1 (.seq (.reg [⟨some 41, .mov (.tmp 0), none⟩, ⟨some 42, .call (.con (.fn 41 [] [])) [(.tmp 41), (.con (.int .i64 1)), (.con (.int .i64 3))], none⟩, ⟨some 43, .build [.int .i64 0, .int .i64 0, .int .i64 0] [(0, 1, (.tmp 42))], none⟩, ⟨some 16, .box (.con (.agg [.int .i64 0, .int .i64 0, .int .i64 0])), none⟩, ⟨none, .store 3 (.tmp 16) (.tmp 43), none⟩]) (.seq (.seq (.reg [⟨some 44, .faddr (.tmp 16) 0, none⟩, ⟨some 45, .load none (.tmp 44), none⟩]) (.block 2 (.seq (.reg [⟨some 70, .bin .eql (.tmp 45) (.con (.int .i64 1)), none⟩, ⟨some 69, .mov (.tmp 70), none⟩]) (.cond (.tmp 69) (.seq (.reg [⟨some 71, .mov (.tmp 0), none⟩, ⟨some 72, .mov (.tmp 0), none⟩, ⟨some 73, .call (.con (.fn 40 [] [])) [(.tmp 72), (.con (.int .i64 2000))], none⟩, ⟨some 74, .bsl 1 false [.int .i64 0] 2 [(0, (.con (.int .i64 0))), (1, (.tmp 73))], none⟩, ⟨some 75, .call (.con (.fn 39 [] [])) [(.tmp 71), (.tmp 74)], none⟩, ⟨some 76, .faddr (.tmp 16) 1, none⟩, ⟨none, .store 1 (.tmp 76) (.tmp 75), none⟩]) (.dreg 7 [⟨some 77, .faddr (.tmp 16) 1, none⟩, ⟨some 78, .load none (.tmp 77), none⟩, ⟨some 79, .mov (.tmp 0), none⟩, ⟨some 80, .mov (.tmp 0), none⟩, ⟨some 81, .bsl 1 false [.int .i64 0] 2 [(0, (.con (.int .i64 300))), (1, (.con (.int .i64 2500)))], none⟩, ⟨some 82, .call (.con (.fn 39 [] [])) [(.tmp 80), (.tmp 81)], none⟩, ⟨some 83, .call (.con (.fn 41 [] [])) [(.tmp 79), (.con (.int .i64 1)), (.tmp 82)], none⟩, ⟨some 84, .bin .add (.tmp 78) (.tmp 83), none⟩, ⟨some 85, .faddr (.tmp 16) 2, none⟩, ⟨none, .store 1 (.tmp 85) (.tmp 84), none⟩])) (.seq (.reg [⟨some 87, .bin .eql (.tmp 45) (.con (.int .i64 2)), none⟩, ⟨some 86, .mov (.tmp 87), none⟩]) (.cond (.tmp 86) (.reg [⟨some 88, .mov (.tmp 0), none⟩, ⟨some 89, .load (some 2) (.tmp 12), none⟩, ⟨some 90, .call (.con (.fn 35 [] [])) [(.tmp 88), (.tmp 89)], none⟩, ⟨some 91, .mov (.tmp 0), none⟩, ⟨some 92, .bsl 1 false [.int .i64 0] 4 [(0, (.con (.int .i64 (-1)))), (1, (.con (.int .i64 0))), (2, (.con (.int .i64 1))), (3, (.con (.int .i64 50)))], none⟩, ⟨some 93, .call (.con (.fn 39 [] [])) [(.tmp 91), (.tmp 92)], none⟩, ⟨some 94, .bin .add (.tmp 90) (.tmp 93), none⟩, ⟨some 95, .mx (.con (.int .i64 0)) (.tmp 94), none⟩, ⟨some 96, .mn (.con (.int .i64 2000)) (.tmp 95), none⟩, ⟨some 97, .faddr (.tmp 16) 1, none⟩, ⟨none, .store 1 (.tmp 97) (.tmp 96), none⟩]) (.dreg 23 [⟨some 46, .mov (.tmp 0), none⟩, ⟨some 47, .load (some 2) (.tmp 7), none⟩, ⟨some 48, .call (.con (.fn 35 [] [])) [(.tmp 46), (.tmp 47)], none⟩, ⟨some 49, .mov (.tmp 0), none⟩, ⟨some 50, .bsl 1 false [.int .i64 0] 4 [(0, (.con (.int .i64 (-1)))), (1, (.con (.int .i64 0))), (2, (.con (.int .i64 1))), (3, (.con (.int .i64 300)))], none⟩, ⟨some 51, .call (.con (.fn 39 [] [])) [(.tmp 49), (.tmp 50)], none⟩, ⟨some 52, .bin .add (.tmp 48) (.tmp 51), none⟩, ⟨some 53, .mx (.con (.int .i64 0)) (.tmp 52), none⟩, ⟨some 54, .mov (.tmp 0), none⟩, ⟨some 55, .faddr (.tmp 7) 1, none⟩, ⟨some 56, .load none (.tmp 55), none⟩, ⟨some 57, .mov (.tmp 0), none⟩, ⟨some 58, .load (some 2) (.tmp 10), none⟩, ⟨some 59, .call (.con (.fn 35 [] [])) [(.tmp 57), (.tmp 58)], none⟩, ⟨some 60, .mov (.tmp 0), none⟩, ⟨some 61, .bsl 1 false [.int .i64 0] 3 [(0, (.con (.int .i64 (-1)))), (1, (.con (.int .i64 0))), (2, (.con (.int .i64 1)))], none⟩, ⟨some 62, .call (.con (.fn 39 [] [])) [(.tmp 60), (.tmp 61)], none⟩, ⟨some 63, .bin .add (.tmp 59) (.tmp 62), none⟩, ⟨some 64, .bsl 1 false [.int .i64 0] 2 [(0, (.tmp 56)), (1, (.tmp 63))], none⟩, ⟨some 65, .call (.con (.fn 39 [] [])) [(.tmp 54), (.tmp 64)], none⟩, ⟨some 66, .mx (.con (.int .i64 0)) (.tmp 65), none⟩, ⟨some 67, .faddr (.tmp 16) 1, none⟩, ⟨none, .store 1 (.tmp 67) (.tmp 53), none⟩, ⟨some 68, .faddr (.tmp 16) 2, none⟩, ⟨none, .store 1 (.tmp 68) (.tmp 66), none⟩]))))))) (.reg [⟨some 98, .mov (.tmp 14), none⟩, ⟨some 99, .load (some 3) (.tmp 16), none⟩, ⟨some 100, .bsl 3 true [.int .i64 0, .int .i64 0, .int .i64 0] 1 [(0, (.tmp 99))], none⟩, ⟨some 101, .app (.tmp 98) (.tmp 100) 3 24 [.int .i64 0, .int .i64 0, .int .i64 0], none⟩, ⟨some 14, .mov (.tmp 101), none⟩])))) (.reg [⟨some 39, .mov (.tmp 15), none⟩, ⟨some 40, .bin .sub (.tmp 39) (.con (.int .i64 1)), none⟩, ⟨some 15, .mov (.tmp 40), none⟩])))))) (.seq (.reg [⟨some 102, .mov (.tmp 14), none⟩, ⟨some 6, .mov (.tmp 102), none⟩]) .ret)))))))⟩
theorem comp13 : compFn Try.prog 13 = some F13 := by kernel_rfl
def F14 : AFn := ⟨1, 21, [.cell 2 (some 2), .tmp 3], (.seq (.reg [⟨some 1, .box (.tmp 0), none⟩, ⟨some 2, .box (.con (.agg [.int .i64 0, .int .i64 0])), none⟩, ⟨some 3, .mov (.con (.int .i64 0)), none⟩]) (.seq (.seq (.reg [⟨some 6, .load (some 9) (.tmp 1), none⟩, ⟨some 7, .call (.con (.fn 53 [] [])) [(.tmp 6)], none⟩, ⟨some 4, .mov (.tmp 7), none⟩]) (.seq (.reg [⟨some 8, .mov (.tmp 4), none⟩, ⟨some 9, .bin .neq (.tmp 8) (.con (.int .i64 0)), none⟩]) (.cond (.tmp 9) (.seq (.reg [⟨some 10, .build [.int .i64 0, .int .i64 0] [], none⟩, ⟨some 11, .mov (.tmp 4), none⟩, ⟨none, .store 2 (.tmp 2) (.tmp 10), none⟩, ⟨some 3, .mov (.tmp 11), none⟩]) .ret) .skip))) (.seq (.reg [⟨some 12, .load (some 9) (.tmp 1), none⟩, ⟨some 13, .call (.con (.fn 54 [] [])) [(.tmp 12)], none⟩, ⟨some 5, .box (.con (.agg [.int .i64 0, .int .i64 0, .int .i64 0, .int .i64 0, .int .i64 0, .int .i64 0, .int .i64 0, .int .i64 0, .nils, .int .i64 0, .int .i64 0, .int .i64 0, .int .i64 0, .int .i64 0, .int .i64 0, .int .i64 0, .int .i64 0, .int .i64 0, .int .i64 0, .int .i64 0, .int .i64 0, .int .i64 0, .int .i64 0, .int .i64 0, .int .i64 0, .int .i64 0, .int .i64 0, .int .i64 0, .int .i64 0, .int .i64 0, .int .i64 0, .int .i64 0, .int .i64 0, .int .i64 0, .int .i64 0, .int .i64 0, .int .i64 0, .int .i64 0, .int .i64 0, .int .i64 0, .int .i64 0, .int .i64 0, .int .i64 0, .int .i64 0, .int .i64 0, .int .i64 0, .int .i64 0, .int .i64 0, .int .i64 0, .int .i64 0, .int .i64 0, .int .i64 0, .int .i64 0, .int .i64 0, .int .i64 0, .int .i64 0, .int .i64 0, .int .i64 0, .int .i64 0, .nils, .int .i64 0, .int .i64 0, .int .i64 0, .int .i64 0, .int .i64 0, .int .i64 0, .int .i64 0, .int .i64 0, .int .i64 0, .int .i64 0, .int .i64 0, .int .i64 0, .int .i64 0, .int .i64 0, .int .i64 0, .int .i64 0, .int .i64 0, .int .i64 0, .int .i64 0, .int .i64 0, .int .i64 0, .int .i64 0, .int .i64 0, .int .i64 0, .int .i64 0, .int .i64 0, .int .i64 0, .int .i64 0, .int .i64 0, .int .i64 0, .int .i64 0, .int .i64 0, .int .i64 0, .int .i64 0, .int .i64 0, .int .i64 0, .int .i64 0, .int .i64 0, .int .i64 0, .int .i64 0, .int .i64 0, .int .i64 0])), none⟩, ⟨none, .store 102 (.tmp 5) (.tmp 13), none⟩]) (.seq (.dreg 5 [⟨some 14, .iaddr (.tmp 5) (.con (.int .i64 0)) 51 (some 2), none⟩, ⟨some 15, .load (some 51) (.tmp 14), none⟩, ⟨some 16, .call (.con (.fn 55 [] [])) [(.tmp 15)], none⟩, ⟨some 17, .iaddr (.tmp 5) (.con (.int .i64 1)) 51 (some 2), none⟩, ⟨some 18, .load (some 51) (.tmp 17), none⟩, ⟨some 19, .call (.con (.fn 55 [] [])) [(.tmp 18)], none⟩, ⟨some 20, .build [.int .i64 0, .int .i64 0] [(0, 1, (.tmp 16)), (1, 1, (.tmp 19))], none⟩, ⟨none, .store 2 (.tmp 2) (.tmp 20), none⟩, ⟨some 3, .mov (.con (.int .i64 0)), none⟩]) .ret))))⟩
theorem comp14 : compFn Try.prog 14 = some F14 := by kernel_rfl
def F15 : AFn := ⟨1, 42, [.cell 2 (some 2), .cell 3 (some 2), .tmp 4], (.seq (.reg [⟨some 1, .box (.tmp 0), none⟩, ⟨some 2, .box (.con (.agg [.int .i64 0, .int .i64 0])), none⟩, ⟨some 3, .box (.con (.agg [.int .i64 0, .int .i64 0])), none⟩, ⟨some 4, .mov (.con (.int .i64 0)), none⟩]) (.seq (.seq (.reg [⟨some 7, .load (some 9) (.tmp 1), none⟩, ⟨some 8, .call (.con (.fn 53 [] [])) [(.tmp 7)], none⟩, ⟨some 5, .mov (.tmp 8), none⟩]) (.seq (.reg [⟨some 9, .mov (.tmp 5), none⟩, ⟨some 10, .bin .neq (.tmp 9) (.con (.int .i64 0)), none⟩]) (.cond (.tmp 10) (.seq (.reg [⟨some 11, .build [.int .i64 0, .int .i64 0] [], none⟩, ⟨some 12, .build [.int .i64 0, .int .i64 0] [], none⟩, ⟨some 13, .mov (.tmp 5), none⟩, ⟨none, .store 2 (.tmp 2) (.tmp 11), none⟩, ⟨none, .store 2 (.tmp 3) (.tmp 12), none⟩, ⟨some 4, .mov (.tmp 13), none⟩]) .ret) .skip))) (.seq (.reg [⟨some 14, .load (some 9) (.tmp 1), none⟩, ⟨some 15, .call (.con (.fn 54 [] [])) [(.tmp 14)], none⟩, ⟨some 6, .box (.con (.agg [.int .i64 0, .int .i64 0, .int .i64 0, .int .i64 0, .int .i64 0, .int .i64 0, .int .i64 0, .int .i64 0, .nils, .int .i64 0, .int .i64 0, .int .i64 0, .int .i64 0, .int .i64 0, .int .i64 0, .int .i64 0, .int .i64 0, .int .i64 0, .int .i64 0, .int .i64 0, .int .i64 0, .int .i64 0, .int .i64 0, .int .i64 0, .int .i64 0, .int .i64 0, .int .i64 0, .int .i64 0, .int .i64 0, .int .i64 0, .int .i64 0, .int .i64 0, .int .i64 0, .int .i64 0, .int .i64 0, .int .i64 0, .int .i64 0, .int .i64 0, .int .i64 0, .int .i64 0, .int .i64 0, .int .i64 0, .int .i64 0, .int .i64 0, .int .i64 0, .int .i64 0, .int .i64 0, .int .i64 0, .int .i64 0, .int .i64 0, .int .i64 0, .int .i64 0, .int .i64 0, .int .i64 0, .int .i64 0, .int .i64 0, .int .i64 0, .int .i64 0, .int .i64 0, .nils, .int .i64 0, .int .i64 0, .int .i64 0, .int .i64 0, .int .i64 0, .int .i64 0, .int .i64 0, .int .i64 0, .int .i64 0, .int .i64 0, .int .i64 0, .int .i64 0, .int .i64 0, .int .i64 0, .int .i64 0, .int .i64 0, .int .i64 0, .int .i64 0, .int .i64 0, .int .i64 0, .int .i64 0, .int .i64 0, .int .i64 0, .int .i64 0, .int .i64 0, .int .i64 0, .int .i64 0, .int .i64 0, .int .i64 0, .int .i64 0, .int .i64 0, .int .i64 0, .int .i64 0, .int .i64 0, .int .i64 0, .int .i64 0, .int .i64 0, .int .i64 0, .int .i64 0, .int .i64 0, .int .i64 0, .int .i64 0])), none⟩, ⟨none, .store 102 (.tmp 6) (.tmp 15), none⟩]) (.seq (.dreg 11 [⟨some 16, .iaddr (.tmp 6) (.con (.int .i64 0)) 51 (some 2), none⟩, ⟨some 17, .load (some 51) (.tmp 16), none⟩, ⟨some 18, .call (.con (.fn 57 [] [])) [(.tmp 17)], none⟩, ⟨some 19, .iaddr (.tmp 6) (.con (.int .i64 1)) 51 (some 2), none⟩, ⟨some 20, .load (some 51) (.tmp 19), none⟩, ⟨some 21, .call (.con (.fn 57 [] [])) [(.tmp 20)], none⟩, ⟨some 22, .faddr (.tmp 1) 3, none⟩, ⟨some 23, .load none (.tmp 22), none⟩, ⟨some 24, .faddr (.tmp 1) 2, none⟩, ⟨some 25, .load none (.tmp 24), none⟩, ⟨some 26, .bin .sub (.tmp 23) (.tmp 25), none⟩, ⟨some 27, .call (.con (.fn 56 [] [])) [(.tmp 18), (.tmp 21), (.tmp 26)], none⟩, ⟨none, .store 2 (.tmp 2) (.tmp 27), none⟩]) (.seq (.dreg 11 [⟨some 28, .iaddr (.tmp 6) (.con (.int .i64 0)) 51 (some 2), none⟩, ⟨some 29, .load (some 51) (.tmp 28), none⟩, ⟨some 30, .call (.con (.fn 58 [] [])) [(.tmp 29)], none⟩, ⟨some 31, .iaddr (.tmp 6) (.con (.int .i64 1)) 51 (some 2), none⟩, ⟨some 32, .load (some 51) (.tmp 31), none⟩, ⟨some 33, .call (.con (.fn 58 [] [])) [(.tmp 32)], none⟩, ⟨some 34, .faddr (.tmp 1) 3, none⟩, ⟨some 35, .load none (.tmp 34), none⟩, ⟨some 36, .faddr (.tmp 1) 2, none⟩, ⟨some 37, .load none (.tmp 36), none⟩, ⟨some 38, .bin .sub (.tmp 35) (.tmp 37), none⟩, ⟨some 39, .call (.con (.fn 56 [] [])) [(.tmp 30), (.tmp 33), (.tmp 38)], none⟩, ⟨none, .store 2 (.tmp 3) (.tmp 39), none⟩]) (.seq (.dreg 3 [⟨some 40, .load (some 2) (.tmp 2), none⟩, ⟨some 41, .load (some 2) (.tmp 3), none⟩, ⟨none, .store 2 (.tmp 2) (.tmp 40), none⟩, ⟨none, .store 2 (.tmp 3) (.tmp 41), none⟩, ⟨some 4, .mov (.con (.int .i64 0)), none⟩]) .ret))))))⟩
theorem comp15 : compFn Try.prog 15 = some F15 := by kernel_rfl
def F16 : AFn := ⟨1, 21, [.cell 2 (some 2), .tmp 3], (.seq (.reg [⟨some 1, .box (.tmp 0), none⟩, ⟨some 2, .box (.con (.agg [.int .i64 0, .int .i64 0])), none⟩, ⟨some 3, .mov (.con (.int .i64 0)), none⟩]) (.seq (.seq (.reg [⟨some 6, .load (some 9) (.tmp 1), none⟩, ⟨some 7, .call (.con (.fn 53 [] [])) [(.tmp 6)], none⟩, ⟨some 4, .mov (.tmp 7), none⟩]) (.seq (.reg [⟨some 8, .mov (.tmp 4), none⟩, ⟨some 9, .bin .neq (.tmp 8) (.con (.int .i64 0)), none⟩]) (.cond (.tmp 9) (.seq (.reg [⟨some 10, .build [.int .i64 0, .int .i64 0] [], none⟩, ⟨some 11, .mov (.tmp 4), none⟩, ⟨none, .store 2 (.tmp 2) (.tmp 10), none⟩, ⟨some 3, .mov (.tmp 11), none⟩]) .ret) .skip))) (.seq (.reg [⟨some 12, .load (some 9) (.tmp 1), none⟩, ⟨some 13, .call (.con (.fn 54 [] [])) [(.tmp 12)], none⟩, ⟨some 5, .box (.con (.agg [.int .i64 0, .int .i64 0, .int .i64 0, .int .i64 0, .int .i64 0, .int .i64 0, .int .i64 0, .int .i64 0, .nils, .int .i64 0, .int .i64 0, .int .i64 0, .int .i64 0, .int .i64 0, .int .i64 0, .int .i64 0, .int .i64 0, .int .i64 0, .int .i64 0, .int .i64 0, .int .i64 0, .int .i64 0, .int .i64 0, .int .i64 0, .int .i64 0, .int .i64 0, .int .i64 0, .int .i64 0, .int .i64 0, .int .i64 0, .int .i64 0, .int .i64 0, .int .i64 0, .int .i64 0, .int .i64 0, .int .i64 0, .int .i64 0, .int .i64 0, .int .i64 0, .int .i64 0, .int .i64 0, .int .i64 0, .int .i64 0, .int .i64 0, .int .i64 0, .int .i64 0, .int .i64 0, .int .i64 0, .int .i64 0, .int .i64 0, .int .i64 0, .int .i64 0, .int .i64 0, .int .i64 0, .int .i64 0, .int .i64 0, .int .i64 0, .int .i64 0, .int .i64 0, .nils, .int .i64 0, .int .i64 0, .int .i64 0, .int .i64 0, .int .i64 0, .int .i64 0, .int .i64 0, .int .i64 0, .int .i64 0, .int .i64 0, .int .i64 0, .int .i64 0, .int .i64 0, .int .i64 0, .int .i64 0, .int .i64 0, .int .i64 0, .int .i64 0, .int .i64 0, .int .i64 0, .int .i64 0, .int .i64 0, .int .i64 0, .int .i64 0, .int .i64 0, .int .i64 0, .int .i64 0, .int .i64 0, .int .i64 0, .int .i64 0, .int .i64 0, .int .i64 0, .int .i64 0, .int .i64 0, .int .i64 0, .int .i64 0, .int .i64 0, .int .i64 0, .int .i64 0, .int .i64 0, .int .i64 0, .int .i64 0])), none⟩, ⟨none, .store 102 (.tmp 5) (.tmp 13), none⟩]) (.seq (.dreg 5 [⟨some 14, .iaddr (.tmp 5) (.con (.int .i64 0)) 51 (some 2), none⟩, ⟨some 15, .load (some 51) (.tmp 14), none⟩, ⟨some 16, .call (.con (.fn 59 [] [])) [(.tmp 15)], none⟩, ⟨some 17, .iaddr (.tmp 5) (.con (.int .i64 1)) 51 (some 2), none⟩, ⟨some 18, .load (some 51) (.tmp 17), none⟩, ⟨some 19, .call (.con (.fn 59 [] [])) [(.tmp 18)], none⟩, ⟨some 20, .build [.int .i64 0, .int .i64 0] [(0, 1, (.tmp 16)), (1, 1, (.tmp 19))], none⟩, ⟨none, .store 2 (.tmp 2) (.tmp 20), none⟩, ⟨some 3, .mov (.con (.int .i64 0)), none⟩]) .ret))))⟩
theorem comp16 : compFn Try.prog 16 = some F16 := by kernel_rfl
def F17 : AFn := ⟨1, 20, [.tmp 2, .tmp 3], (.seq (.reg [⟨some 1, .box (.tmp 0), none⟩, ⟨some 2, .mov (.con (.int .i64 0)), none⟩, ⟨some 3, .mov (.con (.int .i64 0)), none⟩]) (.seq (.seq (.reg [⟨some 6, .load (some 9) (.tmp 1), none⟩, ⟨some 7, .call (.con (.fn 53 [] [])) [(.tmp 6)], none⟩, ⟨some 4, .mov (.tmp 7), none⟩]) (.seq (.reg [⟨some 8, .mov (.tmp 4), none⟩, ⟨some 9, .bin .neq (.tmp 8) (.con (.int .i64 0)), none⟩]) (.cond (.tmp 9) (.seq (.reg [⟨some 10, .mov (.tmp 4), none⟩, ⟨some 2, .mov (.con (.int .i64 0)), none⟩, ⟨some 3, .mov (.tmp 10), none⟩]) .ret) .skip))) (.seq (.reg [⟨some 11, .load (some 9) (.tmp 1), none⟩, ⟨some 12, .call (.con (.fn 54 [] [])) [(.tmp 11)], none⟩, ⟨some 5, .box (.con (.agg [.int .i64 0, .int .i64 0, .int .i64 0, .int .i64 0, .int .i64 0, .int .i64 0, .int .i64 0, .int .i64 0, .nils, .int .i64 0, .int .i64 0, .int .i64 0, .int .i64 0, .int .i64 0, .int .i64 0, .int .i64 0, .int .i64 0, .int .i64 0, .int .i64 0, .int .i64 0, .int .i64 0, .int .i64 0, .int .i64 0, .int .i64 0, .int .i64 0, .int .i64 0, .int .i64 0, .int .i64 0, .int .i64 0, .int .i64 0, .int .i64 0, .int .i64 0, .int .i64 0, .int .i64 0, .int .i64 0, .int .i64 0, .int .i64 0, .int .i64 0, .int .i64 0, .int .i64 0, .int .i64 0, .int .i64 0, .int .i64 0, .int .i64 0, .int .i64 0, .int .i64 0, .int .i64 0, .int .i64 0, .int .i64 0, .int .i64 0, .int .i64 0, .int .i64 0, .int .i64 0, .int .i64 0, .int .i64 0, .int .i64 0, .int .i64 0, .int .i64 0, .int .i64 0, .nils, .int .i64 0, .int .i64 0, .int .i64 0, .int .i64 0, .int .i64 0, .int .i64 0, .int .i64 0, .int .i64 0, .int .i64 0, .int .i64 0, .int .i64 0, .int .i64 0, .int .i64 0, .int .i64 0, .int .i64 0, .int .i64 0, .int .i64 0, .int .i64 0, .int .i64 0, .int .i64 0, .int .i64 0, .int .i64 0, .int .i64 0, .int .i64 0, .int .i64 0, .int .i64 0, .int .i64 0, .int .i64 0, .int .i64 0, .int .i64 0, .int .i64 0, .int .i64 0, .int .i64 0, .int .i64 0, .int .i64 0, .int .i64 0, .int .i64 0, .int .i64 0, .int .i64 0, .int .i64 0, .int .i64 0, .int .i64 0])), none⟩, ⟨none, .store 102 (.tmp 5) (.tmp 12), none⟩]) (.seq (.dreg 5 [⟨some 13, .iaddr (.tmp 5) (.con (.int .i64 0)) 51 (some 2), none⟩, ⟨some 14, .load (some 51) (.tmp 13), none⟩, ⟨some 15, .call (.con (.fn 61 [] [])) [(.tmp 14)], none⟩, ⟨some 16, .iaddr (.tmp 5) (.con (.int .i64 1)) 51 (some 2), none⟩, ⟨some 17, .load (some 51) (.tmp 16), none⟩, ⟨some 18, .call (.con (.fn 61 [] [])) [(.tmp 17)], none⟩, ⟨some 19, .call (.con (.fn 60 [] [])) [(.tmp 15), (.tmp 18)], none⟩, ⟨some 2, .mov (.tmp 19), none⟩, ⟨some 3, .mov (.con (.int .i64 0)), none⟩]) .ret))))⟩
theorem comp17 : compFn Try.prog 17 = some F17 := by kernel_rfl
def F18 : AFn := ⟨2, 16, [.tmp 4, .tmp 5], (.seq (.reg [⟨some 2, .box (.tmp 0), none⟩, ⟨some 4, .mov (.con (.nils)), none⟩, ⟨some 5, .mov (.con (.int .i64 0)), none⟩]) (.seq (.seq (.reg [⟨some 7, .load (some 9) (.tmp 2), none⟩, ⟨some 8, .mov (.tmp 1), none⟩, ⟨some 9, .call (.con (.fn 62 [] [])) [(.tmp 7), (.tmp 8)], none⟩, ⟨some 6, .mov (.tmp 9), none⟩]) (.seq (.reg [⟨some 10, .mov (.tmp 6), none⟩, ⟨some 11, .bin .neq (.tmp 10) (.con (.int .i64 0)), none⟩]) (.cond (.tmp 11) (.seq (.reg [⟨some 12, .mov (.tmp 6), none⟩, ⟨some 4, .mov (.con (.nils)), none⟩, ⟨some 5, .mov (.tmp 12), none⟩]) .ret) .skip))) (.seq (.reg [⟨some 13, .load (some 9) (.tmp 2), none⟩, ⟨some 14, .mov (.tmp 1), none⟩, ⟨some 15, .call (.con (.fn 63 [] [])) [(.tmp 13), (.tmp 14)], none⟩, ⟨some 4, .mov (.tmp 15), none⟩, ⟨some 5, .mov (.con (.int .i64 0)), none⟩]) .ret)))⟩
theorem comp18 : compFn Try.prog 18 = some F18 := by kernel_rfl
def F19 : AFn := ⟨2, 41, [.cell 4 (some 2)], (.seq (.reg [⟨some 3, .box (.tmp 1), none⟩, ⟨some 4, .box (.con (.agg [.nils, .nils])), none⟩]) (.seq (.reg [⟨some 5, .box (.con (.agg [.nils, .nils])), none⟩]) (.seq (.seq (.reg [⟨some 6, .mov (.con (.int .i64 0)), none⟩]) (.block 0 (.loop (.seq (.seq (.reg [⟨some 7, .mov (.tmp 6), none⟩, ⟨some 8, .faddr (.tmp 3) 8, none⟩, ⟨some 9, .load none (.tmp 8), none⟩, ⟨some 10, .len false (.tmp 9), none⟩, ⟨some 11, .bin .lss (.tmp 7) (.tmp 10), none⟩]) (.cond (.tmp 11) .skip (.exit 0))) (.seq (.block 1 (.dreg 25 [⟨some 14, .faddr (.tmp 5) 0, none⟩, ⟨some 15, .load none (.tmp 14), none⟩, ⟨some 16, .mov (.tmp 0), none⟩, ⟨some 17, .faddr (.tmp 3) 8, none⟩, ⟨some 18, .load none (.tmp 17), none⟩, ⟨some 19, .mov (.tmp 6), none⟩, ⟨some 20, .iaddr (.tmp 18) (.tmp 19) 7 none, none⟩, ⟨some 21, .faddr (.tmp 20) 1, none⟩, ⟨some 22, .load (some 2) (.tmp 21), none⟩, ⟨some 23, .call (.con (.fn 35 [] [])) [(.tmp 16), (.tmp 22)], none⟩, ⟨some 24, .bsl 1 false [.int .i64 0] 1 [(0, (.tmp 23))], none⟩, ⟨some 25, .app (.tmp 15) (.tmp 24) 1 8 [.int .i64 0], none⟩, ⟨some 26, .faddr (.tmp 5) 1, none⟩, ⟨some 27, .load none (.tmp 26), none⟩, ⟨some 28, .mov (.tmp 0), none⟩, ⟨some 29, .faddr (.tmp 3) 8, none⟩, ⟨some 30, .load none (.tmp 29), none⟩, ⟨some 31, .mov (.tmp 6), none⟩, ⟨some 32, .iaddr (.tmp 30) (.tmp 31) 7 none, none⟩, ⟨some 33, .faddr (.tmp 32) 3, none⟩, ⟨some 34, .load (some 2) (.tmp 33), none⟩, ⟨some 35, .call (.con (.fn 35 [] [])) [(.tmp 28), (.tmp 34)], none⟩, ⟨some 36, .bsl 1 false [.int .i64 0] 1 [(0, (.tmp 35))], none⟩, ⟨some 37, .app (.tmp 27) (.tmp 36) 1 8 [.int .i64 0], none⟩, ⟨some 38, .faddr (.tmp 5) 0, none⟩, ⟨none, .store 1 (.tmp 38) (.tmp 25), none⟩, ⟨some 39, .faddr (.tmp 5) 1, none⟩, ⟨none, .store 1 (.tmp 39) (.tmp 37), none⟩])) (.reg [⟨some 12, .mov (.tmp 6), none⟩, ⟨some 13, .bin .add (.tmp 12) (.con (.int .i64 1)), none⟩, ⟨some 6, .mov (.tmp 13), none⟩])))))) (.seq (.reg [⟨some 40, .load (some 2) (.tmp 5), none⟩, ⟨none, .store 2 (.tmp 4) (.tmp 40), none⟩]) .ret))))⟩
theorem comp19 : compFn Try.prog 19 = some F19 := by kernel_rfl
def F20 : AFn := ⟨2, 65, [.tmp 4, .tmp 5], (.seq (.reg [⟨some 2, .box (.tmp 0), none⟩, ⟨some 3, .box (.tmp 1), none⟩, ⟨some 4, .mov (.con (.int .i64 0)), none⟩, ⟨some 5, .mov (.con (.int .i64 0)), none⟩]) (.seq (.dreg 17 [⟨some 10, .faddr (.tmp 2) 5, none⟩, ⟨some 11, .load none (.tmp 10), none⟩, ⟨some 12, .faddr (.tmp 2) 3, none⟩, ⟨some 13, .load none (.tmp 12), none⟩, ⟨some 14, .faddr (.tmp 2) 6, none⟩, ⟨some 15, .load none (.tmp 14), none⟩, ⟨some 16, .bin .sub (.tmp 13) (.tmp 15), none⟩, ⟨some 17, .bin .mul (.tmp 11) (.tmp 16), none⟩, ⟨some 18, .faddr (.tmp 2) 5, none⟩, ⟨some 19, .load none (.tmp 18), none⟩, ⟨some 20, .faddr (.tmp 2) 6, none⟩, ⟨some 21, .load none (.tmp 20), none⟩, ⟨some 22, .faddr (.tmp 2) 2, none⟩, ⟨some 23, .load none (.tmp 22), none⟩, ⟨some 24, .bin .sub (.tmp 21) (.tmp 23), none⟩, ⟨some 25, .bin .mul (.tmp 19) (.tmp 24), none⟩, ⟨some 6, .mov (.tmp 17), none⟩, ⟨some 7, .mov (.tmp 25), none⟩]) (.seq (.seq (.reg [⟨some 8, .mov (.con (.int .i64 0)), none⟩]) (.block 0 (.loop (.seq (.seq (.reg [⟨some 26, .mov (.tmp 8), none⟩, ⟨some 27, .faddr (.tmp 3) 0, none⟩, ⟨some 28, .load none (.tmp 27), none⟩, ⟨some 29, .len false (.tmp 28), none⟩, ⟨some 30, .bin .lss (.tmp 26) (.tmp 29), none⟩]) (.cond (.tmp 30) .skip (.exit 0))) (.seq (.block 1 (.seq (.reg [⟨some 33, .faddr (.tmp 2) 8, none⟩, ⟨some 34, .load none (.tmp 33), none⟩, ⟨some 35, .mov (.tmp 8), none⟩, ⟨some 36, .iaddr (.tmp 34) (.tmp 35) 7 none, none⟩, ⟨some 37, .faddr (.tmp 36) 0, none⟩, ⟨some 38, .load none (.tmp 37), none⟩, ⟨some 9, .mov (.tmp 38), none⟩]) (.dreg 25 [⟨some 39, .mov (.tmp 6), none⟩, ⟨some 40, .faddr (.tmp 3) 0, none⟩, ⟨some 41, .load none (.tmp 40), none⟩, ⟨some 42, .mov (.tmp 8), none⟩, ⟨some 43, .iaddr (.tmp 41) (.tmp 42) 1 none, none⟩, ⟨some 44, .load none (.tmp 43), none⟩, ⟨some 45, .faddr (.tmp 2) 3, none⟩, ⟨some 46, .load none (.tmp 45), none⟩, ⟨some 47, .mov (.tmp 9), none⟩, ⟨some 48, .bin .sub (.tmp 46) (.tmp 47), none⟩, ⟨some 49, .bin .mul (.tmp 44) (.tmp 48), none⟩, ⟨some 50, .bin .add (.tmp 39) (.tmp 49), none⟩, ⟨some 51, .mov (.tmp 7), none⟩, ⟨some 52, .faddr (.tmp 3) 0, none⟩, ⟨some 53, .load none (.tmp 52), none⟩, ⟨some 54, .mov (.tmp 8), none⟩, ⟨some 55, .iaddr (.tmp 53) (.tmp 54) 1 none, none⟩, ⟨some 56, .load none (.tmp 55), none⟩, ⟨some 57, .mov (.tmp 9), none⟩, ⟨some 58, .faddr (.tmp 2) 2, none⟩, ⟨some 59, .load none (.tmp 58), none⟩, ⟨some 60, .bin .sub (.tmp 57) (.tmp 59), none⟩, ⟨some 61, .bin .mul (.tmp 56) (.tmp 60), none⟩, ⟨some 62, .bin .add (.tmp 51) (.tmp 61), none⟩, ⟨some 6, .mov (.tmp 50), none⟩, ⟨some 7, .mov (.tmp 62), none⟩]))) (.reg [⟨some 31, .mov (.tmp 8), none⟩, ⟨some 32, .bin .add (.tmp 31) (.con (.int .i64 1)), none⟩, ⟨some 8, .mov (.tmp 32), none⟩])))))) (.seq (.reg [⟨some 63, .mov (.tmp 6), none⟩, ⟨some 64, .mov (.tmp 7), none⟩, ⟨some 4, .mov (.tmp 63), none⟩, ⟨some 5, .mov (.tmp 64), none⟩]) .ret))))⟩
theorem comp20 : compFn Try.prog 20 = some F20 := by kernel_rfl
def F21 : AFn := ⟨2, 15, [.tmp 4], (.seq (.reg [⟨some 2, .box (.tmp 0), none⟩, ⟨some 4, .mov (.con (.bool false)), none⟩]) (.seq (.reg [⟨some 5, .faddr (.tmp 2) 0, none⟩, ⟨some 6, .load none (.tmp 5), none⟩, ⟨some 7, .mov (.tmp 1), none⟩, ⟨some 8, .bin .leq (.tmp 6) (.tmp 7), none⟩, ⟨some 9, .mov (.tmp 8), none⟩, ⟨some 10, .mov (.tmp 1), some (9, true)⟩, ⟨some 11, .faddr (.tmp 2) 1, some (9, true)⟩, ⟨some 12, .load none (.tmp 11), some (9, true)⟩, ⟨some 13, .bin .leq (.tmp 10) (.tmp 12), some (9, true)⟩, ⟨some 14, .pick (.tmp 9) (.tmp 13) (.con (.bool false)), none⟩, ⟨some 4, .mov (.tmp 14), none⟩]) .ret))⟩
theorem comp21 : compFn Try.prog 21 = some F21 := by kernel_rfl
def F22 : AFn := ⟨2, 24, [.tmp 4], (.seq (.reg [⟨some 2, .box (.tmp 0), none⟩, ⟨some 3, .box (.tmp 1), none⟩, ⟨some 4, .mov (.con (.int .i64 0)), none⟩]) (.seq (.reg [⟨some 7, .faddr (.tmp 2) 5, none⟩, ⟨some 8, .load none (.tmp 7), none⟩, ⟨some 5, .mov (.tmp 8), none⟩]) (.seq (.seq (.reg [⟨some 6, .mov (.con (.int .i64 0)), none⟩]) (.block 0 (.loop (.seq (.seq (.reg [⟨some 9, .mov (.tmp 6), none⟩, ⟨some 10, .faddr (.tmp 3) 0, none⟩, ⟨some 11, .load none (.tmp 10), none⟩, ⟨some 12, .len false (.tmp 11), none⟩, ⟨some 13, .bin .lss (.tmp 9) (.tmp 12), none⟩]) (.cond (.tmp 13) .skip (.exit 0))) (.seq (.block 1 (.reg [⟨some 16, .mov (.tmp 5), none⟩, ⟨some 17, .faddr (.tmp 3) 0, none⟩, ⟨some 18, .load none (.tmp 17), none⟩, ⟨some 19, .mov (.tmp 6), none⟩, ⟨some 20, .iaddr (.tmp 18) (.tmp 19) 1 none, none⟩, ⟨some 21, .load none (.tmp 20), none⟩, ⟨some 22, .bin .add (.tmp 16) (.tmp 21), none⟩, ⟨some 5, .mov (.tmp 22), none⟩])) (.reg [⟨some 14, .mov (.tmp 6), none⟩, ⟨some 15, .bin .add (.tmp 14) (.con (.int .i64 1)), none⟩, ⟨some 6, .mov (.tmp 15), none⟩])))))) (.seq (.reg [⟨some 23, .mov (.tmp 5), none⟩, ⟨some 4, .mov (.tmp 23), none⟩]) .ret))))⟩
theorem comp22 : compFn Try.prog 22 = some F22 := by kernel_rfl
def F23 : AFn := ⟨2, 24, [.tmp 4], (.seq (.reg [⟨some 2, .box (.tmp 0), none⟩, ⟨some 3, .box (.tmp 1), none⟩, ⟨some 4, .mov (.con (.int .i64 0)), none⟩]) (.seq (.reg [⟨some 7, .faddr (.tmp 2) 7, none⟩, ⟨some 8, .load none (.tmp 7), none⟩, ⟨some 5, .mov (.tmp 8), none⟩]) (.seq (.seq (.reg [⟨some 6, .mov (.con (.int .i64 0)), none⟩]) (.block 0 (.loop (.seq (.seq (.reg [⟨some 9, .mov (.tmp 6), none⟩, ⟨some 10, .faddr (.tmp 3) 1, none⟩, ⟨some 11, .load none (.tmp 10), none⟩, ⟨some 12, .len false (.tmp 11), none⟩, ⟨some 13, .bin .lss (.tmp 9) (.tmp 12), none⟩]) (.cond (.tmp 13) .skip (.exit 0))) (.seq (.block 1 (.reg [⟨some 16, .mov (.tmp 5), none⟩, ⟨some 17, .faddr (.tmp 3) 1, none⟩, ⟨some 18, .load none (.tmp 17), none⟩, ⟨some 19, .mov (.tmp 6), none⟩, ⟨some 20, .iaddr (.tmp 18) (.tmp 19) 1 none, none⟩, ⟨some 21, .load none (.tmp 20), none⟩, ⟨some 22, .mx (.tmp 16) (.tmp 21), none⟩, ⟨some 5, .mov (.tmp 22), none⟩])) (.reg [⟨some 14, .mov (.tmp 6), none⟩, ⟨some 15, .bin .add (.tmp 14) (.con (.int .i64 1)), none⟩, ⟨some 6, .mov (.tmp 15), none⟩])))))) (.seq (.reg [⟨some 23, .mov (.tmp 5), none⟩, ⟨some 4, .mov (.tmp 23), none⟩]) .ret))))⟩
theorem comp23 : compFn Try.prog 23 = some F23 := by kernel_rfl
def F24 : AFn := ⟨2, 22, [.tmp 4], (.seq (.reg [⟨some 4, .mov (.con (.bool false)), none⟩]) (.seq (.reg [⟨some 5, .mov (.tmp 0), none⟩, ⟨some 6, .bin .eql (.tmp 5) (.con (.int .i64 3)), none⟩, ⟨some 7, .mov (.tmp 6), none⟩, ⟨some 8, .mov (.tmp 0), some (7, false)⟩, ⟨some 9, .bin .eql (.tmp 8) (.con (.int .i64 1)), some (7, false)⟩, ⟨some 10, .mov (.tmp 9), some (7, false)⟩, ⟨some 11, .mov (.tmp 1), some (10, true)⟩, ⟨some 12, .pick (.tmp 10) (.tmp 11) (.con (.bool false)), some (7, false)⟩, ⟨some 13, .pick (.tmp 7) (.con (.bool true)) (.tmp 12), none⟩, ⟨some 14, .mov (.tmp 13), none⟩, ⟨some 15, .mov (.tmp 0), some (14, false)⟩, ⟨some 16, .bin .eql (.tmp 15) (.con (.int .i64 2)), some (14, false)⟩, ⟨some 17, .mov (.tmp 16), some (14, false)⟩, ⟨some 18, .mov (.tmp 1), some (17, true)⟩, ⟨some 19, .un .not (.tmp 18), some (17, true)⟩, ⟨some 20, .pick (.tmp 17) (.tmp 19) (.con (.bool false)), some (14, false)⟩, ⟨some 21, .pick (.tmp 14) (.con (.bool true)) (.tmp 20), none⟩, ⟨some 4, .mov (.tmp 21), none⟩]) .ret))⟩
theorem comp24 : compFn Try.prog 24 = some F24 := by kernel_rfl
def F25 : AFn := ⟨3, 68, [.tmp 6], (.seq (.reg [⟨some 3, .box (.tmp 0), none⟩, ⟨some 4, .box (.tmp 1), none⟩, ⟨some 5, .box (.tmp 2), none⟩, ⟨some 6, .mov (.con (.bool false)), none⟩]) (.seq (.seq (.reg [⟨some 10, .faddr (.tmp 4) 0, none⟩, ⟨some 11, .load none (.tmp 10), none⟩]) (.block 0 (.seq (.reg [⟨some 13, .bin .eql (.tmp 11) (.con (.int .i64 1)), none⟩, ⟨some 12, .mov (.tmp 13), none⟩]) (.cond (.tmp 12) (.seq (.dreg 12 [⟨some 14, .load (some 9) (.tmp 3), none⟩, ⟨some 15, .load (some 3) (.tmp 4), none⟩, ⟨some 16, .faddr (.tmp 3) 4, none⟩, ⟨some 17, .load none (.tmp 16), none⟩, ⟨some 18, .faddr (.tmp 4) 1, none⟩, ⟨some 19, .load none (.tmp 18), none⟩, ⟨some 20, .bin .mul (.con (.int .i64 2)) (.tmp 19), none⟩, ⟨some 21, .faddr (.tmp 3) 1, none⟩, ⟨some 22, .load none (.tmp 21), none⟩, ⟨some 23, .bin .add (.tmp 20) (.tmp 22), none⟩, ⟨some 24, .call (.con (.fn 33 [] [])) [(.tmp 23), (.con (.int .i64 2))], none⟩, ⟨some 25, .mx (.tmp 17) (.tmp 24), none⟩, ⟨some 26, .call (.con (.fn 42 [] [])) [(.tmp 14), (.tmp 15), (.tmp 25)], none⟩, ⟨some 6, .mov (.tmp 26), none⟩]) .ret) (.seq (.reg [⟨some 28, .bin .eql (.tmp 11) (.con (.int .i64 2)), none⟩, ⟨some 27, .mov (.tmp 28), none⟩]) (.cond (.tmp 27) (.seq (.dreg 5 [⟨some 29, .load (some 9) (.tmp 3), none⟩, ⟨some 30, .load (some 2) (.tmp 5), none⟩, ⟨some 31, .call (.con (.fn 23 [] [])) [(.tmp 29), (.tmp 30)], none⟩, ⟨some 32, .faddr (.tmp 4) 1, none⟩, ⟨some 33, .load none (.tmp 32), none⟩, ⟨some 34, .bin .leq (.tmp 31) (.tmp 33), none⟩, ⟨some 6, .mov (.tmp 34), none⟩]) .ret) .skip)))))) (.seq (.reg [⟨some 36, .load (some 9) (.tmp 3), none⟩, ⟨some 37, .load (some 2) (.tmp 5), none⟩, ⟨some 38, .call (.con (.fn 20 [] [])) [(.tmp 36), (.tmp 37)], none⟩, ⟨some 35, .mov (.tmp 38), none⟩, ⟨some 39, .ext (.tmp 35) 0, none⟩, ⟨some 40, .ext (.tmp 35) 1, none⟩, ⟨some 7, .mov (.tmp 39), none⟩, ⟨some 8, .mov (.tmp 40), none⟩]) (.seq (.reg [⟨some 41, .faddr (.tmp 3) 3, none⟩, ⟨some 42, .load none (.tmp 41), none⟩, ⟨some 43, .faddr (.tmp 3) 2, none⟩, ⟨some 44, .load none (.tmp 43), none⟩, ⟨some 45, .bin .sub (.tmp 42) (.tmp 44), none⟩, ⟨some 9, .mov (.tmp 45), none⟩]) (.seq (.dreg 20 [⟨some 46, .load (some 9) (.tmp 3), none⟩, ⟨some 47, .load (some 2) (.tmp 5), none⟩, ⟨some 48, .call (.con (.fn 22 [] [])) [(.tmp 46), (.tmp 47)], none⟩, ⟨some 49, .faddr (.tmp 4) 1, none⟩, ⟨some 50, .load none (.tmp 49), none⟩, ⟨some 51, .bin .leq (.tmp 48) (.tmp 50), none⟩, ⟨some 52, .mov (.tmp 51), none⟩, ⟨some 53, .mov (.tmp 7), some (52, true)⟩, ⟨some 54, .faddr (.tmp 4) 2, some (52, true)⟩, ⟨some 55, .load none (.tmp 54), some (52, true)⟩, ⟨some 56, .mov (.tmp 9), some (52, true)⟩, ⟨some 57, .bin .mul (.tmp 55) (.tmp 56), some (52, true)⟩, ⟨some 58, .bin .leq (.tmp 53) (.tmp 57), some (52, true)⟩, ⟨some 59, .pick (.tmp 52) (.tmp 58) (.con (.bool false)), none⟩, ⟨some 60, .mov (.tmp 59), none⟩, ⟨some 61, .mov (.tmp 8), some (60, true)⟩, ⟨some 62, .faddr (.tmp 4) 2, some (60, true)⟩, ⟨some 63, .load none (.tmp 62), some (60, true)⟩, ⟨some 64, .mov (.tmp 9), some (60, true)⟩, ⟨some 65, .bin .mul (.tmp 63) (.tmp 64), some (60, true)⟩, ⟨some 66, .bin .leq (.tmp 61) (.tmp 65), some (60, true)⟩, ⟨some 67, .pick (.tmp 60) (.tmp 66) (.con (.bool false)), none⟩, ⟨some 6, .mov (.tmp 67), none⟩]) .ret)))))⟩
theorem comp25 : compFn Try.prog 25 = some F25 := by kernel_rfl
def F26 : AFn := ⟨0, 58, [.tmp 0], (.seq (.reg [⟨some 0, .mov (.con (.bool false)), none⟩]) (.seq (.reg [⟨some 9, .call (.con (.fn 64 [] [])) [], none⟩, ⟨some 10, .call (.con (.fn 15 [] [])) [(.tmp 9)], none⟩, ⟨some 8, .mov (.tmp 10), none⟩, ⟨some 11, .ext (.tmp 8) 0, none⟩, ⟨some 12, .ext (.tmp 8) 1, none⟩, ⟨some 13, .ext (.tmp 8) 2, none⟩, ⟨some 1, .box (.con (.agg [.int .i64 0, .int .i64 0])), none⟩, ⟨some 2, .box (.con (.agg [.int .i64 0, .int .i64 0])), none⟩, ⟨none, .store 2 (.tmp 1) (.tmp 11), none⟩, ⟨none, .store 2 (.tmp 2) (.tmp 12), none⟩, ⟨some 3, .mov (.tmp 13), none⟩]) (.seq (.reg [⟨some 15, .call (.con (.fn 64 [] [])) [], none⟩, ⟨some 16, .call (.con (.fn 65 [] [])) [(.con (.int .i64 1)), (.con (.int .i64 700)), (.con (.int .i64 1400))], none⟩, ⟨some 17, .call (.con (.fn 65 [] [])) [(.con (.int .i64 2)), (.con (.int .i64 519)), (.con (.int .i64 0))], none⟩, ⟨some 18, .call (.con (.fn 65 [] [])) [(.con (.int .i64 3)), (.con (.int .i64 5649)), (.con (.int .i64 3067))], none⟩, ⟨some 19, .bsl 3 true [.int .i64 0, .int .i64 0, .int .i64 0] 3 [(0, (.tmp 16)), (1, (.tmp 17)), (2, (.tmp 18))], none⟩, ⟨some 20, .call (.con (.fn 18 [] [])) [(.tmp 15), (.tmp 19)], none⟩, ⟨some 14, .mov (.tmp 20), none⟩, ⟨some 21, .ext (.tmp 14) 0, none⟩, ⟨some 22, .ext (.tmp 14) 1, none⟩, ⟨some 4, .mov (.tmp 21), none⟩, ⟨some 5, .mov (.tmp 22), none⟩]) (.seq (.reg [⟨some 24, .call (.con (.fn 66 [] [])) [(.con (.int .i64 900))], none⟩, ⟨some 25, .call (.con (.fn 43 [] [])) [(.tmp 24), (.con (.nils)), (.con (.int .i64 200))], none⟩, ⟨some 23, .mov (.tmp 25), none⟩, ⟨some 26, .ext (.tmp 23) 0, none⟩, ⟨some 27, .ext (.tmp 23) 1, none⟩, ⟨some 6, .box (.con (.agg [.int .i64 0, .int .i64 0])), none⟩, ⟨none, .store 2 (.tmp 6) (.tmp 26), none⟩, ⟨some 7, .mov (.tmp 27), none⟩]) (.seq (.dreg 28 [⟨some 28, .mov (.tmp 3), none⟩, ⟨some 29, .bin .eql (.tmp 28) (.con (.int .i64 0)), none⟩, ⟨some 30, .mov (.tmp 29), none⟩, ⟨some 31, .mov (.tmp 5), some (30, true)⟩, ⟨some 32, .bin .eql (.tmp 31) (.con (.int .i64 0)), some (30, true)⟩, ⟨some 33, .pick (.tmp 30) (.tmp 32) (.con (.bool false)), none⟩, ⟨some 34, .mov (.tmp 33), none⟩, ⟨some 35, .mov (.tmp 7), some (34, true)⟩, ⟨some 36, .bin .eql (.tmp 35) (.con (.int .i64 0)), some (34, true)⟩, ⟨some 37, .pick (.tmp 34) (.tmp 36) (.con (.bool false)), none⟩, ⟨some 38, .mov (.tmp 37), none⟩, ⟨some 39, .load (some 2) (.tmp 1), some (38, true)⟩, ⟨some 40, .call (.con (.fn 31 [] [])) [(.con (.int .i64 2650)), (.con (.int .i64 2784))], some (38, true)⟩, ⟨some 41, .eqs false (.cons 0 none (.sc 1) (.cons 1 none (.sc 1) .nil)) (.tmp 39) (.tmp 40), some (38, true)⟩, ⟨some 42, .pick (.tmp 38) (.tmp 41) (.con (.bool false)), none⟩, ⟨some 43, .mov (.tmp 42), none⟩, ⟨some 44, .load (some 2) (.tmp 2), some (43, true)⟩, ⟨some 45, .call (.con (.fn 31 [] [])) [(.con (.int .i64 3000)), (.con (.int .i64 3067))], some (43, true)⟩, ⟨some 46, .eqs false (.cons 0 none (.sc 1) (.cons 1 none (.sc 1) .nil)) (.tmp 44) (.tmp 45), some (43, true)⟩, ⟨some 47, .pick (.tmp 43) (.tmp 46) (.con (.bool false)), none⟩, ⟨some 48, .mov (.tmp 47), none⟩, ⟨some 49, .mov (.tmp 4), some (48, true)⟩, ⟨some 50, .bsl 1 false [.int .i64 0] 3 [(0, (.con (.int .i64 1))), (1, (.con (.int .i64 3))), (2, (.con (.int .i64 2)))], some (48, true)⟩, ⟨some 51, .call (.con (.fn 67 [] [])) [(.tmp 49), (.tmp 50)], some (48, true)⟩, ⟨some 52, .pick (.tmp 48) (.tmp 51) (.con (.bool false)), none⟩, ⟨some 53, .mov (.tmp 52), none⟩, ⟨some 54, .load (some 2) (.tmp 6), some (53, true)⟩, ⟨some 55, .call (.con (.fn 31 [] [])) [(.con (.int .i64 17)), (.con (.int .i64 100000))], some (53, true)⟩, ⟨some 56, .eqs false (.cons 0 none (.sc 1) (.cons 1 none (.sc 1) .nil)) (.tmp 54) (.tmp 55), some (53, true)⟩, ⟨some 57, .pick (.tmp 53) (.tmp 56) (.con (.bool false)), none⟩, ⟨some 0, .mov (.tmp 57), none⟩]) .ret)))))⟩
theorem comp26 : compFn Try.prog 26 = some F26 := by kernel_rfl
def F31 : AFn := ⟨2, 8, [.cell 4 (some 2)], (.seq (.reg [⟨some 4, .box (.con (.agg [.int .i64 0, .int .i64 0])), none⟩]) (.seq (.reg [⟨some 5, .mov (.tmp 0), none⟩, ⟨some 6, .mov (.tmp 1), none⟩, ⟨some 7, .build [.int .i64 0, .int .i64 0] [(0, 1, (.tmp 5)), (1, 1, (.tmp 6))], none⟩, ⟨none, .store 2 (.tmp 4) (.tmp 7), none⟩]) .ret))⟩
theorem comp31 : compFn Try.prog 31 = some F31 := by kernel_rfl
def F32 : AFn := ⟨2, 16, [.tmp 4], (.seq (.reg [⟨some 4, .mov (.con (.int .i64 0)), none⟩]) (.seq (.reg [⟨some 6, .mov (.tmp 0), none⟩, ⟨some 7, .mov (.tmp 1), none⟩, ⟨some 8, .bin .quo (.tmp 6) (.tmp 7), none⟩, ⟨some 5, .mov (.tmp 8), none⟩]) (.seq (.seq (.reg [⟨some 9, .mov (.tmp 0), none⟩, ⟨some 10, .mov (.tmp 1), none⟩, ⟨some 11, .bin .rem (.tmp 9) (.tmp 10), none⟩, ⟨some 12, .bin .lss (.tmp 11) (.con (.int .i64 0)), none⟩]) (.cond (.tmp 12) (.reg [⟨some 13, .mov (.tmp 5), none⟩, ⟨some 14, .bin .sub (.tmp 13) (.con (.int .i64 1)), none⟩, ⟨some 5, .mov (.tmp 14), none⟩]) .skip)) (.seq (.reg [⟨some 15, .mov (.tmp 5), none⟩, ⟨some 4, .mov (.tmp 15), none⟩]) .ret))))⟩
theorem comp32 : compFn Try.prog 32 = some F32 := by kernel_rfl
def F33 : AFn := ⟨2, 10, [.tmp 4], (.seq (.reg [⟨some 4, .mov (.con (.int .i64 0)), none⟩]) (.seq (.reg [⟨some 5, .mov (.tmp 0), none⟩, ⟨some 6, .un .neg (.tmp 5), none⟩, ⟨some 7, .mov (.tmp 1), none⟩, ⟨some 8, .call (.con (.fn 32 [] [])) [(.tmp 6), (.tmp 7)], none⟩, ⟨some 9, .un .neg (.tmp 8), none⟩, ⟨some 4, .mov (.tmp 9), none⟩]) .ret))⟩
theorem comp33 : compFn Try.prog 33 = some F33 := by kernel_rfl
def F34 : AFn := ⟨1, 6, [.cell 2 (some 2)], (.seq (.reg [⟨some 2, .box (.con (.agg [.int .i64 0, .int .i64 0])), none⟩]) (.seq (.reg [⟨some 3, .mov (.tmp 0), none⟩, ⟨some 4, .mov (.tmp 0), none⟩, ⟨some 5, .call (.con (.fn 31 [] [])) [(.tmp 3), (.tmp 4)], none⟩, ⟨none, .store 2 (.tmp 2) (.tmp 5), none⟩]) .ret))⟩
theorem comp34 : compFn Try.prog 34 = some F34 := by kernel_rfl
def F35 : AFn := ⟨2, 21, [.tmp 4], (.seq (.reg [⟨some 3, .box (.tmp 1), none⟩, ⟨some 4, .mov (.con (.int .i64 0)), none⟩]) (.seq (.seq (.reg [⟨some 5, .mov (.tmp 0), none⟩, ⟨some 6, .call (.con (.fn 40 [] [])) [(.tmp 5), (.con (.int .i64 4))], none⟩]) (.block 0 (.seq (.reg [⟨some 8, .bin .eql (.tmp 6) (.con (.int .i64 0)), none⟩, ⟨some 7, .mov (.tmp 8), none⟩]) (.cond (.tmp 7) (.seq (.reg [⟨some 9, .faddr (.tmp 3) 0, none⟩, ⟨some 10, .load none (.tmp 9), none⟩, ⟨some 4, .mov (.tmp 10), none⟩]) .ret) (.seq (.reg [⟨some 12, .bin .eql (.tmp 6) (.con (.int .i64 1)), none⟩, ⟨some 11, .mov (.tmp 12), none⟩]) (.cond (.tmp 11) (.seq (.reg [⟨some 13, .faddr (.tmp 3) 1, none⟩, ⟨some 14, .load none (.tmp 13), none⟩, ⟨some 4, .mov (.tmp 14), none⟩]) .ret) .skip)))))) (.seq (.reg [⟨some 15, .mov (.tmp 0), none⟩, ⟨some 16, .faddr (.tmp 3) 0, none⟩, ⟨some 17, .load none (.tmp 16), none⟩, ⟨some 18, .faddr (.tmp 3) 1, none⟩, ⟨some 19, .load none (.tmp 18), none⟩, ⟨some 20, .call (.con (.fn 41 [] [])) [(.tmp 15), (.tmp 17), (.tmp 19)], none⟩, ⟨some 4, .mov (.tmp 20), none⟩]) .ret)))⟩
theorem comp35 : compFn Try.prog 35 = some F35 := by kernel_rfl
def F39 : AFn := ⟨2, 15, [.tmp 4], (.seq (.reg [⟨some 4, .mov (.con (.int .i64 0)), none⟩]) (.seq (.seq (.reg [⟨some 5, .mov (.tmp 1), none⟩, ⟨some 6, .len false (.tmp 5), none⟩, ⟨some 7, .bin .eql (.tmp 6) (.con (.int .i64 0)), none⟩]) (.cond (.tmp 7) (.seq (.reg [⟨some 4, .mov (.con (.int .i64 0)), none⟩]) .ret) .skip)) (.seq (.reg [⟨some 8, .mov (.tmp 1), none⟩, ⟨some 9, .mov (.tmp 0), none⟩, ⟨some 10, .mov (.tmp 1), none⟩, ⟨some 11, .len false (.tmp 10), none⟩, ⟨some 12, .call (.con (.fn 40 [] [])) [(.tmp 9), (.tmp 11)], none⟩, ⟨some 13, .iaddr (.tmp 8) (.tmp 12) 1 none, none⟩, ⟨some 14, .load none (.tmp 13), none⟩, ⟨some 4, .mov (.tmp 14), none⟩]) .ret)))⟩
theorem comp39 : compFn Try.prog 39 = some F39 := by kernel_rfl
def F40 : AFn := ⟨2, 14, [.tmp 4], (.seq (.reg [⟨some 4, .mov (.con (.int .i64 0)), none⟩]) (.seq (.seq (.reg [⟨some 5, .mov (.tmp 1), none⟩, ⟨some 6, .bin .lss (.tmp 5) (.con (.int .i64 2)), none⟩]) (.cond (.tmp 6) (.seq (.reg [⟨some 4, .mov (.con (.int .i64 0)), none⟩]) .ret) .skip)) (.seq (.reg [⟨some 7, .mov (.tmp 0), none⟩, ⟨some 8, .call (.con (.fn 48 [] [])) [(.tmp 7)], none⟩, ⟨some 9, .bin .shr (.tmp 8) (.con (.int .u64 1)), none⟩, ⟨some 10, .mov (.tmp 1), none⟩, ⟨some 11, .conv .u64 (.tmp 10), none⟩, ⟨some 12, .bin .rem (.tmp 9) (.tmp 11), none⟩, ⟨some 13, .conv .i64 (.tmp 12), none⟩, ⟨some 4, .mov (.tmp 13), none⟩]) .ret)))⟩
theorem comp40 : compFn Try.prog 40 = some F40 := by kernel_rfl
def F41 : AFn := ⟨3, 15, [.tmp 6], (.seq (.reg [⟨some 6, .mov (.con (.int .i64 0)), none⟩]) (.seq (.reg [⟨some 7, .mov (.tmp 1), none⟩, ⟨some 8, .mov (.tmp 0), none⟩, ⟨some 9, .mov (.tmp 2), none⟩, ⟨some 10, .mov (.tmp 1), none⟩, ⟨some 11, .bin .sub (.tmp 9) (.tmp 10), none⟩, ⟨some 12, .bin .add (.tmp 11) (.con (.int .i64 1)), none⟩, ⟨some 13, .call (.con (.fn 40 [] [])) [(.tmp 8), (.tmp 12)], none⟩, ⟨some 14, .bin .add (.tmp 7) (.tmp 13), none⟩, ⟨some 6, .mov (.tmp 14), none⟩]) .ret))⟩
theorem comp41 : compFn Try.prog 41 = some F41 := by kernel_rfl
def F42 : AFn := ⟨3, 54, [.tmp 6], (.seq (.reg [⟨some 3, .box (.tmp 0), none⟩, ⟨some 4, .box (.tmp 1), none⟩, ⟨some 6, .mov (.con (.bool false)), none⟩]) (.seq (.reg [⟨some 9, .mov (.tmp 2), none⟩, ⟨some 10, .bin .mul (.con (.int .i64 2)) (.tmp 9), none⟩, ⟨some 11, .faddr (.tmp 3) 1, none⟩, ⟨some 12, .load none (.tmp 11), none⟩, ⟨some 13, .bin .add (.tmp 10) (.tmp 12), none⟩, ⟨some 7, .mov (.tmp 13), none⟩]) (.seq (.reg [⟨some 14, .faddr (.tmp 3) 3, none⟩, ⟨some 15, .load none (.tmp 14), none⟩, ⟨some 16, .faddr (.tmp 3) 0, none⟩, ⟨some 17, .load none (.tmp 16), none⟩, ⟨some 18, .faddr (.tmp 3) 3, none⟩, ⟨some 19, .load none (.tmp 18), none⟩, ⟨some 20, .bin .sub (.tmp 17) (.tmp 19), none⟩, ⟨some 21, .mx (.tmp 15) (.tmp 20), none⟩, ⟨some 22, .bin .mul (.con (.int .i64 2)) (.tmp 21), none⟩, ⟨some 8, .mov (.tmp 22), none⟩]) (.seq (.reg [⟨some 23, .mov (.tmp 2), none⟩, ⟨some 24, .faddr (.tmp 3) 4, none⟩, ⟨some 25, .load none (.tmp 24), none⟩, ⟨some 26, .bin .geq (.tmp 23) (.tmp 25), none⟩, ⟨some 27, .mov (.tmp 26), none⟩, ⟨some 28, .mov (.tmp 2), some (27, true)⟩, ⟨some 29, .bin .mul (.con (.int .i64 2)) (.tmp 28), some (27, true)⟩, ⟨some 30, .faddr (.tmp 3) 1, some (27, true)⟩, ⟨some 31, .load none (.tmp 30), some (27, true)⟩, ⟨some 32, .bin .sub (.tmp 29) (.tmp 31), some (27, true)⟩, ⟨some 33, .faddr (.tmp 4) 1, some (27, true)⟩, ⟨some 34, .load none (.tmp 33), some (27, true)⟩, ⟨some 35, .bin .mul (.con (.int .i64 2)) (.tmp 34), some (27, true)⟩, ⟨some 36, .bin .geq (.tmp 32) (.tmp 35), some (27, true)⟩, ⟨some 37, .pick (.tmp 27) (.tmp 36) (.con (.bool false)), none⟩, ⟨some 38, .mov (.tmp 37), none⟩, ⟨some 39, .mov (.tmp 7), some (38, true)⟩, ⟨some 40, .mov (.tmp 7), some (38, true)⟩, ⟨some 41, .bin .mul (.tmp 39) (.tmp 40), some (38, true)⟩, ⟨some 42, .mov (.tmp 8), some (38, true)⟩, ⟨some 43, .mov (.tmp 8), some (38, true)⟩, ⟨some 44, .bin .mul (.tmp 42) (.tmp 43), some (38, true)⟩, ⟨some 45, .bin .add (.tmp 41) (.tmp 44), some (38, true)⟩, ⟨some 46, .faddr (.tmp 4) 2, some (38, true)⟩, ⟨some 47, .load none (.tmp 46), some (38, true)⟩, ⟨some 48, .bin .mul (.con (.int .i64 4)) (.tmp 47), some (38, true)⟩, ⟨some 49, .faddr (.tmp 4) 2, some (38, true)⟩, ⟨some 50, .load none (.tmp 49), some (38, true)⟩, ⟨some 51, .bin .mul (.tmp 48) (.tmp 50), some (38, true)⟩, ⟨some 52, .bin .leq (.tmp 45) (.tmp 51), some (38, true)⟩, ⟨some 53, .pick (.tmp 38) (.tmp 52) (.con (.bool false)), none⟩, ⟨some 6, .mov (.tmp 53), none⟩]) .ret))))⟩
theorem comp42 : compFn Try.prog 42 = some F42 := by kernel_rfl
def F43 : AFn := ⟨3, 38, [.cell 6 (some 2), .tmp 7], (.seq (.reg [⟨some 3, .box (.tmp 0), none⟩, ⟨some 4, .box (.tmp 1), none⟩, ⟨some 5, .box (.tmp 2), none⟩, ⟨some 6, .box (.con (.agg [.int .i64 0, .int .i64 0])), none⟩, ⟨some 7, .mov (.con (.int .i64 0)), none⟩]) (.seq (.seq (.reg [⟨some 11, .load (some 9) (.tmp 3), none⟩, ⟨some 12, .load none (.tmp 4), none⟩, ⟨some 13, .call (.con (.fn 62 [] [])) [(.tmp 11), (.tmp 12)], none⟩, ⟨some 8, .mov (.tmp 13), none⟩]) (.seq (.reg [⟨some 14, .mov (.tmp 8), none⟩, ⟨some 15, .bin .neq (.tmp 14) (.con (.int .i64 0)), none⟩]) (.cond (.tmp 15) (.seq (.reg [⟨some 16, .build [.int .i64 0, .int .i64 0] [], none⟩, ⟨some 17, .mov (.tmp 8), none⟩, ⟨none, .store 2 (.tmp 6) (.tmp 16), none⟩, ⟨some 7, .mov (.tmp 17), none⟩]) .ret) .skip))) (.seq (.seq (.reg [⟨some 18, .load none (.tmp 5), none⟩, ⟨some 19, .faddr (.tmp 3) 2, none⟩, ⟨some 20, .load none (.tmp 19), none⟩, ⟨some 21, .faddr (.tmp 3) 3, none⟩, ⟨some 22, .load none (.tmp 21), none⟩, ⟨some 23, .call (.con (.fn 69 [] [])) [(.tmp 18), (.tmp 20), (.tmp 22)], none⟩, ⟨some 24, .un .not (.tmp 23), none⟩]) (.cond (.tmp 24) (.seq (.reg [⟨some 25, .build [.int .i64 0, .int .i64 0] [], none⟩, ⟨none, .store 2 (.tmp 6) (.tmp 25), none⟩, ⟨some 7, .mov (.con (.int .i64 2)), none⟩]) .ret) .skip)) (.seq (.reg [⟨some 26, .mkfn 71 [] [(.tmp 3), (.tmp 5)], none⟩, ⟨some 27, .call (.con (.fn 70 [] [])) [(.con (.int .i64 100001)), (.tmp 26)], none⟩, ⟨some 9, .mov (.tmp 27), none⟩]) (.seq (.reg [⟨some 28, .mkfn 73 [] [(.tmp 3), (.tmp 5), (.tmp 4)], none⟩, ⟨some 29, .call (.con (.fn 70 [] [])) [(.con (.int .i64 100001)), (.tmp 28)], none⟩, ⟨some 10, .mov (.tmp 29), none⟩]) (.seq (.seq (.reg [⟨some 30, .mov (.tmp 9), none⟩, ⟨some 31, .mov (.tmp 10), none⟩, ⟨some 32, .bin .geq (.tmp 30) (.tmp 31), none⟩]) (.cond (.tmp 32) (.seq (.reg [⟨some 33, .build [.int .i64 0, .int .i64 0] [], none⟩, ⟨none, .store 2 (.tmp 6) (.tmp 33), none⟩, ⟨some 7, .mov (.con (.int .i64 7)), none⟩]) .ret) .skip)) (.seq (.reg [⟨some 34, .mov (.tmp 9), none⟩, ⟨some 35, .mov (.tmp 10), none⟩, ⟨some 36, .bin .sub (.tmp 35) (.con (.int .i64 1)), none⟩, ⟨some 37, .build [.int .i64 0, .int .i64 0] [(0, 1, (.tmp 34)), (1, 1, (.tmp 36))], none⟩, ⟨none, .store 2 (.tmp 6) (.tmp 37), none⟩, ⟨some 7, .mov (.con (.int .i64 0)), none⟩]) .ret)))))))⟩
theorem comp43 : compFn Try.prog 43 = some F43 := by kernel_rfl
def F48 : AFn := ⟨1, 31, [.tmp 2], (.seq (.reg [⟨some 2, .mov (.con (.int .u64 0)), none⟩]) (.seq (.reg [⟨some 4, .mov (.tmp 0), none⟩, ⟨some 5, .mov (.tmp 0), none⟩, ⟨some 6, .nilck (.tmp 5), none⟩, ⟨some 7, .faddr (.tmp 6) 0, none⟩, ⟨some 8, .load none (.tmp 7), none⟩, ⟨some 9, .bin .mul (.tmp 8) (.con (.int .u64 15074714826142052245)), none⟩, ⟨some 10, .bin .add (.tmp 9) (.con (.int .u64 11400714819323198485)), none⟩, ⟨some 11, .nilck (.tmp 4), none⟩, ⟨some 12, .faddr (.tmp 11) 0, none⟩, ⟨none, .store 1 (.tmp 12) (.tmp 10), none⟩]) (.seq (.reg [⟨some 13, .mov (.tmp 0), none⟩, ⟨some 14, .nilck (.tmp 13), none⟩, ⟨some 15, .faddr (.tmp 14) 0, none⟩, ⟨some 16, .load none (.tmp 15), none⟩, ⟨some 3, .mov (.tmp 16), none⟩]) (.seq (.reg [⟨some 17, .mov (.tmp 3), none⟩, ⟨some 18, .mov (.tmp 3), none⟩, ⟨some 19, .bin .shr (.tmp 18) (.con (.int .u64 32)), none⟩, ⟨some 20, .bin .xor (.tmp 17) (.tmp 19), none⟩, ⟨some 21, .bin .mul (.tmp 20) (.con (.int .u64 15760922415973212899)), none⟩, ⟨some 3, .mov (.tmp 21), none⟩]) (.seq (.reg [⟨some 22, .mov (.tmp 3), none⟩, ⟨some 23, .mov (.tmp 3), none⟩, ⟨some 24, .bin .shr (.tmp 23) (.con (.int .u64 32)), none⟩, ⟨some 25, .bin .xor (.tmp 22) (.tmp 24), none⟩, ⟨some 26, .bin .mul (.tmp 25) (.con (.int .u64 15760922415973212899)), none⟩, ⟨some 3, .mov (.tmp 26), none⟩]) (.seq (.reg [⟨some 27, .mov (.tmp 3), none⟩, ⟨some 28, .mov (.tmp 3), none⟩, ⟨some 29, .bin .shr (.tmp 28) (.con (.int .u64 32)), none⟩, ⟨some 30, .bin .xor (.tmp 27) (.tmp 29), none⟩, ⟨some 2, .mov (.tmp 30), none⟩]) .ret))))))⟩
theorem comp48 : compFn Try.prog 48 = some F48 := by kernel_rfl
def F49 : AFn := ⟨3, 36, [.cell 6 (some 2)], (.seq (.reg [⟨some 6, .box (.con (.agg [.int .i64 0, .int .i64 0])), none⟩]) (.seq (.reg [⟨some 8, .mov (.tmp 0), none⟩, ⟨some 9, .mov (.tmp 1), none⟩, ⟨some 10, .mov (.tmp 2), none⟩, ⟨some 11, .call (.con (.fn 41 [] [])) [(.tmp 8), (.tmp 9), (.tmp 10)], none⟩, ⟨some 7, .mov (.tmp 11), none⟩]) (.seq (.seq (.reg [⟨some 12, .mov (.tmp 0), none⟩, ⟨some 13, .call (.con (.fn 40 [] [])) [(.tmp 12), (.con (.int .i64 3))], none⟩]) (.block 0 (.seq (.reg [⟨some 15, .bin .eql (.tmp 13) (.con (.int .i64 0)), none⟩, ⟨some 14, .mov (.tmp 15), none⟩]) (.cond (.tmp 14) (.seq (.reg [⟨some 16, .mov (.tmp 7), none⟩, ⟨some 17, .mov (.tmp 7), none⟩, ⟨some 18, .build [.int .i64 0, .int .i64 0] [(0, 1, (.tmp 16)), (1, 1, (.tmp 17))], none⟩, ⟨none, .store 2 (.tmp 6) (.tmp 18), none⟩]) .ret) (.seq (.reg [⟨some 20, .bin .eql (.tmp 13) (.con (.int .i64 1)), none⟩, ⟨some 19, .mov (.tmp 20), none⟩]) (.cond (.tmp 19) (.seq (.reg [⟨some 21, .mov (.tmp 7), none⟩, ⟨some 22, .mov (.tmp 0), none⟩, ⟨some 23, .mov (.tmp 7), none⟩, ⟨some 24, .mov (.tmp 2), none⟩, ⟨some 25, .mov (.tmp 7), none⟩, ⟨some 26, .bin .add (.tmp 25) (.con (.int .i64 3)), none⟩, ⟨some 27, .mn (.tmp 24) (.tmp 26), none⟩, ⟨some 28, .call (.con (.fn 41 [] [])) [(.tmp 22), (.tmp 23), (.tmp 27)], none⟩, ⟨some 29, .build [.int .i64 0, .int .i64 0] [(0, 1, (.tmp 21)), (1, 1, (.tmp 28))], none⟩, ⟨none, .store 2 (.tmp 6) (.tmp 29), none⟩]) .ret) .skip)))))) (.seq (.reg [⟨some 30, .mov (.tmp 7), none⟩, ⟨some 31, .mov (.tmp 0), none⟩, ⟨some 32, .mov (.tmp 7), none⟩, ⟨some 33, .mov (.tmp 2), none⟩, ⟨some 34, .call (.con (.fn 41 [] [])) [(.tmp 31), (.tmp 32), (.tmp 33)], none⟩, ⟨some 35, .build [.int .i64 0, .int .i64 0] [(0, 1, (.tmp 30)), (1, 1, (.tmp 34))], none⟩, ⟨none, .store 2 (.tmp 6) (.tmp 35), none⟩]) .ret))))⟩
theorem comp49 : compFn Try.prog 49 = some F49 := by kernel_rfl
def F50 : AFn := ⟨1, 20, [.cell 2 (some 2), .tmp 3], (.seq (.reg [⟨some 1, .box (.tmp 0), none⟩, ⟨some 2, .box (.con (.agg [.int .i64 0, .int .i64 0])), none⟩, ⟨some 3, .mov (.con (.int .i64 0)), none⟩]) (.seq (.seq (.reg [⟨some 5, .load (some 9) (.tmp 1), none⟩, ⟨some 6, .call (.con (.fn 77 [] [])) [(.tmp 5)], none⟩, ⟨some 4, .mov (.tmp 6), none⟩]) (.seq (.reg [⟨some 7, .mov (.tmp 4), none⟩, ⟨some 8, .bin .neq (.tmp 7) (.con (.int .i64 0)), none⟩]) (.cond (.tmp 8) (.seq (.reg [⟨some 9, .build [.int .i64 0, .int .i64 0] [], none⟩, ⟨some 10, .mov (.tmp 4), none⟩, ⟨none, .store 2 (.tmp 2) (.tmp 9), none⟩, ⟨some 3, .mov (.tmp 10), none⟩]) .ret) .skip))) (.seq (.dreg 7 [⟨some 11, .load (some 9) (.tmp 1), none⟩, ⟨some 12, .load (some 9) (.tmp 1), none⟩, ⟨some 13, .call (.con (.fn 78 [] [])) [(.tmp 12)], none⟩, ⟨some 14, .call (.con (.fn 22 [] [])) [(.tmp 11), (.tmp 13)], none⟩, ⟨some 15, .load (some 9) (.tmp 1), none⟩, ⟨some 16, .load (some 9) (.tmp 1), none⟩, ⟨some 17, .call (.con (.fn 79 [] [])) [(.tmp 16)], none⟩, ⟨some 18, .call (.con (.fn 22 [] [])) [(.tmp 15), (.tmp 17)], none⟩, ⟨some 19, .build [.int .i64 0, .int .i64 0] [(0, 1, (.tmp 14)), (1, 1, (.tmp 18))], none⟩, ⟨none, .store 2 (.tmp 2) (.tmp 19), none⟩, ⟨some 3, .mov (.con (.int .i64 0)), none⟩]) .ret)))⟩
theorem comp50 : compFn Try.prog 50 = some F50 := by kernel_rfl
def F51 : AFn := ⟨1, 51, [.cell 2 (some 2), .cell 3 (some 2), .tmp 4], (.seq (.reg [⟨some 1, .box (.tmp 0), none⟩, ⟨some 2, .box (.con (.agg [.int .i64 0, .int .i64 0])), none⟩, ⟨some 3, .box (.con (.agg [.int .i64 0, .int .i64 0])), none⟩, ⟨some 4, .mov (.con (.int .i64 0)), none⟩]) (.seq (.seq (.reg [⟨some 11, .load (some 9) (.tmp 1), none⟩, ⟨some 12, .call (.con (.fn 77 [] [])) [(.tmp 11)], none⟩, ⟨some 5, .mov (.tmp 12), none⟩]) (.seq (.reg [⟨some 13, .mov (.tmp 5), none⟩, ⟨some 14, .bin .neq (.tmp 13) (.con (.int .i64 0)), none⟩]) (.cond (.tmp 14) (.seq (.reg [⟨some 15, .build [.int .i64 0, .int .i64 0] [], none⟩, ⟨some 16, .build [.int .i64 0, .int .i64 0] [], none⟩, ⟨some 17, .mov (.tmp 5), none⟩, ⟨none, .store 2 (.tmp 2) (.tmp 15), none⟩, ⟨none, .store 2 (.tmp 3) (.tmp 16), none⟩, ⟨some 4, .mov (.tmp 17), none⟩]) .ret) .skip))) (.seq (.dreg 8 [⟨some 19, .load (some 9) (.tmp 1), none⟩, ⟨some 20, .load (some 9) (.tmp 1), none⟩, ⟨some 21, .call (.con (.fn 78 [] [])) [(.tmp 20)], none⟩, ⟨some 22, .call (.con (.fn 20 [] [])) [(.tmp 19), (.tmp 21)], none⟩, ⟨some 18, .mov (.tmp 22), none⟩, ⟨some 23, .ext (.tmp 18) 0, none⟩, ⟨some 24, .ext (.tmp 18) 1, none⟩, ⟨some 6, .mov (.tmp 23), none⟩, ⟨some 7, .mov (.tmp 24), none⟩]) (.seq (.dreg 8 [⟨some 26, .load (some 9) (.tmp 1), none⟩, ⟨some 27, .load (some 9) (.tmp 1), none⟩, ⟨some 28, .call (.con (.fn 79 [] [])) [(.tmp 27)], none⟩, ⟨some 29, .call (.con (.fn 20 [] [])) [(.tmp 26), (.tmp 28)], none⟩, ⟨some 25, .mov (.tmp 29), none⟩, ⟨some 30, .ext (.tmp 25) 0, none⟩, ⟨some 31, .ext (.tmp 25) 1, none⟩, ⟨some 8, .mov (.tmp 30), none⟩, ⟨some 9, .mov (.tmp 31), none⟩]) (.seq (.reg [⟨some 32, .faddr (.tmp 1) 3, none⟩, ⟨some 33, .load none (.tmp 32), none⟩, ⟨some 34, .faddr (.tmp 1) 2, none⟩, ⟨some 35, .load none (.tmp 34), none⟩, ⟨some 36, .bin .sub (.tmp 33) (.tmp 35), none⟩, ⟨some 10, .mov (.tmp 36), none⟩]) (.seq (.reg [⟨some 37, .mov (.tmp 6), none⟩, ⟨some 38, .mov (.tmp 10), none⟩, ⟨some 39, .call (.con (.fn 32 [] [])) [(.tmp 37), (.tmp 38)], none⟩, ⟨some 40, .mov (.tmp 8), none⟩, ⟨some 41, .mov (.tmp 10), none⟩, ⟨some 42, .call (.con (.fn 33 [] [])) [(.tmp 40), (.tmp 41)], none⟩, ⟨some 43, .build [.int .i64 0, .int .i64 0] [(0, 1, (.tmp 39)), (1, 1, (.tmp 42))], none⟩, ⟨some 44, .mov (.tmp 7), none⟩, ⟨some 45, .mov (.tmp 10), none⟩, ⟨some 46, .call (.con (.fn 32 [] [])) [(.tmp 44), (.tmp 45)], none⟩, ⟨some 47, .mov (.tmp 9), none⟩, ⟨some 48, .mov (.tmp 10), none⟩, ⟨some 49, .call (.con (.fn 33 [] [])) [(.tmp 47), (.tmp 48)], none⟩, ⟨some 50, .build [.int .i64 0, .int .i64 0] [(0, 1, (.tmp 46)), (1, 1, (.tmp 49))], none⟩, ⟨none, .store 2 (.tmp 2) (.tmp 43), none⟩, ⟨none, .store 2 (.tmp 3) (.tmp 50), none⟩, ⟨some 4, .mov (.con (.int .i64 0)), none⟩]) .ret))))))⟩
theorem comp51 : compFn Try.prog 51 = some F51 := by kernel_rfl
def F52 : AFn := ⟨1, 20, [.cell 2 (some 2), .tmp 3], (.seq (.reg [⟨some 1, .box (.tmp 0), none⟩, ⟨some 2, .box (.con (.agg [.int .i64 0, .int .i64 0])), none⟩, ⟨some 3, .mov (.con (.int .i64 0)), none⟩]) (.seq (.seq (.reg [⟨some 5, .load (some 9) (.tmp 1), none⟩, ⟨some 6, .call (.con (.fn 77 [] [])) [(.tmp 5)], none⟩, ⟨some 4, .mov (.tmp 6), none⟩]) (.seq (.reg [⟨some 7, .mov (.tmp 4), none⟩, ⟨some 8, .bin .neq (.tmp 7) (.con (.int .i64 0)), none⟩]) (.cond (.tmp 8) (.seq (.reg [⟨some 9, .build [.int .i64 0, .int .i64 0] [], none⟩, ⟨some 10, .mov (.tmp 4), none⟩, ⟨none, .store 2 (.tmp 2) (.tmp 9), none⟩, ⟨some 3, .mov (.tmp 10), none⟩]) .ret) .skip))) (.seq (.dreg 7 [⟨some 11, .load (some 9) (.tmp 1), none⟩, ⟨some 12, .load (some 9) (.tmp 1), none⟩, ⟨some 13, .call (.con (.fn 78 [] [])) [(.tmp 12)], none⟩, ⟨some 14, .call (.con (.fn 23 [] [])) [(.tmp 11), (.tmp 13)], none⟩, ⟨some 15, .load (some 9) (.tmp 1), none⟩, ⟨some 16, .load (some 9) (.tmp 1), none⟩, ⟨some 17, .call (.con (.fn 79 [] [])) [(.tmp 16)], none⟩, ⟨some 18, .call (.con (.fn 23 [] [])) [(.tmp 15), (.tmp 17)], none⟩, ⟨some 19, .build [.int .i64 0, .int .i64 0] [(0, 1, (.tmp 14)), (1, 1, (.tmp 18))], none⟩, ⟨none, .store 2 (.tmp 2) (.tmp 19), none⟩, ⟨some 3, .mov (.con (.int .i64 0)), none⟩]) .ret)))⟩
theorem comp52 : compFn Try.prog 52 = some F52 := by kernel_rfl
def F53 : AFn := ⟨1, 30, [.tmp 2], (.seq (.reg [⟨some 1, .box (.tmp 0), none⟩, ⟨some 2, .mov (.con (.int .i64 0)), none⟩]) (.seq (.seq (.reg [⟨some 7, .load (some 9) (.tmp 1), none⟩, ⟨some 8, .call (.con (.fn 80 [] [])) [(.tmp 7)], none⟩, ⟨some 3, .mov (.tmp 8), none⟩]) (.seq (.reg [⟨some 9, .mov (.tmp 3), none⟩, ⟨some 10, .bin .neq (.tmp 9) (.con (.int .i64 0)), none⟩]) (.cond (.tmp 10) (.seq (.reg [⟨some 11, .mov (.tmp 3), none⟩, ⟨some 2, .mov (.tmp 11), none⟩]) .ret) .skip))) (.seq (.seq (.reg [⟨some 12, .faddr (.tmp 1) 8, none⟩, ⟨some 13, .load none (.tmp 12), none⟩, ⟨some 14, .len false (.tmp 13), none⟩, ⟨some 15, .bin .gtr (.tmp 14) (.con (.int .i64 20)), none⟩]) (.cond (.tmp 15) (.seq (.reg [⟨some 2, .mov (.con (.int .i64 5)), none⟩]) .ret) .skip)) (.seq (.seq (.reg [⟨some 16, .faddr (.tmp 1) 8, none⟩, ⟨some 17, .load none (.tmp 16), none⟩, ⟨some 18, .len false (.tmp 17), none⟩, ⟨some 19, .mov (.con (.int .i64 0)), none⟩]) (.block 0 (.loop (.seq (.reg [⟨some 20, .bin .lss (.tmp 19) (.tmp 18), none⟩]) (.seq (.cond (.tmp 20) .skip (.exit 0)) (.seq (.block 1 (.seq (.reg [⟨some 21, .iaddr (.tmp 17) (.tmp 19) 7 none, none⟩, ⟨some 22, .load (some 7) (.tmp 21), none⟩, ⟨some 5, .box (.con (.agg [.int .i64 0, .int .i64 0, .int .i64 0, .int .i64 0, .int .i64 0, .int .i64 0, .int .i64 0])), none⟩, ⟨none, .store 7 (.tmp 5) (.tmp 22), none⟩]) (.seq (.reg [⟨some 23, .load (some 9) (.tmp 1), none⟩, ⟨some 24, .load (some 7) (.tmp 5), none⟩, ⟨some 25, .call (.con (.fn 81 [] [])) [(.tmp 23), (.tmp 24)], none⟩, ⟨some 6, .mov (.tmp 25), none⟩]) (.seq (.reg [⟨some 26, .mov (.tmp 6), none⟩, ⟨some 27, .bin .neq (.tmp 26) (.con (.int .i64 0)), none⟩]) (.cond (.tmp 27) (.seq (.reg [⟨some 28, .mov (.tmp 6), none⟩, ⟨some 2, .mov (.tmp 28), none⟩]) .ret) .skip))))) (.reg [⟨some 29, .bin .add (.tmp 19) (.con (.int .i64 1)), none⟩, ⟨some 19, .mov (.tmp 29), none⟩]))))))) (.seq (.reg [⟨some 2, .mov (.con (.int .i64 0)), none⟩]) .ret)))))⟩
theorem comp53 : compFn Try.prog 53 = some F53 := by kernel_rfl
def F54 : AFn := ⟨1, 49, [.cell 2 (some 102)], (.seq (.reg [⟨some 1, .box (.tmp 0), none⟩, ⟨some 2, .box (.con (.agg [.int .i64 0, .int .i64 0, .int .i64 0, .int .i64 0, .int .i64 0, .int .i64 0, .int .i64 0, .int .i64 0, .nils, .int .i64 0, .int .i64 0, .int .i64 0, .int .i64 0, .int .i64 0, .int .i64 0, .int .i64 0, .int .i64 0, .int .i64 0, .int .i64 0, .int .i64 0, .int .i64 0, .int .i64 0, .int .i64 0, .int .i64 0, .int .i64 0, .int .i64 0, .int .i64 0, .int .i64 0, .int .i64 0, .int .i64 0, .int .i64 0, .int .i64 0, .int .i64 0, .int .i64 0, .int .i64 0, .int .i64 0, .int .i64 0, .int .i64 0, .int .i64 0, .int .i64 0, .int .i64 0, .int .i64 0, .int .i64 0, .int .i64 0, .int .i64 0, .int .i64 0, .int .i64 0, .int .i64 0, .int .i64 0, .int .i64 0, .int .i64 0, .int .i64 0, .int .i64 0, .int .i64 0, .int .i64 0, .int .i64 0, .int .i64 0, .int .i64 0, .int .i64 0, .nils, .int .i64 0, .int .i64 0, .int .i64 0, .int .i64 0, .int .i64 0, .int .i64 0, .int .i64 0, .int .i64 0, .int .i64 0, .int .i64 0, .int .i64 0, .int .i64 0, .int .i64 0, .int .i64 0, .int .i64 0, .int .i64 0, .int .i64 0, .int .i64 0, .int .i64 0, .int .i64 0, .int .i64 0, .int .i64 0, .int .i64 0, .int .i64 0, .int .i64 0, .int .i64 0, .int .i64 0, .int .i64 0, .int .i64 0, .int .i64 0, .int .i64 0, .int .i64 0, .int .i64 0, .int .i64 0, .int .i64 0, .int .i64 0, .int .i64 0, .int .i64 0, .int .i64 0, .int .i64 0, .int .i64 0, .int .i64 0])), none⟩]) (.seq (.reg [⟨some 6, .load (some 9) (.tmp 1), none⟩, ⟨some 7, .build [.int .i64 0, .int .i64 0, .int .i64 0, .int .i64 0, .int .i64 0, .int .i64 0, .int .i64 0, .int .i64 0, .nils, .int .i64 0, .int .i64 0, .int .i64 0, .int .i64 0, .int .i64 0, .int .i64 0, .int .i64 0, .int .i64 0, .int .i64 0, .int .i64 0, .int .i64 0, .int .i64 0, .int .i64 0, .int .i64 0, .int .i64 0, .int .i64 0, .int .i64 0, .int .i64 0, .int .i64 0, .int .i64 0, .int .i64 0, .int .i64 0, .int .i64 0, .int .i64 0, .int .i64 0, .int .i64 0, .int .i64 0, .int .i64 0, .int .i64 0, .int .i64 0, .int .i64 0, .int .i64 0, .int .i64 0, .int .i64 0, .int .i64 0, .int .i64 0, .int .i64 0, .int .i64 0, .int .i64 0, .int .i64 0, .int .i64 0, .int .i64 0] [(0, 9, (.tmp 6))], none⟩, ⟨some 8, .load (some 9) (.tmp 1), none⟩, ⟨some 9, .build [.int .i64 0, .int .i64 0, .int .i64 0, .int .i64 0, .int .i64 0, .int .i64 0, .int .i64 0, .int .i64 0, .nils, .int .i64 0, .int .i64 0, .int .i64 0, .int .i64 0, .int .i64 0, .int .i64 0, .int .i64 0, .int .i64 0, .int .i64 0, .int .i64 0, .int .i64 0, .int .i64 0, .int .i64 0, .int .i64 0, .int .i64 0, .int .i64 0, .int .i64 0, .int .i64 0, .int .i64 0, .int .i64 0, .int .i64 0, .int .i64 0, .int .i64 0, .int .i64 0, .int .i64 0, .int .i64 0, .int .i64 0, .int .i64 0, .int .i64 0, .int .i64 0, .int .i64 0, .int .i64 0, .int .i64 0, .int .i64 0, .int .i64 0, .int .i64 0, .int .i64 0, .int .i64 0, .int .i64 0, .int .i64 0, .int .i64 0, .int .i64 0] [(0, 9, (.tmp 8))], none⟩, ⟨some 10, .build [.int .i64 0, .int .i64 0, .int .i64 0, .int .i64 0, .int .i64 0, .int .i64 0, .int .i64 0, .int .i64 0, .nils, .int .i64 0, .int .i64 0, .int .i64 0, .int .i64 0, .int .i64 0, .int .i64 0, .int .i64 0, .int .i64 0, .int .i64 0, .int .i64 0, .int .i64 0, .int .i64 0, .int .i64 0, .int .i64 0, .int .i64 0, .int .i64 0, .int .i64 0, .int .i64 0, .int .i64 0, .int .i64 0, .int .i64 0, .int .i64 0, .int .i64 0, .int .i64 0, .int .i64 0, .int .i64 0, .int .i64 0, .int .i64 0, .int .i64 0, .int .i64 0, .int .i64 0, .int .i64 0, .int .i64 0, .int .i64 0, .int .i64 0, .int .i64 0, .int .i64 0, .int .i64 0, .int .i64 0, .int .i64 0, .int .i64 0, .int .i64 0, .int .i64 0, .int .i64 0, .int .i64 0, .int .i64 0, .int .i64 0, .int .i64 0, .int .i64 0, .int .i64 0, .nils, .int .i64 0, .int .i64 0, .int .i64 0, .int .i64 0, .int .i64 0, .int .i64 0, .int .i64 0, .int .i64 0, .int .i64 0, .int .i64 0, .int .i64 0, .int .i64 0, .int .i64 0, .int .i64 0, .int .i64 0, .int .i64 0, .int .i64 0, .int .i64 0, .int .i64 0, .int .i64 0, .int .i64 0, .int .i64 0, .int .i64 0, .int .i64 0, .int .i64 0, .int .i64 0, .int .i64 0, .int .i64 0, .int .i64 0, .int .i64 0, .int .i64 0, .int .i64 0, .int .i64 0, .int .i64 0, .int .i64 0, .int .i64 0, .int .i64 0, .int .i64 0, .int .i64 0, .int .i64 0, .int .i64 0, .int .i64 0] [(0, 51, (.tmp 7)), (51, 51, (.tmp 9))], none⟩, ⟨some 3, .box (.con (.agg [.int .i64 0, .int .i64 0, .int .i64 0, .int .i64 0, .int .i64 0, .int .i64 0, .int .i64 0, .int .i64 0, .nils, .int .i64 0, .int .i64 0, .int .i64 0, .int .i64 0, .int .i64 0, .int .i64 0, .int .i64 0, .int .i64 0, .int .i64 0, .int .i64 0, .int .i64 0, .int .i64 0, .int .i64 0, .int .i64 0, .int .i64 0, .int .i64 0, .int .i64 0, .int .i64 0, .int .i64 0, .int .i64 0, .int .i64 0, .int .i64 0, .int .i64 0, .int .i64 0, .int .i64 0, .int .i64 0, .int .i64 0, .int .i64 0, .int .i64 0, .int .i64 0, .int .i64 0, .int .i64 0, .int .i64 0, .int .i64 0, .int .i64 0, .int .i64 0, .int .i64 0, .int .i64 0, .int .i64 0, .int .i64 0, .int .i64 0, .int .i64 0, .int .i64 0, .int .i64 0, .int .i64 0, .int .i64 0, .int .i64 0, .int .i64 0, .int .i64 0, .int .i64 0, .nils, .int .i64 0, .int .i64 0, .int .i64 0, .int .i64 0, .int .i64 0, .int .i64 0, .int .i64 0, .int .i64 0, .int .i64 0, .int .i64 0, .int .i64 0, .int .i64 0, .int .i64 0, .int .i64 0, .int .i64 0, .int .i64 0, .int .i64 0, .int .i64 0, .int .i64 0, .int .i64 0, .int .i64 0, .int .i64 0, .int .i64 0, .int .i64 0, .int .i64 0, .int .i64 0, .int .i64 0, .int .i64 0, .int .i64 0, .int .i64 0, .int .i64 0, .int .i64 0, .int .i64 0, .int .i64 0, .int .i64 0, .int .i64 0, .int .i64 0, .int .i64 0, .int .i64 0, .int .i64 0, .int .i64 0, .int .i64 0])), none⟩, ⟨none, .store 102 (.tmp 3) (.tmp 10), none⟩]) (.seq (.seq (.reg [⟨some 11, .faddr (.tmp 1) 8, none⟩, ⟨some 12, .load none (.tmp 11), none⟩, ⟨some 13, .len false (.tmp 12), none⟩, ⟨some 14, .mov (.con (.int .i64 0)), none⟩]) (.block 0 (.loop (.seq (.reg [⟨some 15, .bin .lss (.tmp 14) (.tmp 13), none⟩]) (.seq (.cond (.tmp 15) .skip (.exit 0)) (.seq (.block 1 (.seq (.reg [⟨some 16, .mov (.tmp 14), none⟩, ⟨some 17, .iaddr (.tmp 12) (.tmp 14) 7 none, none⟩, ⟨some 18, .load (some 7) (.tmp 17), none⟩, ⟨some 5, .box (.con (.agg [.int .i64 0, .int .i64 0, .int .i64 0, .int .i64 0, .int .i64 0, .int .i64 0, .int .i64 0])), none⟩, ⟨some 4, .mov (.tmp 16), none⟩, ⟨none, .store 7 (.tmp 5) (.tmp 18), none⟩]) (.seq (.dreg 14 [⟨some 19, .mov (.tmp 4), none⟩, ⟨some 20, .mov (.tmp 4), none⟩, ⟨some 21, .faddr (.tmp 5) 1, none⟩, ⟨some 22, .faddr (.tmp 21) 0, none⟩, ⟨some 23, .load none (.tmp 22), none⟩, ⟨some 24, .faddr (.tmp 5) 1, none⟩, ⟨some 25, .faddr (.tmp 24) 1, none⟩, ⟨some 26, .load none (.tmp 25), none⟩, ⟨some 27, .iaddr (.tmp 3) (.con (.int .i64 0)) 51 (some 2), none⟩, ⟨some 28, .faddr (.tmp 27) 9, none⟩, ⟨some 29, .iaddr (.tmp 28) (.tmp 19) 1 (some 21), none⟩, ⟨none, .store 1 (.tmp 29) (.tmp 23), none⟩, ⟨some 30, .iaddr (.tmp 3) (.con (.int .i64 1)) 51 (some 2), none⟩, ⟨some 31, .faddr (.tmp 30) 9, none⟩, ⟨some 32, .iaddr (.tmp 31) (.tmp 20) 1 (some 21), none⟩, ⟨none, .store 1 (.tmp 32) (.tmp 26), none⟩]) (.dreg 14 [⟨some 33, .mov (.tmp 4), none⟩, ⟨some 34, .mov (.tmp 4), none⟩, ⟨some 35, .faddr (.tmp 5) 3, none⟩, ⟨some 36, .faddr (.tmp 35) 0, none⟩, ⟨some 37, .load none (.tmp 36), none⟩, ⟨some 38, .faddr (.tmp 5) 3, none⟩, ⟨some 39, .faddr (.tmp 38) 1, none⟩, ⟨some 40, .load none (.tmp 39), none⟩, ⟨some 41, .iaddr (.tmp 3) (.con (.int .i64 0)) 51 (some 2), none⟩, ⟨some 42, .faddr (.tmp 41) 30, none⟩, ⟨some 43, .iaddr (.tmp 42) (.tmp 33) 1 (some 21), none⟩, ⟨none, .store 1 (.tmp 43) (.tmp 37), none⟩, ⟨some 44, .iaddr (.tmp 3) (.con (.int .i64 1)) 51 (some 2), none⟩, ⟨some 45, .faddr (.tmp 44) 30, none⟩, ⟨some 46, .iaddr (.tmp 45) (.tmp 34) 1 (some 21), none⟩, ⟨none, .store 1 (.tmp 46) (.tmp 40), none⟩])))) (.reg [⟨some 47, .bin .add (.tmp 14) (.con (.int .i64 1)), none⟩, ⟨some 14, .mov (.tmp 47), none⟩]))))))) (.seq (.reg [⟨some 48, .load (some 102) (.tmp 3), none⟩, ⟨none, .store 102 (.tmp 2) (.tmp 48), none⟩]) .ret))))⟩
theorem comp54 : compFn Try.prog 54 = some F54 := by kernel_rfl
def F55 : AFn := ⟨1, 19, [.tmp 2], (.seq (.reg [⟨some 1, .box (.tmp 0), none⟩, ⟨some 2, .mov (.con (.int .i64 0)), none⟩]) (.seq (.reg [⟨some 3, .mov (.con (.int .i64 0)), none⟩]) (.seq (.seq (.reg [⟨some 6, .load (some 51) (.tmp 1), none⟩, ⟨some 7, .call (.con (.fn 82 [] [])) [(.tmp 6)], none⟩, ⟨some 8, .len false (.tmp 7), none⟩, ⟨some 9, .mov (.con (.int .i64 0)), none⟩]) (.block 0 (.loop (.seq (.reg [⟨some 10, .bin .lss (.tmp 9) (.tmp 8), none⟩]) (.seq (.cond (.tmp 10) .skip (.exit 0)) (.seq (.block 1 (.seq (.reg [⟨some 11, .iaddr (.tmp 7) (.tmp 9) 2 none, none⟩, ⟨some 12, .load (some 2) (.tmp 11), none⟩, ⟨some 5, .box (.con (.agg [.int .i64 0, .int .i64 0])), none⟩, ⟨none, .store 2 (.tmp 5) (.tmp 12), none⟩]) (.reg [⟨some 13, .mov (.tmp 3), none⟩, ⟨some 14, .faddr (.tmp 5) 0, none⟩, ⟨some 15, .load none (.tmp 14), none⟩, ⟨some 16, .bin .add (.tmp 13) (.tmp 15), none⟩, ⟨some 3, .mov (.tmp 16), none⟩]))) (.reg [⟨some 17, .bin .add (.tmp 9) (.con (.int .i64 1)), none⟩, ⟨some 9, .mov (.tmp 17), none⟩]))))))) (.seq (.reg [⟨some 18, .mov (.tmp 3), none⟩, ⟨some 2, .mov (.tmp 18), none⟩]) .ret))))⟩
theorem comp55 : compFn Try.prog 55 = some F55 := by kernel_rfl
def F56 : AFn := ⟨3, 16, [.cell 6 (some 2)], (.seq (.reg [⟨some 6, .box (.con (.agg [.int .i64 0, .int .i64 0])), none⟩]) (.seq (.reg [⟨some 7, .mov (.tmp 0), none⟩, ⟨some 8, .mov (.tmp 2), none⟩, ⟨some 9, .call (.con (.fn 83 [] [])) [(.tmp 7), (.tmp 8)], none⟩, ⟨some 10, .mov (.tmp 1), none⟩, ⟨some 11, .un .neg (.tmp 10), none⟩, ⟨some 12, .mov (.tmp 2), none⟩, ⟨some 13, .call (.con (.fn 83 [] [])) [(.tmp 11), (.tmp 12)], none⟩, ⟨some 14, .un .neg (.tmp 13), none⟩, ⟨some 15, .build [.int .i64 0, .int .i64 0] [(0, 1, (.tmp 9)), (1, 1, (.tmp 14))], none⟩, ⟨none, .store 2 (.tmp 6) (.tmp 15), none⟩]) .ret))⟩
theorem comp56 : compFn Try.prog 56 = some F56 := by kernel_rfl
def F57 : AFn := ⟨1, 10, [.tmp 2], (.seq (.reg [⟨some 1, .box (.tmp 0), none⟩, ⟨some 2, .mov (.con (.int .i64 0)), none⟩]) (.seq (.dreg 5 [⟨some 3, .faddr (.tmp 1) 0, none⟩, ⟨some 4, .faddr (.tmp 3) 3, none⟩, ⟨some 5, .load none (.tmp 4), none⟩, ⟨some 6, .load (some 51) (.tmp 1), none⟩, ⟨some 7, .call (.con (.fn 82 [] [])) [(.tmp 6)], none⟩, ⟨some 8, .call (.con (.fn 84 [] [])) [(.tmp 5), (.tmp 7)], none⟩, ⟨some 9, .un .neg (.tmp 8), none⟩, ⟨some 2, .mov (.tmp 9), none⟩]) .ret))⟩
theorem comp57 : compFn Try.prog 57 = some F57 := by kernel_rfl
def F58 : AFn := ⟨1, 9, [.tmp 2], (.seq (.reg [⟨some 1, .box (.tmp 0), none⟩, ⟨some 2, .mov (.con (.int .i64 0)), none⟩]) (.seq (.dreg 5 [⟨some 3, .faddr (.tmp 1) 0, none⟩, ⟨some 4, .faddr (.tmp 3) 2, none⟩, ⟨some 5, .load none (.tmp 4), none⟩, ⟨some 6, .load (some 51) (.tmp 1), none⟩, ⟨some 7, .call (.con (.fn 82 [] [])) [(.tmp 6)], none⟩, ⟨some 8, .call (.con (.fn 84 [] [])) [(.tmp 5), (.tmp 7)], none⟩, ⟨some 2, .mov (.tmp 8), none⟩]) .ret))⟩
theorem comp58 : compFn Try.prog 58 = some F58 := by kernel_rfl
def F59 : AFn := ⟨1, 23, [.tmp 2], (.seq (.reg [⟨some 1, .box (.tmp 0), none⟩, ⟨some 2, .mov (.con (.int .i64 0)), none⟩]) (.seq (.reg [⟨some 5, .faddr (.tmp 1) 0, none⟩, ⟨some 6, .faddr (.tmp 5) 7, none⟩, ⟨some 7, .load none (.tmp 6), none⟩, ⟨some 3, .mov (.tmp 7), none⟩]) (.seq (.seq (.reg [⟨some 8, .faddr (.tmp 1) 0, none⟩, ⟨some 9, .faddr (.tmp 8) 8, none⟩, ⟨some 10, .load none (.tmp 9), none⟩, ⟨some 11, .len false (.tmp 10), none⟩, ⟨some 12, .mov (.con (.int .i64 0)), none⟩]) (.block 0 (.loop (.seq (.reg [⟨some 13, .bin .lss (.tmp 12) (.tmp 11), none⟩]) (.seq (.cond (.tmp 13) .skip (.exit 0)) (.seq (.block 1 (.seq (.reg [⟨some 14, .mov (.tmp 12), none⟩, ⟨some 4, .mov (.tmp 14), none⟩]) (.reg [⟨some 15, .mov (.tmp 3), none⟩, ⟨some 16, .mov (.tmp 4), none⟩, ⟨some 17, .faddr (.tmp 1) 30, none⟩, ⟨some 18, .iaddr (.tmp 17) (.tmp 16) 1 (some 21), none⟩, ⟨some 19, .load none (.tmp 18), none⟩, ⟨some 20, .mx (.tmp 15) (.tmp 19), none⟩, ⟨some 3, .mov (.tmp 20), none⟩]))) (.reg [⟨some 21, .bin .add (.tmp 12) (.con (.int .i64 1)), none⟩, ⟨some 12, .mov (.tmp 21), none⟩]))))))) (.seq (.reg [⟨some 22, .mov (.tmp 3), none⟩, ⟨some 2, .mov (.tmp 22), none⟩]) .ret))))⟩
theorem comp59 : compFn Try.prog 59 = some F59 := by kernel_rfl
def F60 : AFn := ⟨2, 9, [.tmp 4], (.seq (.reg [⟨some 4, .mov (.con (.int .i64 0)), none⟩]) (.seq (.block 0 (.seq (.reg [⟨some 6, .mov (.tmp 0), none⟩, ⟨some 5, .mov (.tmp 6), none⟩]) (.cond (.tmp 5) (.seq (.reg [⟨some 4, .mov (.con (.int .i64 1)), none⟩]) .ret) (.seq (.reg [⟨some 8, .mov (.tmp 1), none⟩, ⟨some 7, .mov (.tmp 8), none⟩]) (.cond (.tmp 7) (.seq (.reg [⟨some 4, .mov (.con (.int .i64 3)), none⟩]) .ret) .skip))))) (.seq (.reg [⟨some 4, .mov (.con (.int .i64 2)), none⟩]) .ret)))⟩
theorem comp60 : compFn Try.prog 60 = some F60 := by kernel_rfl
def F61 : AFn := ⟨1, 11, [.tmp 2], (.seq (.reg [⟨some 1, .box (.tmp 0), none⟩, ⟨some 2, .mov (.con (.bool false)), none⟩]) (.seq (.reg [⟨some 3, .load (some 51) (.tmp 1), none⟩, ⟨some 4, .call (.con (.fn 57 [] [])) [(.tmp 3)], none⟩, ⟨some 5, .bin .geq (.tmp 4) (.con (.int .i64 0)), none⟩, ⟨some 6, .mov (.tmp 5), none⟩, ⟨some 7, .load (some 51) (.tmp 1), some (6, true)⟩, ⟨some 8, .call (.con (.fn 58 [] [])) [(.tmp 7)], some (6, true)⟩, ⟨some 9, .bin .geq (.tmp 8) (.con (.int .i64 0)), some (6, true)⟩, ⟨some 10, .pick (.tmp 6) (.tmp 9) (.con (.bool false)), none⟩, ⟨some 2, .mov (.tmp 10), none⟩]) .ret))⟩
theorem comp61 : compFn Try.prog 61 = some F61 := by kernel_rfl
def F62 : AFn := ⟨2, 13, [.tmp 4], (.seq (.reg [⟨some 2, .box (.tmp 0), none⟩, ⟨some 4, .mov (.con (.int .i64 0)), none⟩]) (.seq (.seq (.reg [⟨some 6, .load (some 9) (.tmp 2), none⟩, ⟨some 7, .call (.con (.fn 53 [] [])) [(.tmp 6)], none⟩, ⟨some 5, .mov (.tmp 7), none⟩]) (.seq (.reg [⟨some 8, .mov (.tmp 5), none⟩, ⟨some 9, .bin .neq (.tmp 8) (.con (.int .i64 0)), none⟩]) (.cond (.tmp 9) (.seq (.reg [⟨some 10, .mov (.tmp 5), none⟩, ⟨some 4, .mov (.tmp 10), none⟩]) .ret) .skip))) (.seq (.reg [⟨some 11, .mov (.tmp 1), none⟩, ⟨some 12, .call (.con (.fn 85 [] [])) [(.tmp 11)], none⟩, ⟨some 4, .mov (.tmp 12), none⟩]) .ret)))⟩
theorem comp62 : compFn Try.prog 62 = some F62 := by kernel_rfl
def F63 : AFn := ⟨2, 37, [.tmp 4], (.seq (.reg [⟨some 2, .box (.tmp 0), none⟩, ⟨some 4, .mov (.con (.nils)), none⟩]) (.seq (.reg [⟨some 11, .load (some 9) (.tmp 2), none⟩, ⟨some 12, .call (.con (.fn 54 [] [])) [(.tmp 11)], none⟩, ⟨some 5, .box (.con (.agg [.int .i64 0, .int .i64 0, .int .i64 0, .int .i64 0, .int .i64 0, .int .i64 0, .int .i64 0, .int .i64 0, .nils, .int .i64 0, .int .i64 0, .int .i64 0, .int .i64 0, .int .i64 0, .int .i64 0, .int .i64 0, .int .i64 0, .int .i64 0, .int .i64 0, .int .i64 0, .int .i64 0, .int .i64 0, .int .i64 0, .int .i64 0, .int .i64 0, .int .i64 0, .int .i64 0, .int .i64 0, .int .i64 0, .int .i64 0, .int .i64 0, .int .i64 0, .int .i64 0, .int .i64 0, .int .i64 0, .int .i64 0, .int .i64 0, .int .i64 0, .int .i64 0, .int .i64 0, .int .i64 0, .int .i64 0, .int .i64 0, .int .i64 0, .int .i64 0, .int .i64 0, .int .i64 0, .int .i64 0, .int .i64 0, .int .i64 0, .int .i64 0, .int .i64 0, .int .i64 0, .int .i64 0, .int .i64 0, .int .i64 0, .int .i64 0, .int .i64 0, .int .i64 0, .nils, .int .i64 0, .int .i64 0, .int .i64 0, .int .i64 0, .int .i64 0, .int .i64 0, .int .i64 0, .int .i64 0, .int .i64 0, .int .i64 0, .int .i64 0, .int .i64 0, .int .i64 0, .int .i64 0, .int .i64 0, .int .i64 0, .int .i64 0, .int .i64 0, .int .i64 0, .int .i64 0, .int .i64 0, .int .i64 0, .int .i64 0, .int .i64 0, .int .i64 0, .int .i64 0, .int .i64 0, .int .i64 0, .int .i64 0, .int .i64 0, .int .i64 0, .int .i64 0, .int .i64 0, .int .i64 0, .int .i64 0, .int .i64 0, .int .i64 0, .int .i64 0, .int .i64 0, .int .i64 0, .int .i64 0, .int .i64 0])), none⟩, ⟨none, .store 102 (.tmp 5) (.tmp 12), none⟩]) (.seq (.dreg 7 [⟨some 13, .iaddr (.tmp 5) (.con (.int .i64 1)) 51 (some 2), none⟩, ⟨some 14, .load (some 51) (.tmp 13), none⟩, ⟨some 15, .mkfn 86 [(.tmp 14)] [], none⟩, ⟨some 16, .iaddr (.tmp 5) (.con (.int .i64 0)) 51 (some 2), none⟩, ⟨some 17, .load (some 51) (.tmp 16), none⟩, ⟨some 18, .mkfn 86 [(.tmp 17)] [], none⟩, ⟨some 6, .mov (.tmp 15), none⟩, ⟨some 7, .mov (.tmp 18), none⟩]) (.seq (.reg [⟨some 8, .mov (.con (.nils)), none⟩]) (.seq (.seq (.reg [⟨some 19, .mov (.tmp 1), none⟩, ⟨some 20, .len false (.tmp 19), none⟩, ⟨some 21, .mov (.con (.int .i64 0)), none⟩]) (.block 0 (.loop (.seq (.reg [⟨some 22, .bin .lss (.tmp 21) (.tmp 20), none⟩]) (.seq (.cond (.tmp 22) .skip (.exit 0)) (.seq (.block 1 (.seq (.reg [⟨some 23, .iaddr (.tmp 19) (.tmp 21) 3 none, none⟩, ⟨some 24, .load (some 3) (.tmp 23), none⟩, ⟨some 10, .box (.con (.agg [.int .i64 0, .int .i64 0, .int .i64 0])), none⟩, ⟨none, .store 3 (.tmp 10) (.tmp 24), none⟩]) (.dreg 9 [⟨some 25, .mov (.tmp 8), none⟩, ⟨some 26, .mov (.tmp 6), none⟩, ⟨some 27, .load (some 3) (.tmp 10), none⟩, ⟨some 28, .call (.tmp 26) [(.tmp 27)], none⟩, ⟨some 29, .mov (.tmp 7), none⟩, ⟨some 30, .load (some 3) (.tmp 10), none⟩, ⟨some 31, .call (.tmp 29) [(.tmp 30)], none⟩, ⟨some 32, .call (.con (.fn 60 [] [])) [(.tmp 28), (.tmp 31)], none⟩, ⟨some 33, .bsl 1 false [.int .i64 0] 1 [(0, (.tmp 32))], none⟩, ⟨some 34, .app (.tmp 25) (.tmp 33) 1 8 [.int .i64 0], none⟩, ⟨some 8, .mov (.tmp 34), none⟩]))) (.reg [⟨some 35, .bin .add (.tmp 21) (.con (.int .i64 1)), none⟩, ⟨some 21, .mov (.tmp 35), none⟩]))))))) (.seq (.reg [⟨some 36, .mov (.tmp 8), none⟩, ⟨some 4, .mov (.tmp 36), none⟩]) .ret))))))⟩
theorem comp63 : compFn Try.prog 63 = some F63 := by kernel_rfl
def F64 : AFn := ⟨0, 15, [.cell 0 (some 9)], (.seq (.reg [⟨some 0, .box (.con (.agg [.int .i64 0, .int .i64 0, .int .i64 0, .int .i64 0, .int .i64 0, .int .i64 0, .int .i64 0, .int .i64 0, .nils])), none⟩]) (.seq (.reg [⟨some 1, .call (.con (.fn 31 [] [])) [(.con (.int .i64 500)), (.con (.int .i64 600))], none⟩, ⟨some 2, .call (.con (.fn 31 [] [])) [(.con (.int .i64 450)), (.con (.int .i64 500))], none⟩, ⟨some 3, .build [.int .i64 0, .int .i64 0, .int .i64 0, .int .i64 0, .int .i64 0, .int .i64 0, .int .i64 0] [(0, 1, (.con (.int .i64 300))), (1, 2, (.tmp 1)), (3, 2, (.tmp 2)), (5, 1, (.con (.int .i64 1)))], none⟩, ⟨some 4, .call (.con (.fn 34 [] [])) [(.con (.int .i64 1000))], none⟩, ⟨some 5, .call (.con (.fn 34 [] [])) [(.con (.int .i64 380))], none⟩, ⟨some 6, .build [.int .i64 0, .int .i64 0, .int .i64 0, .int .i64 0, .int .i64 0, .int .i64 0, .int .i64 0] [(0, 1, (.con (.int .i64 700))), (1, 2, (.tmp 4)), (3, 2, (.tmp 5)), (5, 1, (.con (.int .i64 2))), (6, 1, (.con (.int .i64 5000)))], none⟩, ⟨some 7, .call (.con (.fn 31 [] [])) [(.con (.int .i64 100)), (.con (.int .i64 200))], none⟩, ⟨some 8, .call (.con (.fn 31 [] [])) [(.con (.int .i64 300)), (.con (.int .i64 350))], none⟩, ⟨some 9, .build [.int .i64 0, .int .i64 0, .int .i64 0, .int .i64 0, .int .i64 0, .int .i64 0, .int .i64 0] [(0, 1, (.con (.int .i64 500))), (1, 2, (.tmp 7)), (3, 2, (.tmp 8)), (5, 1, (.con (.int .i64 3))), (6, 1, (.con (.int .i64 3000)))], none⟩, ⟨some 10, .call (.con (.fn 34 [] [])) [(.con (.int .i64 50))], none⟩, ⟨some 11, .call (.con (.fn 31 [] [])) [(.con (.int .i64 400)), (.con (.int .i64 520))], none⟩, ⟨some 12, .build [.int .i64 0, .int .i64 0, .int .i64 0, .int .i64 0, .int .i64 0, .int .i64 0, .int .i64 0] [(0, 1, (.con (.int .i64 600))), (1, 2, (.tmp 10)), (3, 2, (.tmp 11)), (5, 1, (.con (.int .i64 4)))], none⟩, ⟨some 13, .bsl 7 true [.int .i64 0, .int .i64 0, .int .i64 0, .int .i64 0, .int .i64 0, .int .i64 0, .int .i64 0] 4 [(0, (.tmp 3)), (1, (.tmp 6)), (2, (.tmp 9)), (3, (.tmp 12))], none⟩, ⟨some 14, .build [.int .i64 0, .int .i64 0, .int .i64 0, .int .i64 0, .int .i64 0, .int .i64 0, .int .i64 0, .int .i64 0, .nils] [(0, 1, (.con (.int .i64 1000))), (1, 1, (.con (.int .i64 300))), (2, 1, (.con (.int .i64 200))), (3, 1, (.con (.int .i64 800))), (4, 1, (.con (.int .i64 900))), (5, 1, (.con (.int .i64 4000))), (6, 1, (.con (.int .i64 500))), (7, 1, (.con (.int .i64 400))), (8, 1, (.tmp 13))], none⟩, ⟨none, .store 9 (.tmp 0) (.tmp 14), none⟩]) .ret))⟩
theorem comp64 : compFn Try.prog 64 = some F64 := by kernel_rfl
def F65 : AFn := ⟨3, 11, [.cell 6 (some 3)], (.seq (.reg [⟨some 6, .box (.con (.agg [.int .i64 0, .int .i64 0, .int .i64 0])), none⟩]) (.seq (.reg [⟨some 7, .mov (.tmp 0), none⟩, ⟨some 8, .mov (.tmp 1), none⟩, ⟨some 9, .mov (.tmp 2), none⟩, ⟨some 10, .build [.int .i64 0, .int .i64 0, .int .i64 0] [(0, 1, (.tmp 7)), (1, 1, (.tmp 8)), (2, 1, (.tmp 9))], none⟩, ⟨none, .store 3 (.tmp 6) (.tmp 10), none⟩]) .ret))⟩
theorem comp65 : compFn Try.prog 65 = some F65 := by kernel_rfl
def F66 : AFn := ⟨1, 8, [.cell 2 (some 9)], (.seq (.reg [⟨some 2, .box (.con (.agg [.int .i64 0, .int .i64 0, .int .i64 0, .int .i64 0, .int .i64 0, .int .i64 0, .int .i64 0, .int .i64 0, .nils])), none⟩]) (.seq (.reg [⟨some 4, .call (.con (.fn 64 [] [])) [], none⟩, ⟨some 3, .box (.con (.agg [.int .i64 0, .int .i64 0, .int .i64 0, .int .i64 0, .int .i64 0, .int .i64 0, .int .i64 0, .int .i64 0, .nils])), none⟩, ⟨none, .store 9 (.tmp 3) (.tmp 4), none⟩]) (.seq (.reg [⟨some 5, .mov (.tmp 0), none⟩, ⟨some 6, .faddr (.tmp 3) 6, none⟩, ⟨none, .store 1 (.tmp 6) (.tmp 5), none⟩]) (.seq (.reg [⟨some 7, .load (some 9) (.tmp 3), none⟩, ⟨none, .store 9 (.tmp 2) (.tmp 7), none⟩]) .ret))))⟩
theorem comp66 : compFn Try.prog 66 = some F66 := by kernel_rfl
def F67 : AFn := ⟨2, 26, [.tmp 4], (.seq (.reg [⟨some 4, .mov (.con (.bool false)), none⟩]) (.seq (.seq (.reg [⟨some 6, .mov (.tmp 0), none⟩, ⟨some 7, .len false (.tmp 6), none⟩, ⟨some 8, .mov (.tmp 1), none⟩, ⟨some 9, .len false (.tmp 8), none⟩, ⟨some 10, .bin .neq (.tmp 7) (.tmp 9), none⟩]) (.cond (.tmp 10) (.seq (.reg [⟨some 4, .mov (.con (.bool false)), none⟩]) .ret) .skip)) (.seq (.seq (.reg [⟨some 5, .mov (.con (.int .i64 0)), none⟩]) (.block 0 (.loop (.seq (.seq (.reg [⟨some 11, .mov (.tmp 5), none⟩, ⟨some 12, .mov (.tmp 0), none⟩, ⟨some 13, .len false (.tmp 12), none⟩, ⟨some 14, .bin .lss (.tmp 11) (.tmp 13), none⟩]) (.cond (.tmp 14) .skip (.exit 0))) (.seq (.block 1 (.seq (.dreg 8 [⟨some 17, .mov (.tmp 0), none⟩, ⟨some 18, .mov (.tmp 5), none⟩, ⟨some 19, .iaddr (.tmp 17) (.tmp 18) 1 none, none⟩, ⟨some 20, .load none (.tmp 19), none⟩, ⟨some 21, .mov (.tmp 1), none⟩, ⟨some 22, .mov (.tmp 5), none⟩, ⟨some 23, .iaddr (.tmp 21) (.tmp 22) 1 none, none⟩, ⟨some 24, .load none (.tmp 23), none⟩, ⟨some 25, .bin .neq (.tmp 20) (.tmp 24), none⟩]) (.cond (.tmp 25) (.seq (.reg [⟨some 4, .mov (.con (.bool false)), none⟩]) .ret) .skip))) (.reg [⟨some 15, .mov (.tmp 5), none⟩, ⟨some 16, .bin .add (.tmp 15) (.con (.int .i64 1)), none⟩, ⟨some 5, .mov (.tmp 16), none⟩])))))) (.seq (.reg [⟨some 4, .mov (.con (.bool true)), none⟩]) .ret))))⟩
theorem comp67 : compFn Try.prog 67 = some F67 := by kernel_rfl
def F69 : AFn := ⟨3, 15, [.tmp 6], (.seq (.reg [⟨some 6, .mov (.con (.bool false)), none⟩]) (.seq (.reg [⟨some 7, .mov (.tmp 0), none⟩, ⟨some 8, .mov (.tmp 1), none⟩, ⟨some 9, .bin .geq (.tmp 7) (.tmp 8), none⟩, ⟨some 10, .mov (.tmp 9), none⟩, ⟨some 11, .mov (.tmp 0), some (10, true)⟩, ⟨some 12, .mov (.tmp 2), some (10, true)⟩, ⟨some 13, .bin .leq (.tmp 11) (.tmp 12), some (10, true)⟩, ⟨some 14, .pick (.tmp 10) (.tmp 13) (.con (.bool false)), none⟩, ⟨some 6, .mov (.tmp 14), none⟩]) .ret))⟩
theorem comp69 : compFn Try.prog 69 = some F69 := by kernel_rfl
def F70 : AFn := ⟨2, 26, [.tmp 4], (.seq (.reg [⟨some 4, .mov (.con (.int .i64 0)), none⟩]) (.seq (.reg [⟨some 8, .mov (.tmp 0), none⟩, ⟨some 5, .mov (.con (.int .i64 0)), none⟩, ⟨some 6, .mov (.tmp 8), none⟩]) (.seq (.block 0 (.loop (.seq (.seq (.reg [⟨some 9, .mov (.tmp 5), none⟩, ⟨some 10, .mov (.tmp 6), none⟩, ⟨some 11, .bin .lss (.tmp 9) (.tmp 10), none⟩]) (.cond (.tmp 11) .skip (.exit 0))) (.block 1 (.seq (.reg [⟨some 12, .mov (.tmp 5), none⟩, ⟨some 13, .mov (.tmp 6), none⟩, ⟨some 14, .bin .add (.tmp 12) (.tmp 13), none⟩, ⟨some 15, .conv .u64 (.tmp 14), none⟩, ⟨some 16, .bin .shr (.tmp 15) (.con (.int .u64 1)), none⟩, ⟨some 17, .conv .i64 (.tmp 16), none⟩, ⟨some 7, .mov (.tmp 17), none⟩]) (.seq (.reg [⟨some 18, .mov (.tmp 1), none⟩, ⟨some 19, .mov (.tmp 7), none⟩, ⟨some 20, .call (.tmp 18) [(.tmp 19)], none⟩, ⟨some 21, .un .not (.tmp 20), none⟩]) (.cond (.tmp 21) (.reg [⟨some 22, .mov (.tmp 7), none⟩, ⟨some 23, .bin .add (.tmp 22) (.con (.int .i64 1)), none⟩, ⟨some 5, .mov (.tmp 23), none⟩]) (.reg [⟨some 24, .mov (.tmp 7), none⟩, ⟨some 6, .mov (.tmp 24), none⟩])))))))) (.seq (.reg [⟨some 25, .mov (.tmp 5), none⟩, ⟨some 4, .mov (.tmp 25), none⟩]) .ret))))⟩
theorem comp70 : compFn Try.prog 70 = some F70 := by kernel_rfl
def F71 : AFn := ⟨1, 12, [.tmp 4], (.seq (.reg [⟨some 4, .mov (.con (.bool false)), none⟩]) (.seq (.reg [⟨some 5, .load (some 9) (.tmp 1), none⟩, ⟨some 6, .load none (.tmp 2), none⟩, ⟨some 7, .mov (.tmp 0), none⟩, ⟨some 8, .call (.con (.fn 72 [] [])) [(.tmp 5), (.tmp 6), (.tmp 7)], none⟩, ⟨some 9, .call (.con (.fn 54 [] [])) [(.tmp 8)], none⟩, ⟨some 10, .aidx (.tmp 9) (.con (.int .i64 0)) 2 51 (some 51), none⟩, ⟨some 11, .call (.con (.fn 61 [] [])) [(.tmp 10)], none⟩, ⟨some 4, .mov (.tmp 11), none⟩]) .ret))⟩
theorem comp71 : compFn Try.prog 71 = some F71 := by kernel_rfl
def F72 : AFn := ⟨3, 21, [.cell 6 (some 9)], (.seq (.reg [⟨some 3, .box (.tmp 0), none⟩, ⟨some 6, .box (.con (.agg [.int .i64 0, .int .i64 0, .int .i64 0, .int .i64 0, .int .i64 0, .int .i64 0, .int .i64 0, .int .i64 0, .nils])), none⟩]) (.seq (.reg [⟨some 8, .mov (.tmp 1), none⟩, ⟨some 9, .mov (.tmp 2), none⟩, ⟨some 10, .mov (.tmp 2), none⟩, ⟨some 11, .build [.int .i64 0, .int .i64 0] [(0, 1, (.tmp 9)), (1, 1, (.tmp 10))], none⟩, ⟨some 12, .build [.int .i64 0, .int .i64 0, .int .i64 0, .int .i64 0, .int .i64 0, .int .i64 0, .int .i64 0] [(0, 1, (.tmp 8)), (1, 2, (.tmp 11)), (5, 1, (.con (.int .i64 1)))], none⟩, ⟨some 7, .box (.con (.agg [.int .i64 0, .int .i64 0, .int .i64 0, .int .i64 0, .int .i64 0, .int .i64 0, .int .i64 0])), none⟩, ⟨none, .store 7 (.tmp 7) (.tmp 12), none⟩]) (.seq (.dreg 5 [⟨some 13, .faddr (.tmp 3) 8, none⟩, ⟨some 14, .load none (.tmp 13), none⟩, ⟨some 15, .call (.con (.fn 87 [] [])) [(.tmp 14)], none⟩, ⟨some 16, .load (some 7) (.tmp 7), none⟩, ⟨some 17, .bsl 7 true [.int .i64 0, .int .i64 0, .int .i64 0, .int .i64 0, .int .i64 0, .int .i64 0, .int .i64 0] 1 [(0, (.tmp 16))], none⟩, ⟨some 18, .app (.tmp 15) (.tmp 17) 7 56 [.int .i64 0, .int .i64 0, .int .i64 0, .int .i64 0, .int .i64 0, .int .i64 0, .int .i64 0], none⟩, ⟨some 19, .faddr (.tmp 3) 8, none⟩, ⟨none, .store 1 (.tmp 19) (.tmp 18), none⟩]) (.seq (.reg [⟨some 20, .load (some 9) (.tmp 3), none⟩, ⟨none, .store 9 (.tmp 6) (.tmp 20), none⟩]) .ret))))⟩
theorem comp72 : compFn Try.prog 72 = some F72 := by kernel_rfl
def F73 : AFn := ⟨1, 13, [.tmp 5], (.seq (.reg [⟨some 5, .mov (.con (.bool false)), none⟩]) (.seq (.dreg 5 [⟨some 6, .load (some 9) (.tmp 1), none⟩, ⟨some 7, .load none (.tmp 2), none⟩, ⟨some 8, .mov (.tmp 0), none⟩, ⟨some 9, .call (.con (.fn 72 [] [])) [(.tmp 6), (.tmp 7), (.tmp 8)], none⟩, ⟨some 10, .load none (.tmp 3), none⟩, ⟨some 11, .call (.con (.fn 74 [] [])) [(.tmp 9), (.tmp 10)], none⟩, ⟨some 12, .bin .geq (.tmp 11) (.con (.int .i64 0)), none⟩, ⟨some 5, .mov (.tmp 12), none⟩]) .ret))⟩
theorem comp73 : compFn Try.prog 73 = some F73 := by kernel_rfl
def F74 : AFn := ⟨2, 9, [.tmp 4], (.seq (.reg [⟨some 2, .box (.tmp 0), none⟩, ⟨some 4, .mov (.con (.int .i64 0)), none⟩]) (.seq (.reg [⟨some 5, .load (some 9) (.tmp 2), none⟩, ⟨some 6, .mov (.tmp 1), none⟩, ⟨some 7, .call (.con (.fn 63 [] [])) [(.tmp 5), (.tmp 6)], none⟩, ⟨some 8, .call (.con (.fn 88 [] [])) [(.tmp 7), (.con (.fn 89 [] []))], none⟩, ⟨some 4, .mov (.tmp 8), none⟩]) .ret))⟩
theorem comp74 : compFn Try.prog 74 = some F74 := by kernel_rfl
def F77 : AFn := ⟨1, 81, [.tmp 2], (.seq (.reg [⟨some 1, .box (.tmp 0), none⟩, ⟨some 2, .mov (.con (.int .i64 0)), none⟩]) (.seq (.seq (.reg [⟨some 5, .faddr (.tmp 1) 0, none⟩, ⟨some 6, .load none (.tmp 5), none⟩, ⟨some 7, .call (.con (.fn 91 [] [])) [(.tmp 6), (.con (.int .i64 1)), (.con (.int .i64 3000))], none⟩, ⟨some 8, .un .not (.tmp 7), none⟩, ⟨some 9, .mov (.tmp 8), none⟩, ⟨some 10, .faddr (.tmp 1) 1, some (9, false)⟩, ⟨some 11, .load none (.tmp 10), some (9, false)⟩, ⟨some 12, .call (.con (.fn 91 [] [])) [(.tmp 11), (.con (.int .i64 1)), (.con (.int .i64 1000))], some (9, false)⟩, ⟨some 13, .un .not (.tmp 12), some (9, false)⟩, ⟨some 14, .pick (.tmp 9) (.con (.bool true)) (.tmp 13), none⟩, ⟨some 15, .mov (.tmp 14), none⟩, ⟨some 16, .faddr (.tmp 1) 2, some (15, false)⟩, ⟨some 17, .load none (.tmp 16), some (15, false)⟩, ⟨some 18, .faddr (.tmp 1) 0, some (15, false)⟩, ⟨some 19, .load none (.tmp 18), some (15, false)⟩, ⟨some 20, .call (.con (.fn 91 [] [])) [(.tmp 17), (.con (.int .i64 0)), (.tmp 19)], some (15, false)⟩, ⟨some 21, .un .not (.tmp 20), some (15, false)⟩, ⟨some 22, .pick (.tmp 15) (.con (.bool true)) (.tmp 21), none⟩, ⟨some 23, .mov (.tmp 22), none⟩, ⟨some 24, .faddr (.tmp 1) 3, some (23, false)⟩, ⟨some 25, .load none (.tmp 24), some (23, false)⟩, ⟨some 26, .faddr (.tmp 1) 0, some (23, false)⟩, ⟨some 27, .load none (.tmp 26), some (23, false)⟩, ⟨some 28, .call (.con (.fn 91 [] [])) [(.tmp 25), (.con (.int .i64 0)), (.tmp 27)], some (23, false)⟩, ⟨some 29, .un .not (.tmp 28), some (23, false)⟩, ⟨some 30, .pick (.tmp 23) (.con (.bool true)) (.tmp 29), none⟩]) (.cond (.tmp 30) (.seq (.reg [⟨some 2, .mov (.con (.int .i64 2)), none⟩]) .ret) .skip)) (.seq (.seq (.reg [⟨some 31, .faddr (.tmp 1) 2, none⟩, ⟨some 32, .load none (.tmp 31), none⟩, ⟨some 33, .faddr (.tmp 1) 3, none⟩, ⟨some 34, .load none (.tmp 33), none⟩, ⟨some 35, .bin .geq (.tmp 32) (.tmp 34), none⟩]) (.cond (.tmp 35) (.seq (.reg [⟨some 2, .mov (.con (.int .i64 9)), none⟩]) .ret) .skip)) (.seq (.seq (.reg [⟨some 36, .faddr (.tmp 1) 4, none⟩, ⟨some 37, .load none (.tmp 36), none⟩, ⟨some 38, .call (.con (.fn 91 [] [])) [(.tmp 37), (.con (.int .i64 0)), (.con (.int .i64 20000))], none⟩, ⟨some 39, .un .not (.tmp 38), none⟩, ⟨some 40, .mov (.tmp 39), none⟩, ⟨some 41, .faddr (.tmp 1) 5, some (40, false)⟩, ⟨some 42, .load none (.tmp 41), some (40, false)⟩, ⟨some 43, .call (.con (.fn 91 [] [])) [(.tmp 42), (.con (.int .i64 0)), (.con (.int .i64 100000))], some (40, false)⟩, ⟨some 44, .un .not (.tmp 43), some (40, false)⟩, ⟨some 45, .pick (.tmp 40) (.con (.bool true)) (.tmp 44), none⟩, ⟨some 46, .mov (.tmp 45), none⟩, ⟨some 47, .faddr (.tmp 1) 6, some (46, false)⟩, ⟨some 48, .load none (.tmp 47), some (46, false)⟩, ⟨some 49, .faddr (.tmp 1) 0, some (46, false)⟩, ⟨some 50, .load none (.tmp 49), some (46, false)⟩, ⟨some 51, .call (.con (.fn 91 [] [])) [(.tmp 48), (.con (.int .i64 0)), (.tmp 50)], some (46, false)⟩, ⟨some 52, .un .not (.tmp 51), some (46, false)⟩, ⟨some 53, .pick (.tmp 46) (.con (.bool true)) (.tmp 52), none⟩, ⟨some 54, .mov (.tmp 53), none⟩, ⟨some 55, .faddr (.tmp 1) 7, some (54, false)⟩, ⟨some 56, .load none (.tmp 55), some (54, false)⟩, ⟨some 57, .call (.con (.fn 91 [] [])) [(.tmp 56), (.con (.int .i64 0)), (.con (.int .i64 2000))], some (54, false)⟩, ⟨some 58, .un .not (.tmp 57), some (54, false)⟩, ⟨some 59, .pick (.tmp 54) (.con (.bool true)) (.tmp 58), none⟩]) (.cond (.tmp 59) (.seq (.reg [⟨some 2, .mov (.con (.int .i64 2)), none⟩]) .ret) .skip)) (.seq (.seq (.reg [⟨some 60, .faddr (.tmp 1) 8, none⟩, ⟨some 61, .load none (.tmp 60), none⟩, ⟨some 62, .len false (.tmp 61), none⟩, ⟨some 63, .bin .gtr (.tmp 62) (.con (.int .i64 20)), none⟩]) (.cond (.tmp 63) (.seq (.reg [⟨some 2, .mov (.con (.int .i64 5)), none⟩]) .ret) .skip)) (.seq (.seq (.reg [⟨some 3, .mov (.con (.int .i64 0)), none⟩]) (.block 0 (.loop (.seq (.seq (.reg [⟨some 64, .mov (.tmp 3), none⟩, ⟨some 65, .faddr (.tmp 1) 8, none⟩, ⟨some 66, .load none (.tmp 65), none⟩, ⟨some 67, .len false (.tmp 66), none⟩, ⟨some 68, .bin .lss (.tmp 64) (.tmp 67), none⟩]) (.cond (.tmp 68) .skip (.exit 0))) (.seq (.block 1 (.seq (.dreg 6 [⟨some 71, .load (some 9) (.tmp 1), none⟩, ⟨some 72, .faddr (.tmp 1) 8, none⟩, ⟨some 73, .load none (.tmp 72), none⟩, ⟨some 74, .mov (.tmp 3), none⟩, ⟨some 75, .iaddr (.tmp 73) (.tmp 74) 7 none, none⟩, ⟨some 76, .load (some 7) (.tmp 75), none⟩, ⟨some 77, .call (.con (.fn 92 [] [])) [(.tmp 71), (.tmp 76)], none⟩, ⟨some 4, .mov (.tmp 77), none⟩]) (.seq (.reg [⟨some 78, .mov (.tmp 4), none⟩, ⟨some 79, .bin .neq (.tmp 78) (.con (.int .i64 0)), none⟩]) (.cond (.tmp 79) (.seq (.reg [⟨some 80, .mov (.tmp 4), none⟩, ⟨some 2, .mov (.tmp 80), none⟩]) .ret) .skip)))) (.reg [⟨some 69, .mov (.tmp 3), none⟩, ⟨some 70, .bin .add (.tmp 69) (.con (.int .i64 1)), none⟩, ⟨some 3, .mov (.tmp 70), none⟩])))))) (.seq (.reg [⟨some 2, .mov (.con (.int .i64 0)), none⟩]) .ret)))))))⟩
theorem comp77 : compFn Try.prog 77 = some F77 := by kernel_rfl
def F78 : AFn := ⟨1, 37, [.cell 2 (some 2)], (.seq (.reg [⟨some 1, .box (.tmp 0), none⟩, ⟨some 2, .box (.con (.agg [.nils, .nils])), none⟩]) (.seq (.reg [⟨some 3, .box (.con (.agg [.nils, .nils])), none⟩]) (.seq (.seq (.reg [⟨some 4, .mov (.con (.int .i64 0)), none⟩]) (.block 0 (.loop (.seq (.seq (.reg [⟨some 5, .mov (.tmp 4), none⟩, ⟨some 6, .faddr (.tmp 1) 8, none⟩, ⟨some 7, .load none (.tmp 6), none⟩, ⟨some 8, .len false (.tmp 7), none⟩, ⟨some 9, .bin .lss (.tmp 5) (.tmp 8), none⟩]) (.cond (.tmp 9) .skip (.exit 0))) (.seq (.block 1 (.dreg 23 [⟨some 12, .faddr (.tmp 3) 0, none⟩, ⟨some 13, .load none (.tmp 12), none⟩, ⟨some 14, .faddr (.tmp 1) 8, none⟩, ⟨some 15, .load none (.tmp 14), none⟩, ⟨some 16, .mov (.tmp 4), none⟩, ⟨some 17, .iaddr (.tmp 15) (.tmp 16) 7 none, none⟩, ⟨some 18, .faddr (.tmp 17) 1, none⟩, ⟨some 19, .faddr (.tmp 18) 0, none⟩, ⟨some 20, .load none (.tmp 19), none⟩, ⟨some 21, .bsl 1 false [.int .i64 0] 1 [(0, (.tmp 20))], none⟩, ⟨some 22, .app (.tmp 13) (.tmp 21) 1 8 [.int .i64 0], none⟩, ⟨some 23, .faddr (.tmp 3) 1, none⟩, ⟨some 24, .load none (.tmp 23), none⟩, ⟨some 25, .faddr (.tmp 1) 8, none⟩, ⟨some 26, .load none (.tmp 25), none⟩, ⟨some 27, .mov (.tmp 4), none⟩, ⟨some 28, .iaddr (.tmp 26) (.tmp 27) 7 none, none⟩, ⟨some 29, .faddr (.tmp 28) 3, none⟩, ⟨some 30, .faddr (.tmp 29) 0, none⟩, ⟨some 31, .load none (.tmp 30), none⟩, ⟨some 32, .bsl 1 false [.int .i64 0] 1 [(0, (.tmp 31))], none⟩, ⟨some 33, .app (.tmp 24) (.tmp 32) 1 8 [.int .i64 0], none⟩, ⟨some 34, .faddr (.tmp 3) 0, none⟩, ⟨none, .store 1 (.tmp 34) (.tmp 22), none⟩, ⟨some 35, .faddr (.tmp 3) 1, none⟩, ⟨none, .store 1 (.tmp 35) (.tmp 33), none⟩])) (.reg [⟨some 10, .mov (.tmp 4), none⟩, ⟨some 11, .bin .add (.tmp 10) (.con (.int .i64 1)), none⟩, ⟨some 4, .mov (.tmp 11), none⟩])))))) (.seq (.reg [⟨some 36, .load (some 2) (.tmp 3), none⟩, ⟨none, .store 2 (.tmp 2) (.tmp 36), none⟩]) .ret))))⟩
theorem comp78 : compFn Try.prog 78 = some F78 := by kernel_rfl
def F79 : AFn := ⟨1, 37, [.cell 2 (some 2)], (.seq (.reg [⟨some 1, .box (.tmp 0), none⟩, ⟨some 2, .box (.con (.agg [.nils, .nils])), none⟩]) (.seq (.reg [⟨some 3, .box (.con (.agg [.nils, .nils])), none⟩]) (.seq (.seq (.reg [⟨some 4, .mov (.con (.int .i64 0)), none⟩]) (.block 0 (.loop (.seq (.seq (.reg [⟨some 5, .mov (.tmp 4), none⟩, ⟨some 6, .faddr (.tmp 1) 8, none⟩, ⟨some 7, .load none (.tmp 6), none⟩, ⟨some 8, .len false (.tmp 7), none⟩, ⟨some 9, .bin .lss (.tmp 5) (.tmp 8), none⟩]) (.cond (.tmp 9) .skip (.exit 0))) (.seq (.block 1 (.dreg 23 [⟨some 12, .faddr (.tmp 3) 0, none⟩, ⟨some 13, .load none (.tmp 12), none⟩, ⟨some 14, .faddr (.tmp 1) 8, none⟩, ⟨some 15, .load none (.tmp 14), none⟩, ⟨some 16, .mov (.tmp 4), none⟩, ⟨some 17, .iaddr (.tmp 15) (.tmp 16) 7 none, none⟩, ⟨some 18, .faddr (.tmp 17) 1, none⟩, ⟨some 19, .faddr (.tmp 18) 1, none⟩, ⟨some 20, .load none (.tmp 19), none⟩, ⟨some 21, .bsl 1 false [.int .i64 0] 1 [(0, (.tmp 20))], none⟩, ⟨some 22, .app (.tmp 13) (.tmp 21) 1 8 [.int .i64 0], none⟩, ⟨some 23, .faddr (.tmp 3) 1, none⟩, ⟨some 24, .load none (.tmp 23), none⟩, ⟨some 25, .faddr (.tmp 1) 8, none⟩, ⟨some 26, .load none (.tmp 25), none⟩, ⟨some 27, .mov (.tmp 4), none⟩, ⟨some 28, .iaddr (.tmp 26) (.tmp 27) 7 none, none⟩, ⟨some 29, .faddr (.tmp 28) 3, none⟩, ⟨some 30, .faddr (.tmp 29) 1, none⟩, ⟨some 31, .load none (.tmp 30), none⟩, ⟨some 32, .bsl 1 false [.int .i64 0] 1 [(0, (.tmp 31))], none⟩, ⟨some 33, .app (.tmp 24) (.tmp 32) 1 8 [.int .i64 0], none⟩, ⟨some 34, .faddr (.tmp 3) 0, none⟩, ⟨none, .store 1 (.tmp 34) (.tmp 22), none⟩, ⟨some 35, .faddr (.tmp 3) 1, none⟩, ⟨none, .store 1 (.tmp 35) (.tmp 33), none⟩])) (.reg [⟨some 10, .mov (.tmp 4), none⟩, ⟨some 11, .bin .add (.tmp 10) (.con (.int .i64 1)), none⟩, ⟨some 4, .mov (.tmp 11), none⟩])))))) (.seq (.reg [⟨some 36, .load (some 2) (.tmp 3), none⟩, ⟨none, .store 2 (.tmp 2) (.tmp 36), none⟩]) .ret))))⟩
theorem comp79 : compFn Try.prog 79 = some F79 := by kernel_rfl
def F80 : AFn := ⟨1, 59, [.tmp 2], (.seq (.reg [⟨some 1, .box (.tmp 0), none⟩, ⟨some 2, .mov (.con (.int .i64 0)), none⟩]) (.seq (.block 0 (.seq (.reg [⟨some 4, .faddr (.tmp 1) 0, none⟩, ⟨some 5, .load none (.tmp 4), none⟩, ⟨some 6, .call (.con (.fn 69 [] [])) [(.tmp 5), (.con (.int .i64 1)), (.con (.int .i64 3000))], none⟩, ⟨some 7, .un .not (.tmp 6), none⟩, ⟨some 8, .mov (.tmp 7), none⟩, ⟨some 9, .faddr (.tmp 1) 1, some (8, false)⟩, ⟨some 10, .load none (.tmp 9), some (8, false)⟩, ⟨some 11, .call (.con (.fn 69 [] [])) [(.tmp 10), (.con (.int .i64 1)), (.con (.int .i64 1000))], some (8, false)⟩, ⟨some 12, .un .not (.tmp 11), some (8, false)⟩, ⟨some 13, .pick (.tmp 8) (.con (.bool true)) (.tmp 12), none⟩, ⟨some 3, .mov (.tmp 13), none⟩]) (.cond (.tmp 3) (.seq (.reg [⟨some 2, .mov (.con (.int .i64 2)), none⟩]) .ret) (.seq (.reg [⟨some 15, .faddr (.tmp 1) 2, none⟩, ⟨some 16, .load none (.tmp 15), none⟩, ⟨some 17, .faddr (.tmp 1) 0, none⟩, ⟨some 18, .load none (.tmp 17), none⟩, ⟨some 19, .call (.con (.fn 69 [] [])) [(.tmp 16), (.con (.int .i64 0)), (.tmp 18)], none⟩, ⟨some 20, .un .not (.tmp 19), none⟩, ⟨some 21, .mov (.tmp 20), none⟩, ⟨some 22, .faddr (.tmp 1) 3, some (21, false)⟩, ⟨some 23, .load none (.tmp 22), some (21, false)⟩, ⟨some 24, .faddr (.tmp 1) 0, some (21, false)⟩, ⟨some 25, .load none (.tmp 24), some (21, false)⟩, ⟨some 26, .call (.con (.fn 69 [] [])) [(.tmp 23), (.con (.int .i64 0)), (.tmp 25)], some (21, false)⟩, ⟨some 27, .un .not (.tmp 26), some (21, false)⟩, ⟨some 28, .pick (.tmp 21) (.con (.bool true)) (.tmp 27), none⟩, ⟨some 14, .mov (.tmp 28), none⟩]) (.cond (.tmp 14) (.seq (.reg [⟨some 2, .mov (.con (.int .i64 2)), none⟩]) .ret) (.seq (.reg [⟨some 30, .faddr (.tmp 1) 2, none⟩, ⟨some 31, .load none (.tmp 30), none⟩, ⟨some 32, .faddr (.tmp 1) 3, none⟩, ⟨some 33, .load none (.tmp 32), none⟩, ⟨some 34, .bin .geq (.tmp 31) (.tmp 33), none⟩, ⟨some 29, .mov (.tmp 34), none⟩]) (.cond (.tmp 29) (.seq (.reg [⟨some 2, .mov (.con (.int .i64 9)), none⟩]) .ret) (.seq (.reg [⟨some 36, .faddr (.tmp 1) 4, none⟩, ⟨some 37, .load none (.tmp 36), none⟩, ⟨some 38, .call (.con (.fn 69 [] [])) [(.tmp 37), (.con (.int .i64 0)), (.con (.int .i64 20000))], none⟩, ⟨some 39, .un .not (.tmp 38), none⟩, ⟨some 40, .mov (.tmp 39), none⟩, ⟨some 41, .faddr (.tmp 1) 5, some (40, false)⟩, ⟨some 42, .load none (.tmp 41), some (40, false)⟩, ⟨some 43, .call (.con (.fn 69 [] [])) [(.tmp 42), (.con (.int .i64 0)), (.con (.int .i64 100000))], some (40, false)⟩, ⟨some 44, .un .not (.tmp 43), some (40, false)⟩, ⟨some 45, .pick (.tmp 40) (.con (.bool true)) (.tmp 44), none⟩, ⟨some 35, .mov (.tmp 45), none⟩]) (.cond (.tmp 35) (.seq (.reg [⟨some 2, .mov (.con (.int .i64 2)), none⟩]) .ret) (.seq (.reg [⟨some 47, .faddr (.tmp 1) 6, none⟩, ⟨some 48, .load none (.tmp 47), none⟩, ⟨some 49, .faddr (.tmp 1) 0, none⟩, ⟨some 50, .load none (.tmp 49), none⟩, ⟨some 51, .call (.con (.fn 69 [] [])) [(.tmp 48), (.con (.int .i64 0)), (.tmp 50)], none⟩, ⟨some 52, .un .not (.tmp 51), none⟩, ⟨some 53, .mov (.tmp 52), none⟩, ⟨some 54, .faddr (.tmp 1) 7, some (53, false)⟩, ⟨some 55, .load none (.tmp 54), some (53, false)⟩, ⟨some 56, .call (.con (.fn 69 [] [])) [(.tmp 55), (.con (.int .i64 0)), (.con (.int .i64 2000))], some (53, false)⟩, ⟨some 57, .un .not (.tmp 56), some (53, false)⟩, ⟨some 58, .pick (.tmp 53) (.con (.bool true)) (.tmp 57), none⟩, ⟨some 46, .mov (.tmp 58), none⟩]) (.cond (.tmp 46) (.seq (.reg [⟨some 2, .mov (.con (.int .i64 2)), none⟩]) .ret) .skip))))))))))) (.seq (.reg [⟨some 2, .mov (.con (.int .i64 0)), none⟩]) .ret)))⟩
theorem comp80 : compFn Try.prog 80 = some F80 := by kernel_rfl
def F81 : AFn := ⟨2, 51, [.tmp 4], (.seq (.reg [⟨some 2, .box (.tmp 0), none⟩, ⟨some 3, .box (.tmp 1), none⟩, ⟨some 4, .mov (.con (.int .i64 0)), none⟩]) (.seq (.seq (.reg [⟨some 7, .faddr (.tmp 3) 0, none⟩, ⟨some 8, .load none (.tmp 7), none⟩, ⟨some 9, .faddr (.tmp 2) 2, none⟩, ⟨some 10, .load none (.tmp 9), none⟩, ⟨some 11, .faddr (.tmp 2) 3, none⟩, ⟨some 12, .load none (.tmp 11), none⟩, ⟨some 13, .call (.con (.fn 69 [] [])) [(.tmp 8), (.tmp 10), (.tmp 12)], none⟩, ⟨some 14, .un .not (.tmp 13), none⟩]) (.cond (.tmp 14) (.seq (.reg [⟨some 4, .mov (.con (.int .i64 2)), none⟩]) .ret) .skip)) (.seq (.seq (.reg [⟨some 15, .faddr (.tmp 3) 1, none⟩, ⟨some 16, .load (some 2) (.tmp 15), none⟩, ⟨some 17, .call (.con (.fn 93 [] [])) [(.tmp 16), (.con (.int .i64 100000))], none⟩, ⟨some 5, .mov (.tmp 17), none⟩]) (.seq (.reg [⟨some 18, .mov (.tmp 5), none⟩, ⟨some 19, .bin .neq (.tmp 18) (.con (.int .i64 0)), none⟩]) (.cond (.tmp 19) (.seq (.reg [⟨some 20, .mov (.tmp 5), none⟩, ⟨some 4, .mov (.tmp 20), none⟩]) .ret) .skip))) (.seq (.seq (.reg [⟨some 21, .faddr (.tmp 3) 3, none⟩, ⟨some 22, .load (some 2) (.tmp 21), none⟩, ⟨some 23, .call (.con (.fn 93 [] [])) [(.tmp 22), (.con (.int .i64 2000))], none⟩, ⟨some 6, .mov (.tmp 23), none⟩]) (.seq (.reg [⟨some 24, .mov (.tmp 6), none⟩, ⟨some 25, .bin .neq (.tmp 24) (.con (.int .i64 0)), none⟩]) (.cond (.tmp 25) (.seq (.reg [⟨some 26, .mov (.tmp 6), none⟩, ⟨some 4, .mov (.tmp 26), none⟩]) .ret) .skip))) (.seq (.block 0 (.seq (.reg [⟨some 28, .faddr (.tmp 3) 5, none⟩, ⟨some 29, .load none (.tmp 28), none⟩, ⟨some 30, .call (.con (.fn 69 [] [])) [(.tmp 29), (.con (.int .i64 1)), (.con (.int .i64 4))], none⟩, ⟨some 31, .un .not (.tmp 30), none⟩, ⟨some 27, .mov (.tmp 31), none⟩]) (.cond (.tmp 27) (.seq (.reg [⟨some 4, .mov (.con (.int .i64 3)), none⟩]) .ret) (.seq (.reg [⟨some 33, .faddr (.tmp 3) 6, none⟩, ⟨some 34, .load none (.tmp 33), none⟩, ⟨some 35, .call (.con (.fn 69 [] [])) [(.tmp 34), (.con (.int .i64 0)), (.con (.int .i64 1000000))], none⟩, ⟨some 36, .un .not (.tmp 35), none⟩, ⟨some 32, .mov (.tmp 36), none⟩]) (.cond (.tmp 32) (.seq (.reg [⟨some 4, .mov (.con (.int .i64 2)), none⟩]) .ret) (.seq (.reg [⟨some 38, .faddr (.tmp 3) 6, none⟩, ⟨some 39, .load none (.tmp 38), none⟩, ⟨some 40, .bin .gtr (.tmp 39) (.con (.int .i64 0)), none⟩, ⟨some 41, .mov (.tmp 40), none⟩, ⟨some 42, .faddr (.tmp 3) 5, some (41, true)⟩, ⟨some 43, .load none (.tmp 42), some (41, true)⟩, ⟨some 44, .bin .neq (.tmp 43) (.con (.int .i64 2)), some (41, true)⟩, ⟨some 45, .pick (.tmp 41) (.tmp 44) (.con (.bool false)), none⟩, ⟨some 46, .mov (.tmp 45), none⟩, ⟨some 47, .faddr (.tmp 3) 5, some (46, true)⟩, ⟨some 48, .load none (.tmp 47), some (46, true)⟩, ⟨some 49, .bin .neq (.tmp 48) (.con (.int .i64 3)), some (46, true)⟩, ⟨some 50, .pick (.tmp 46) (.tmp 49) (.con (.bool false)), none⟩, ⟨some 37, .mov (.tmp 50), none⟩]) (.cond (.tmp 37) (.seq (.reg [⟨some 4, .mov (.con (.int .i64 1)), none⟩]) .ret) .skip))))))) (.seq (.reg [⟨some 4, .mov (.con (.int .i64 0)), none⟩]) .ret))))))⟩
theorem comp81 : compFn Try.prog 81 = some F81 := by kernel_rfl
def F82 : AFn := ⟨1, 35, [.tmp 2], (.seq (.reg [⟨some 1, .box (.tmp 0), none⟩, ⟨some 2, .mov (.con (.nils)), none⟩]) (.seq (.reg [⟨some 6, .faddr (.tmp 1) 0, none⟩, ⟨some 7, .faddr (.tmp 6) 5, none⟩, ⟨some 8, .load none (.tmp 7), none⟩, ⟨some 9, .faddr (.tmp 1) 0, none⟩, ⟨some 10, .faddr (.tmp 9) 6, none⟩, ⟨some 11, .load none (.tmp 10), none⟩, ⟨some 12, .build [.int .i64 0, .int .i64 0] [(0, 1, (.tmp 8)), (1, 1, (.tmp 11))], none⟩, ⟨some 13, .bsl 2 true [.int .i64 0, .int .i64 0] 1 [(0, (.tmp 12))], none⟩, ⟨some 3, .mov (.tmp 13), none⟩]) (.seq (.seq (.reg [⟨some 14, .faddr (.tmp 1) 0, none⟩, ⟨some 15, .faddr (.tmp 14) 8, none⟩, ⟨some 16, .load none (.tmp 15), none⟩, ⟨some 17, .len false (.tmp 16), none⟩, ⟨some 18, .mov (.con (.int .i64 0)), none⟩]) (.block 0 (.loop (.seq (.reg [⟨some 19, .bin .lss (.tmp 18) (.tmp 17), none⟩]) (.seq (.cond (.tmp 19) .skip (.exit 0)) (.seq (.block 1 (.seq (.reg [⟨some 20, .mov (.tmp 18), none⟩, ⟨some 21, .iaddr (.tmp 16) (.tmp 18) 7 none, none⟩, ⟨some 22, .load (some 7) (.tmp 21), none⟩, ⟨some 5, .box (.con (.agg [.int .i64 0, .int .i64 0, .int .i64 0, .int .i64 0, .int .i64 0, .int .i64 0, .int .i64 0])), none⟩, ⟨some 4, .mov (.tmp 20), none⟩, ⟨none, .store 7 (.tmp 5) (.tmp 22), none⟩]) (.dreg 9 [⟨some 23, .mov (.tmp 3), none⟩, ⟨some 24, .mov (.tmp 4), none⟩, ⟨some 25, .faddr (.tmp 1) 9, none⟩, ⟨some 26, .iaddr (.tmp 25) (.tmp 24) 1 (some 21), none⟩, ⟨some 27, .load none (.tmp 26), none⟩, ⟨some 28, .faddr (.tmp 5) 0, none⟩, ⟨some 29, .load none (.tmp 28), none⟩, ⟨some 30, .build [.int .i64 0, .int .i64 0] [(0, 1, (.tmp 27)), (1, 1, (.tmp 29))], none⟩, ⟨some 31, .bsl 2 true [.int .i64 0, .int .i64 0] 1 [(0, (.tmp 30))], none⟩, ⟨some 32, .app (.tmp 23) (.tmp 31) 2 16 [.int .i64 0, .int .i64 0], none⟩, ⟨some 3, .mov (.tmp 32), none⟩]))) (.reg [⟨some 33, .bin .add (.tmp 18) (.con (.int .i64 1)), none⟩, ⟨some 18, .mov (.tmp 33), none⟩]))))))) (.seq (.reg [⟨some 34, .mov (.tmp 3), none⟩, ⟨some 2, .mov (.tmp 34), none⟩]) .ret))))⟩
theorem comp82 : compFn Try.prog 82 = some F82 := by kernel_rfl
def F83 : AFn := ⟨2, 16, [.tmp 4], (.seq (.reg [⟨some 4, .mov (.con (.int .i64 0)), none⟩]) (.seq (.reg [⟨some 6, .mov (.tmp 0), none⟩, ⟨some 7, .mov (.tmp 1), none⟩, ⟨some 8, .bin .quo (.tmp 6) (.tmp 7), none⟩, ⟨some 5, .mov (.tmp 8), none⟩]) (.seq (.seq (.reg [⟨some 9, .mov (.tmp 0), none⟩, ⟨some 10, .mov (.tmp 1), none⟩, ⟨some 11, .bin .rem (.tmp 9) (.tmp 10), none⟩, ⟨some 12, .bin .lss (.tmp 11) (.con (.int .i64 0)), none⟩]) (.cond (.tmp 12) (.reg [⟨some 13, .mov (.tmp 5), none⟩, ⟨some 14, .bin .sub (.tmp 13) (.con (.int .i64 1)), none⟩, ⟨some 5, .mov (.tmp 14), none⟩]) .skip)) (.seq (.reg [⟨some 15, .mov (.tmp 5), none⟩, ⟨some 4, .mov (.tmp 15), none⟩]) .ret))))⟩
theorem comp83 : compFn Try.prog 83 = some F83 := by kernel_rfl
def F84 : AFn := ⟨2, 25, [.tmp 4], (.seq (.reg [⟨some 4, .mov (.con (.int .i64 0)), none⟩]) (.seq (.reg [⟨some 5, .mov (.con (.int .i64 0)), none⟩]) (.seq (.seq (.reg [⟨some 8, .mov (.tmp 1), none⟩, ⟨some 9, .len false (.tmp 8), none⟩, ⟨some 10, .mov (.con (.int .i64 0)), none⟩]) (.block 0 (.loop (.seq (.reg [⟨some 11, .bin .lss (.tmp 10) (.tmp 9), none⟩]) (.seq (.cond (.tmp 11) .skip (.exit 0)) (.seq (.block 1 (.seq (.reg [⟨some 12, .iaddr (.tmp 8) (.tmp 10) 2 none, none⟩, ⟨some 13, .load (some 2) (.tmp 12), none⟩, ⟨some 7, .box (.con (.agg [.int .i64 0, .int .i64 0])), none⟩, ⟨none, .store 2 (.tmp 7) (.tmp 13), none⟩]) (.reg [⟨some 14, .mov (.tmp 5), none⟩, ⟨some 15, .faddr (.tmp 7) 0, none⟩, ⟨some 16, .load none (.tmp 15), none⟩, ⟨some 17, .faddr (.tmp 7) 1, none⟩, ⟨some 18, .load none (.tmp 17), none⟩, ⟨some 19, .mov (.tmp 0), none⟩, ⟨some 20, .bin .sub (.tmp 18) (.tmp 19), none⟩, ⟨some 21, .bin .mul (.tmp 16) (.tmp 20), none⟩, ⟨some 22, .bin .add (.tmp 14) (.tmp 21), none⟩, ⟨some 5, .mov (.tmp 22), none⟩]))) (.reg [⟨some 23, .bin .add (.tmp 10) (.con (.int .i64 1)), none⟩, ⟨some 10, .mov (.tmp 23), none⟩]))))))) (.seq (.reg [⟨some 24, .mov (.tmp 5), none⟩, ⟨some 4, .mov (.tmp 24), none⟩]) .ret))))⟩
theorem comp84 : compFn Try.prog 84 = some F84 := by kernel_rfl
def F85 : AFn := ⟨1, 21, [.tmp 2], (.seq (.reg [⟨some 2, .mov (.con (.int .i64 0)), none⟩]) (.seq (.seq (.reg [⟨some 6, .mov (.tmp 0), none⟩, ⟨some 7, .len false (.tmp 6), none⟩, ⟨some 8, .bin .gtr (.tmp 7) (.con (.int .i64 40)), none⟩]) (.cond (.tmp 8) (.seq (.reg [⟨some 2, .mov (.con (.int .i64 5)), none⟩]) .ret) .skip)) (.seq (.seq (.reg [⟨some 9, .mov (.tmp 0), none⟩, ⟨some 10, .len false (.tmp 9), none⟩, ⟨some 11, .mov (.con (.int .i64 0)), none⟩]) (.block 0 (.loop (.seq (.reg [⟨some 12, .bin .lss (.tmp 11) (.tmp 10), none⟩]) (.seq (.cond (.tmp 12) .skip (.exit 0)) (.seq (.block 1 (.seq (.reg [⟨some 13, .iaddr (.tmp 9) (.tmp 11) 3 none, none⟩, ⟨some 14, .load (some 3) (.tmp 13), none⟩, ⟨some 4, .box (.con (.agg [.int .i64 0, .int .i64 0, .int .i64 0])), none⟩, ⟨none, .store 3 (.tmp 4) (.tmp 14), none⟩]) (.seq (.reg [⟨some 15, .load (some 3) (.tmp 4), none⟩, ⟨some 16, .call (.con (.fn 94 [] [])) [(.tmp 15)], none⟩, ⟨some 5, .mov (.tmp 16), none⟩]) (.seq (.reg [⟨some 17, .mov (.tmp 5), none⟩, ⟨some 18, .bin .neq (.tmp 17) (.con (.int .i64 0)), none⟩]) (.cond (.tmp 18) (.seq (.reg [⟨some 19, .mov (.tmp 5), none⟩, ⟨some 2, .mov (.tmp 19), none⟩]) .ret) .skip))))) (.reg [⟨some 20, .bin .add (.tmp 11) (.con (.int .i64 1)), none⟩, ⟨some 11, .mov (.tmp 20), none⟩]))))))) (.seq (.reg [⟨some 2, .mov (.con (.int .i64 0)), none⟩]) .ret))))⟩
theorem comp85 : compFn Try.prog 85 = some F85 := by kernel_rfl
def F86 : AFn := ⟨2, 28, [.tmp 4], (.seq (.reg [⟨some 2, .box (.tmp 0), none⟩, ⟨some 3, .box (.tmp 1), none⟩, ⟨some 4, .mov (.con (.bool false)), none⟩]) (.seq (.seq (.reg [⟨some 5, .faddr (.tmp 3) 0, none⟩, ⟨some 6, .load none (.tmp 5), none⟩]) (.block 0 (.seq (.reg [⟨some 8, .bin .eql (.tmp 6) (.con (.int .i64 1)), none⟩, ⟨some 7, .mov (.tmp 8), none⟩]) (.cond (.tmp 7) (.seq (.reg [⟨some 9, .load (some 51) (.tmp 2), none⟩, ⟨some 10, .faddr (.tmp 3) 1, none⟩, ⟨some 11, .load none (.tmp 10), none⟩, ⟨some 12, .faddr (.tmp 3) 2, none⟩, ⟨some 13, .load none (.tmp 12), none⟩, ⟨some 14, .call (.con (.fn 95 [] [])) [(.tmp 9), (.tmp 11), (.tmp 13)], none⟩, ⟨some 4, .mov (.tmp 14), none⟩]) .ret) (.seq (.reg [⟨some 16, .bin .eql (.tmp 6) (.con (.int .i64 2)), none⟩, ⟨some 15, .mov (.tmp 16), none⟩]) (.cond (.tmp 15) (.seq (.dreg 4 [⟨some 17, .load (some 51) (.tmp 2), none⟩, ⟨some 18, .call (.con (.fn 59 [] [])) [(.tmp 17)], none⟩, ⟨some 19, .faddr (.tmp 3) 1, none⟩, ⟨some 20, .load none (.tmp 19), none⟩, ⟨some 21, .bin .leq (.tmp 18) (.tmp 20), none⟩, ⟨some 4, .mov (.tmp 21), none⟩]) .ret) .skip)))))) (.seq (.reg [⟨some 22, .load (some 51) (.tmp 2), none⟩, ⟨some 23, .faddr (.tmp 3) 1, none⟩, ⟨some 24, .load none (.tmp 23), none⟩, ⟨some 25, .faddr (.tmp 3) 2, none⟩, ⟨some 26, .load none (.tmp 25), none⟩, ⟨some 27, .call (.con (.fn 96 [] [])) [(.tmp 22), (.tmp 24), (.tmp 26)], none⟩, ⟨some 4, .mov (.tmp 27), none⟩]) .ret)))⟩
theorem comp86 : compFn Try.prog 86 = some F86 := by kernel_rfl
def F87 : AFn := ⟨1, 8, [.tmp 2], (.seq (.reg [⟨some 2, .mov (.con (.nils)), none⟩]) (.seq (.seq (.reg [⟨some 3, .mov (.tmp 0), none⟩, ⟨some 4, .eqn false 0 (.tmp 3) (.con (.nils)), none⟩]) (.cond (.tmp 4) (.seq (.reg [⟨some 2, .mov (.con (.nils)), none⟩]) .ret) .skip)) (.seq (.reg [⟨some 5, .bsl 7 true [.int .i64 0, .int .i64 0, .int .i64 0, .int .i64 0, .int .i64 0, .int .i64 0, .int .i64 0] 0 [], none⟩, ⟨some 6, .mov (.tmp 0), none⟩, ⟨some 7, .app (.tmp 5) (.tmp 6) 7 56 [.int .i64 0, .int .i64 0, .int .i64 0, .int .i64 0, .int .i64 0, .int .i64 0, .int .i64 0], none⟩, ⟨some 2, .mov (.tmp 7), none⟩]) .ret)))⟩
theorem comp87 : compFn Try.prog 87 = some F87 := by kernel_rfl
def F88 : AFn := ⟨2, 19, [.tmp 4], (.seq (.reg [⟨some 4, .mov (.con (.int .i64 0)), none⟩]) (.seq (.seq (.reg [⟨some 6, .mov (.tmp 0), none⟩, ⟨some 7, .len false (.tmp 6), none⟩, ⟨some 8, .mov (.con (.int .i64 0)), none⟩]) (.block 0 (.loop (.seq (.reg [⟨some 9, .bin .lss (.tmp 8) (.tmp 7), none⟩]) (.seq (.cond (.tmp 9) .skip (.exit 0)) (.seq (.block 1 (.seq (.reg [⟨some 10, .mov (.tmp 8), none⟩, ⟨some 5, .mov (.tmp 10), none⟩]) (.seq (.reg [⟨some 11, .mov (.tmp 1), none⟩, ⟨some 12, .mov (.tmp 0), none⟩, ⟨some 13, .mov (.tmp 5), none⟩, ⟨some 14, .iaddr (.tmp 12) (.tmp 13) 1 none, none⟩, ⟨some 15, .load none (.tmp 14), none⟩, ⟨some 16, .call (.tmp 11) [(.tmp 15)], none⟩]) (.cond (.tmp 16) (.seq (.reg [⟨some 17, .mov (.tmp 5), none⟩, ⟨some 4, .mov (.tmp 17), none⟩]) .ret) .skip)))) (.reg [⟨some 18, .bin .add (.tmp 8) (.con (.int .i64 1)), none⟩, ⟨some 8, .mov (.tmp 18), none⟩]))))))) (.seq (.reg [⟨some 4, .mov (.con (.int .i64 (-1))), none⟩]) .ret)))⟩
theorem comp88 : compFn Try.prog 88 = some F88 := by kernel_rfl
def F89 : AFn := ⟨1, 5, [.tmp 2], (.seq (.reg [⟨some 2, .mov (.con (.bool false)), none⟩]) (.seq (.reg [⟨some 3, .mov (.tmp 0), none⟩, ⟨some 4, .bin .neq (.tmp 3) (.con (.int .i64 1)), none⟩, ⟨some 2, .mov (.tmp 4), none⟩]) .ret))⟩
theorem comp89 : compFn Try.prog 89 = some F89 := by kernel_rfl
def F91 : AFn := ⟨3, 15, [.tmp 6], (.seq (.reg [⟨some 6, .mov (.con (.bool false)), none⟩]) (.seq (.reg [⟨some 7, .mov (.tmp 0), none⟩, ⟨some 8, .mov (.tmp 1), none⟩, ⟨some 9, .bin .geq (.tmp 7) (.tmp 8), none⟩, ⟨some 10, .mov (.tmp 9), none⟩, ⟨some 11, .mov (.tmp 0), some (10, true)⟩, ⟨some 12, .mov (.tmp 2), some (10, true)⟩, ⟨some 13, .bin .leq (.tmp 11) (.tmp 12), some (10, true)⟩, ⟨some 14, .pick (.tmp 10) (.tmp 13) (.con (.bool false)), none⟩, ⟨some 6, .mov (.tmp 14), none⟩]) .ret))⟩
theorem comp91 : compFn Try.prog 91 = some F91 := by kernel_rfl
def F92 : AFn := ⟨2, 48, [.tmp 4], (.seq (.reg [⟨some 2, .box (.tmp 0), none⟩, ⟨some 3, .box (.tmp 1), none⟩, ⟨some 4, .mov (.con (.int .i64 0)), none⟩]) (.seq (.seq (.reg [⟨some 7, .faddr (.tmp 3) 0, none⟩, ⟨some 8, .load none (.tmp 7), none⟩, ⟨some 9, .faddr (.tmp 2) 2, none⟩, ⟨some 10, .load none (.tmp 9), none⟩, ⟨some 11, .faddr (.tmp 2) 3, none⟩, ⟨some 12, .load none (.tmp 11), none⟩, ⟨some 13, .call (.con (.fn 91 [] [])) [(.tmp 8), (.tmp 10), (.tmp 12)], none⟩, ⟨some 14, .un .not (.tmp 13), none⟩]) (.cond (.tmp 14) (.seq (.reg [⟨some 4, .mov (.con (.int .i64 2)), none⟩]) .ret) .skip)) (.seq (.seq (.reg [⟨some 15, .faddr (.tmp 3) 1, none⟩, ⟨some 16, .load (some 2) (.tmp 15), none⟩, ⟨some 17, .call (.con (.fn 97 [] [])) [(.tmp 16), (.con (.int .i64 100000))], none⟩, ⟨some 5, .mov (.tmp 17), none⟩]) (.seq (.reg [⟨some 18, .mov (.tmp 5), none⟩, ⟨some 19, .bin .neq (.tmp 18) (.con (.int .i64 0)), none⟩]) (.cond (.tmp 19) (.seq (.reg [⟨some 20, .mov (.tmp 5), none⟩, ⟨some 4, .mov (.tmp 20), none⟩]) .ret) .skip))) (.seq (.seq (.reg [⟨some 21, .faddr (.tmp 3) 3, none⟩, ⟨some 22, .load (some 2) (.tmp 21), none⟩, ⟨some 23, .call (.con (.fn 97 [] [])) [(.tmp 22), (.con (.int .i64 2000))], none⟩, ⟨some 6, .mov (.tmp 23), none⟩]) (.seq (.reg [⟨some 24, .mov (.tmp 6), none⟩, ⟨some 25, .bin .neq (.tmp 24) (.con (.int .i64 0)), none⟩]) (.cond (.tmp 25) (.seq (.reg [⟨some 26, .mov (.tmp 6), none⟩, ⟨some 4, .mov (.tmp 26), none⟩]) .ret) .skip))) (.seq (.seq (.reg [⟨some 27, .faddr (.tmp 3) 5, none⟩, ⟨some 28, .load none (.tmp 27), none⟩, ⟨some 29, .call (.con (.fn 91 [] [])) [(.tmp 28), (.con (.int .i64 1)), (.con (.int .i64 4))], none⟩, ⟨some 30, .un .not (.tmp 29), none⟩]) (.cond (.tmp 30) (.seq (.reg [⟨some 4, .mov (.con (.int .i64 3)), none⟩]) .ret) .skip)) (.seq (.seq (.reg [⟨some 31, .faddr (.tmp 3) 6, none⟩, ⟨some 32, .load none (.tmp 31), none⟩, ⟨some 33, .call (.con (.fn 91 [] [])) [(.tmp 32), (.con (.int .i64 0)), (.con (.int .i64 1000000))], none⟩, ⟨some 34, .un .not (.tmp 33), none⟩]) (.cond (.tmp 34) (.seq (.reg [⟨some 4, .mov (.con (.int .i64 2)), none⟩]) .ret) .skip)) (.seq (.seq (.reg [⟨some 35, .faddr (.tmp 3) 6, none⟩, ⟨some 36, .load none (.tmp 35), none⟩, ⟨some 37, .bin .gtr (.tmp 36) (.con (.int .i64 0)), none⟩, ⟨some 38, .mov (.tmp 37), none⟩, ⟨some 39, .faddr (.tmp 3) 5, some (38, true)⟩, ⟨some 40, .load none (.tmp 39), some (38, true)⟩, ⟨some 41, .bin .neq (.tmp 40) (.con (.int .i64 2)), some (38, true)⟩, ⟨some 42, .pick (.tmp 38) (.tmp 41) (.con (.bool false)), none⟩, ⟨some 43, .mov (.tmp 42), none⟩, ⟨some 44, .faddr (.tmp 3) 5, some (43, true)⟩, ⟨some 45, .load none (.tmp 44), some (43, true)⟩, ⟨some 46, .bin .neq (.tmp 45) (.con (.int .i64 3)), some (43, true)⟩, ⟨some 47, .pick (.tmp 43) (.tmp 46) (.con (.bool false)), none⟩]) (.cond (.tmp 47) (.seq (.reg [⟨some 4, .mov (.con (.int .i64 1)), none⟩]) .ret) .skip)) (.seq (.reg [⟨some 4, .mov (.con (.int .i64 0)), none⟩]) .ret))))))))⟩
theorem comp92 : compFn Try.prog 92 = some F92 := by kernel_rfl
def F93 : AFn := ⟨2, 24, [.tmp 4], (.seq (.reg [⟨some 2, .box (.tmp 0), none⟩, ⟨some 4, .mov (.con (.int .i64 0)), none⟩]) (.seq (.block 0 (.seq (.reg [⟨some 6, .faddr (.tmp 2) 0, none⟩, ⟨some 7, .load none (.tmp 6), none⟩, ⟨some 8, .mov (.tmp 1), none⟩, ⟨some 9, .call (.con (.fn 69 [] [])) [(.tmp 7), (.con (.int .i64 0)), (.tmp 8)], none⟩, ⟨some 10, .un .not (.tmp 9), none⟩, ⟨some 11, .mov (.tmp 10), none⟩, ⟨some 12, .faddr (.tmp 2) 1, some (11, false)⟩, ⟨some 13, .load none (.tmp 12), some (11, false)⟩, ⟨some 14, .mov (.tmp 1), some (11, false)⟩, ⟨some 15, .call (.con (.fn 69 [] [])) [(.tmp 13), (.con (.int .i64 0)), (.tmp 14)], some (11, false)⟩, ⟨some 16, .un .not (.tmp 15), some (11, false)⟩, ⟨some 17, .pick (.tmp 11) (.con (.bool true)) (.tmp 16), none⟩, ⟨some 5, .mov (.tmp 17), none⟩]) (.cond (.tmp 5) (.seq (.reg [⟨some 4, .mov (.con (.int .i64 2)), none⟩]) .ret) (.seq (.reg [⟨some 19, .faddr (.tmp 2) 0, none⟩, ⟨some 20, .load none (.tmp 19), none⟩, ⟨some 21, .faddr (.tmp 2) 1, none⟩, ⟨some 22, .load none (.tmp 21), none⟩, ⟨some 23, .bin .gtr (.tmp 20) (.tmp 22), none⟩, ⟨some 18, .mov (.tmp 23), none⟩]) (.cond (.tmp 18) (.seq (.reg [⟨some 4, .mov (.con (.int .i64 9)), none⟩]) .ret) .skip))))) (.seq (.reg [⟨some 4, .mov (.con (.int .i64 0)), none⟩]) .ret)))⟩
theorem comp93 : compFn Try.prog 93 = some F93 := by kernel_rfl
def F94 : AFn := ⟨1, 17, [.tmp 2], (.seq (.reg [⟨some 1, .box (.tmp 0), none⟩, ⟨some 2, .mov (.con (.int .i64 0)), none⟩]) (.seq (.seq (.reg [⟨some 3, .faddr (.tmp 1) 0, none⟩, ⟨some 4, .load none (.tmp 3), none⟩]) (.block 0 (.seq (.reg [⟨some 6, .bin .eql (.tmp 4) (.con (.int .i64 1)), none⟩, ⟨some 5, .mov (.tmp 6), none⟩]) (.cond (.tmp 5) (.seq (.reg [⟨some 7, .load (some 3) (.tmp 1), none⟩, ⟨some 8, .call (.con (.fn 98 [] [])) [(.tmp 7)], none⟩, ⟨some 2, .mov (.tmp 8), none⟩]) .ret) (.seq (.reg [⟨some 10, .bin .eql (.tmp 4) (.con (.int .i64 2)), none⟩, ⟨some 9, .mov (.tmp 10), none⟩]) (.cond (.tmp 9) (.seq (.reg [⟨some 11, .load (some 3) (.tmp 1), none⟩, ⟨some 12, .call (.con (.fn 99 [] [])) [(.tmp 11)], none⟩, ⟨some 2, .mov (.tmp 12), none⟩]) .ret) (.seq (.reg [⟨some 14, .bin .eql (.tmp 4) (.con (.int .i64 3)), none⟩, ⟨some 13, .mov (.tmp 14), none⟩]) (.cond (.tmp 13) (.seq (.reg [⟨some 15, .load (some 3) (.tmp 1), none⟩, ⟨some 16, .call (.con (.fn 100 [] [])) [(.tmp 15)], none⟩, ⟨some 2, .mov (.tmp 16), none⟩]) .ret) .skip)))))))) (.seq (.reg [⟨some 2, .mov (.con (.int .i64 3)), none⟩]) .ret)))⟩
theorem comp94 : compFn Try.prog 94 = some F94 := by kernel_rfl
def F95 : AFn := ⟨3, 46, [.tmp 6], (.seq (.reg [⟨some 3, .box (.tmp 0), none⟩, ⟨some 4, .box (.tmp 1), none⟩, ⟨some 6, .mov (.con (.bool false)), none⟩]) (.seq (.reg [⟨some 10, .mkfn 101 [] [(.tmp 3), (.tmp 4)], none⟩, ⟨some 11, .call (.con (.fn 70 [] [])) [(.con (.int .i64 21000)), (.tmp 10)], none⟩, ⟨some 7, .mov (.tmp 11), none⟩]) (.seq (.reg [⟨some 12, .faddr (.tmp 3) 0, none⟩, ⟨some 13, .faddr (.tmp 12) 4, none⟩, ⟨some 14, .load none (.tmp 13), none⟩, ⟨some 15, .mov (.tmp 7), none⟩, ⟨some 16, .bin .add (.tmp 14) (.tmp 15), none⟩, ⟨some 17, .bin .mul (.con (.int .i64 2)) (.tmp 16), none⟩, ⟨some 18, .faddr (.tmp 3) 0, none⟩, ⟨some 19, .faddr (.tmp 18) 1, none⟩, ⟨some 20, .load none (.tmp 19), none⟩, ⟨some 21, .bin .add (.tmp 17) (.tmp 20), none⟩, ⟨some 8, .mov (.tmp 21), none⟩]) (.seq (.reg [⟨some 22, .faddr (.tmp 3) 0, none⟩, ⟨some 23, .faddr (.tmp 22) 3, none⟩, ⟨some 24, .load none (.tmp 23), none⟩, ⟨some 25, .faddr (.tmp 3) 0, none⟩, ⟨some 26, .faddr (.tmp 25) 0, none⟩, ⟨some 27, .load none (.tmp 26), none⟩, ⟨some 28, .faddr (.tmp 3) 0, none⟩, ⟨some 29, .faddr (.tmp 28) 3, none⟩, ⟨some 30, .load none (.tmp 29), none⟩, ⟨some 31, .bin .sub (.tmp 27) (.tmp 30), none⟩, ⟨some 32, .mx (.tmp 24) (.tmp 31), none⟩, ⟨some 33, .bin .mul (.con (.int .i64 2)) (.tmp 32), none⟩, ⟨some 9, .mov (.tmp 33), none⟩]) (.seq (.reg [⟨some 34, .mov (.tmp 8), none⟩, ⟨some 35, .mov (.tmp 8), none⟩, ⟨some 36, .bin .mul (.tmp 34) (.tmp 35), none⟩, ⟨some 37, .mov (.tmp 9), none⟩, ⟨some 38, .mov (.tmp 9), none⟩, ⟨some 39, .bin .mul (.tmp 37) (.tmp 38), none⟩, ⟨some 40, .bin .add (.tmp 36) (.tmp 39), none⟩, ⟨some 41, .mov (.tmp 2), none⟩, ⟨some 42, .bin .mul (.con (.int .i64 4)) (.tmp 41), none⟩, ⟨some 43, .mov (.tmp 2), none⟩, ⟨some 44, .bin .mul (.tmp 42) (.tmp 43), none⟩, ⟨some 45, .bin .leq (.tmp 40) (.tmp 44), none⟩, ⟨some 6, .mov (.tmp 45), none⟩]) .ret)))))⟩
theorem comp95 : compFn Try.prog 95 = some F95 := by kernel_rfl
def F96 : AFn := ⟨3, 33, [.tmp 6], (.seq (.reg [⟨some 3, .box (.tmp 0), none⟩, ⟨some 6, .mov (.con (.bool false)), none⟩]) (.seq (.reg [⟨some 8, .mov (.tmp 2), none⟩, ⟨some 9, .faddr (.tmp 3) 0, none⟩, ⟨some 10, .faddr (.tmp 9) 3, none⟩, ⟨some 11, .load none (.tmp 10), none⟩, ⟨some 12, .faddr (.tmp 3) 0, none⟩, ⟨some 13, .faddr (.tmp 12) 2, none⟩, ⟨some 14, .load none (.tmp 13), none⟩, ⟨some 15, .bin .sub (.tmp 11) (.tmp 14), none⟩, ⟨some 16, .bin .mul (.tmp 8) (.tmp 15), none⟩, ⟨some 7, .mov (.tmp 16), none⟩]) (.seq (.reg [⟨some 17, .load (some 51) (.tmp 3), none⟩, ⟨some 18, .call (.con (.fn 55 [] [])) [(.tmp 17)], none⟩, ⟨some 19, .mov (.tmp 1), none⟩, ⟨some 20, .bin .leq (.tmp 18) (.tmp 19), none⟩, ⟨some 21, .mov (.tmp 20), none⟩, ⟨some 22, .load (some 51) (.tmp 3), some (21, true)⟩, ⟨some 23, .call (.con (.fn 57 [] [])) [(.tmp 22)], some (21, true)⟩, ⟨some 24, .mov (.tmp 7), some (21, true)⟩, ⟨some 25, .bin .leq (.tmp 23) (.tmp 24), some (21, true)⟩, ⟨some 26, .pick (.tmp 21) (.tmp 25) (.con (.bool false)), none⟩, ⟨some 27, .mov (.tmp 26), none⟩, ⟨some 28, .load (some 51) (.tmp 3), some (27, true)⟩, ⟨some 29, .call (.con (.fn 58 [] [])) [(.tmp 28)], some (27, true)⟩, ⟨some 30, .mov (.tmp 7), some (27, true)⟩, ⟨some 31, .bin .leq (.tmp 29) (.tmp 30), some (27, true)⟩, ⟨some 32, .pick (.tmp 27) (.tmp 31) (.con (.bool false)), none⟩, ⟨some 6, .mov (.tmp 32), none⟩]) .ret)))⟩
theorem comp96 : compFn Try.prog 96 = some F96 := by kernel_rfl
def F97 : AFn := ⟨2, 22, [.tmp 4], (.seq (.reg [⟨some 2, .box (.tmp 0), none⟩, ⟨some 4, .mov (.con (.int .i64 0)), none⟩]) (.seq (.seq (.reg [⟨some 5, .faddr (.tmp 2) 0, none⟩, ⟨some 6, .load none (.tmp 5), none⟩, ⟨some 7, .mov (.tmp 1), none⟩, ⟨some 8, .call (.con (.fn 91 [] [])) [(.tmp 6), (.con (.int .i64 0)), (.tmp 7)], none⟩, ⟨some 9, .un .not (.tmp 8), none⟩, ⟨some 10, .mov (.tmp 9), none⟩, ⟨some 11, .faddr (.tmp 2) 1, some (10, false)⟩, ⟨some 12, .load none (.tmp 11), some (10, false)⟩, ⟨some 13, .mov (.tmp 1), some (10, false)⟩, ⟨some 14, .call (.con (.fn 91 [] [])) [(.tmp 12), (.con (.int .i64 0)), (.tmp 13)], some (10, false)⟩, ⟨some 15, .un .not (.tmp 14), some (10, false)⟩, ⟨some 16, .pick (.tmp 10) (.con (.bool true)) (.tmp 15), none⟩]) (.cond (.tmp 16) (.seq (.reg [⟨some 4, .mov (.con (.int .i64 2)), none⟩]) .ret) .skip)) (.seq (.seq (.reg [⟨some 17, .faddr (.tmp 2) 0, none⟩, ⟨some 18, .load none (.tmp 17), none⟩, ⟨some 19, .faddr (.tmp 2) 1, none⟩, ⟨some 20, .load none (.tmp 19), none⟩, ⟨some 21, .bin .gtr (.tmp 18) (.tmp 20), none⟩]) (.cond (.tmp 21) (.seq (.reg [⟨some 4, .mov (.con (.int .i64 9)), none⟩]) .ret) .skip)) (.seq (.reg [⟨some 4, .mov (.con (.int .i64 0)), none⟩]) .ret))))⟩
theorem comp97 : compFn Try.prog 97 = some F97 := by kernel_rfl
def F98 : AFn := ⟨1, 20, [.tmp 2], (.seq (.reg [⟨some 1, .box (.tmp 0), none⟩, ⟨some 2, .mov (.con (.int .i64 0)), none⟩]) (.seq (.block 0 (.seq (.reg [⟨some 4, .faddr (.tmp 1) 1, none⟩, ⟨some 5, .load none (.tmp 4), none⟩, ⟨some 6, .call (.con (.fn 69 [] [])) [(.tmp 5), (.con (.int .i64 0)), (.con (.int .i64 20000))], none⟩, ⟨some 7, .un .not (.tmp 6), none⟩, ⟨some 8, .mov (.tmp 7), none⟩, ⟨some 9, .faddr (.tmp 1) 2, some (8, false)⟩, ⟨some 10, .load none (.tmp 9), some (8, false)⟩, ⟨some 11, .call (.con (.fn 69 [] [])) [(.tmp 10), (.con (.int .i64 0)), (.con (.int .i64 20000))], some (8, false)⟩, ⟨some 12, .un .not (.tmp 11), some (8, false)⟩, ⟨some 13, .pick (.tmp 8) (.con (.bool true)) (.tmp 12), none⟩, ⟨some 3, .mov (.tmp 13), none⟩]) (.cond (.tmp 3) (.seq (.reg [⟨some 2, .mov (.con (.int .i64 2)), none⟩]) .ret) (.seq (.reg [⟨some 15, .faddr (.tmp 1) 1, none⟩, ⟨some 16, .load none (.tmp 15), none⟩, ⟨some 17, .faddr (.tmp 1) 2, none⟩, ⟨some 18, .load none (.tmp 17), none⟩, ⟨some 19, .bin .geq (.tmp 16) (.tmp 18), none⟩, ⟨some 14, .mov (.tmp 19), none⟩]) (.cond (.tmp 14) (.seq (.reg [⟨some 2, .mov (.con (.int .i64 9)), none⟩]) .ret) .skip))))) (.seq (.reg [⟨some 2, .mov (.con (.int .i64 0)), none⟩]) .ret)))⟩
theorem comp98 : compFn Try.prog 98 = some F98 := by kernel_rfl
def F99 : AFn := ⟨1, 12, [.tmp 2], (.seq (.reg [⟨some 1, .box (.tmp 0), none⟩, ⟨some 2, .mov (.con (.int .i64 0)), none⟩]) (.seq (.block 0 (.seq (.reg [⟨some 4, .faddr (.tmp 1) 1, none⟩, ⟨some 5, .load none (.tmp 4), none⟩, ⟨some 6, .call (.con (.fn 69 [] [])) [(.tmp 5), (.con (.int .i64 0)), (.con (.int .i64 2000))], none⟩, ⟨some 7, .un .not (.tmp 6), none⟩, ⟨some 3, .mov (.tmp 7), none⟩]) (.cond (.tmp 3) (.seq (.reg [⟨some 2, .mov (.con (.int .i64 2)), none⟩]) .ret) (.seq (.reg [⟨some 9, .faddr (.tmp 1) 2, none⟩, ⟨some 10, .load none (.tmp 9), none⟩, ⟨some 11, .bin .neq (.tmp 10) (.con (.int .i64 0)), none⟩, ⟨some 8, .mov (.tmp 11), none⟩]) (.cond (.tmp 8) (.seq (.reg [⟨some 2, .mov (.con (.int .i64 1)), none⟩]) .ret) .skip))))) (.seq (.reg [⟨some 2, .mov (.con (.int .i64 0)), none⟩]) .ret)))⟩
theorem comp99 : compFn Try.prog 99 = some F99 := by kernel_rfl
def F100 : AFn := ⟨1, 13, [.tmp 2], (.seq (.reg [⟨some 1, .box (.tmp 0), none⟩, ⟨some 2, .mov (.con (.int .i64 0)), none⟩]) (.seq (.seq (.reg [⟨some 3, .faddr (.tmp 1) 1, none⟩, ⟨some 4, .load none (.tmp 3), none⟩, ⟨some 5, .call (.con (.fn 69 [] [])) [(.tmp 4), (.con (.int .i64 0)), (.con (.int .i64 10000000))], none⟩, ⟨some 6, .un .not (.tmp 5), none⟩, ⟨some 7, .mov (.tmp 6), none⟩, ⟨some 8, .faddr (.tmp 1) 2, some (7, false)⟩, ⟨some 9, .load none (.tmp 8), some (7, false)⟩, ⟨some 10, .call (.con (.fn 69 [] [])) [(.tmp 9), (.con (.int .i64 0)), (.con (.int .i64 10000000))], some (7, false)⟩, ⟨some 11, .un .not (.tmp 10), some (7, false)⟩, ⟨some 12, .pick (.tmp 7) (.con (.bool true)) (.tmp 11), none⟩]) (.cond (.tmp 12) (.seq (.reg [⟨some 2, .mov (.con (.int .i64 2)), none⟩]) .ret) .skip)) (.seq (.reg [⟨some 2, .mov (.con (.int .i64 0)), none⟩]) .ret)))⟩
theorem comp100 : compFn Try.prog 100 = some F100 := by kernel_rfl
def F101 : AFn := ⟨1, 18, [.tmp 4], (.seq (.reg [⟨some 4, .mov (.con (.bool false)), none⟩]) (.seq (.reg [⟨some 5, .faddr (.tmp 1) 0, none⟩, ⟨some 6, .faddr (.tmp 5) 4, none⟩, ⟨some 7, .load none (.tmp 6), none⟩, ⟨some 8, .mov (.tmp 0), none⟩, ⟨some 9, .bin .add (.tmp 7) (.tmp 8), none⟩, ⟨some 10, .bin .mul (.con (.int .i64 2)) (.tmp 9), none⟩, ⟨some 11, .faddr (.tmp 1) 0, none⟩, ⟨some 12, .faddr (.tmp 11) 1, none⟩, ⟨some 13, .load none (.tmp 12), none⟩, ⟨some 14, .bin .sub (.tmp 10) (.tmp 13), none⟩, ⟨some 15, .load none (.tmp 2), none⟩, ⟨some 16, .bin .mul (.con (.int .i64 2)) (.tmp 15), none⟩, ⟨some 17, .bin .geq (.tmp 14) (.tmp 16), none⟩, ⟨some 4, .mov (.tmp 17), none⟩]) .ret))⟩
theorem comp101 : compFn Try.prog 101 = some F101 := by kernel_rfl
def entries : List (Entry Try.prog) := [⟨3, F3, comp3⟩, ⟨11, F11, comp11⟩, ⟨12, F12, comp12⟩, ⟨13, F13, comp13⟩, ⟨14, F14, comp14⟩, ⟨15, F15, comp15⟩, ⟨16, F16, comp16⟩, ⟨17, F17, comp17⟩, ⟨18, F18, comp18⟩, ⟨19, F19, comp19⟩, ⟨20, F20, comp20⟩, ⟨21, F21, comp21⟩, ⟨22, F22, comp22⟩, ⟨23, F23, comp23⟩, ⟨24, F24, comp24⟩, ⟨25, F25, comp25⟩, ⟨26, F26, comp26⟩, ⟨31, F31, comp31⟩, ⟨32, F32, comp32⟩, ⟨33, F33, comp33⟩, ⟨34, F34, comp34⟩, ⟨35, F35, comp35⟩, ⟨39, F39, comp39⟩, ⟨40, F40, comp40⟩, ⟨41, F41, comp41⟩, ⟨42, F42, comp42⟩, ⟨43, F43, comp43⟩, ⟨48, F48, comp48⟩, ⟨49, F49, comp49⟩, ⟨50, F50, comp50⟩, ⟨51, F51, comp51⟩, ⟨52, F52, comp52⟩, ⟨53, F53, comp53⟩, ⟨54, F54, comp54⟩, ⟨55, F55, comp55⟩, ⟨56, F56, comp56⟩, ⟨57, F57, comp57⟩, ⟨58, F58, comp58⟩, ⟨59, F59, comp59⟩, ⟨60, F60, comp60⟩, ⟨61, F61, comp61⟩, ⟨62, F62, comp62⟩, ⟨63, F63, comp63⟩, ⟨64, F64, comp64⟩, ⟨65, F65, comp65⟩, ⟨66, F66, comp66⟩, ⟨67, F67, comp67⟩, ⟨69, F69, comp69⟩, ⟨70, F70, comp70⟩, ⟨71, F71, comp71⟩, ⟨72, F72, comp72⟩, ⟨73, F73, comp73⟩, ⟨74, F74, comp74⟩, ⟨77, F77, comp77⟩, ⟨78, F78, comp78⟩, ⟨79, F79, comp79⟩, ⟨80, F80, comp80⟩, ⟨81, F81, comp81⟩, ⟨82, F82, comp82⟩, ⟨83, F83, comp83⟩, ⟨84, F84, comp84⟩, ⟨85, F85, comp85⟩, ⟨86, F86, comp86⟩, ⟨87, F87, comp87⟩, ⟨88, F88, comp88⟩, ⟨89, F89, comp89⟩, ⟨91, F91, comp91⟩, ⟨92, F92, comp92⟩, ⟨93, F93, comp93⟩, ⟨94, F94, comp94⟩, ⟨95, F95, comp95⟩, ⟨96, F96, comp96⟩, ⟨97, F97, comp97⟩, ⟨98, F98, comp98⟩, ⟨99, F99, comp99⟩, ⟨100, F100, comp100⟩, ⟨101, F101, comp101⟩]
def tab : FuncId → Option AFn := tabOf entries
theorem tab_ok : ∀ f F, tab f = some F → compFn Try.prog f = some F := tabOf_ok entries
end Go.Proofs.Ytoefpcpijolofaa
end
section
namespace Go.Proofs.Ytoefpcpijolofaa
open Go.RowKit Go.ChangeShapes Go.WideShapes
set_option linter.unusedVariables false
set_option linter.unusedSimpArgs false

def Gh.all (W : World) : Gh := ⟨fun _ => none, fun _ _ => none, fun b o => W.cell? ⟨b, o, none⟩⟩
theorem Inv.all (W : World) : Inv (Gh.all W) ⟨[], []⟩ W :=
  ⟨fun b B cs h => by simp [Gh.all] at h, fun t n s0 B s c h => by simp at h, fun b o u h => h, fun b B h => by simp [Gh.all] at h, fun t n v h => by simp [Gh.all] at h,
    fun b b' B h => by simp [Gh.all] at h, fun t t' n n' s0 s0' B s s' c c' h => by simp at h, fun b B t n s0 s c h => by simp [Gh.all] at h⟩
theorem Gro.below {G : Gh} {W W' : World} {G' : Gh} {S' : St} (hG : ∀ B, ¬ Owned G ⟨[], []⟩ B) (h : Gro G ⟨[], []⟩ W G' S' W') : Below W.heap.size W W' :=
  ⟨h.os, h.tape, h.output, h.size, fun k hk => (h.fr k hk (hG k)).1⟩

theorem Meets.law {P : Program} {f : FuncId} {xs : List AV} {us : Array Value} {W : World} (h : Meets P f xs [] fun v _ => v = .bool true) (hv : VL (Gh.all W) xs us) :
    Calls P f us W fun e W' => e = .returned (.bool true) ∧ Below W.heap.size W W' := by
  obtain ⟨v, c', hc, rfl⟩ := h
  refine (hc.calls (Gh.all W) W us (Inv.all W) hv).mono ?_
  rintro e W' ⟨u, G', bx, lv, rfl, hu, _, hg⟩
  refine ⟨by rw [hu.inv_bool], hg.below fun B => ?_⟩
  rintro (⟨b, hb⟩ | ⟨t, n, s0, s, c, h1, _⟩)
  · simp [Gh.all] at hb
  · simp at h1

theorem ints_vr {P : Program} {H : Type} {enc : TypeId × Value → H} {W : World} {base : Nat} {held : Bool} {a : Option Addr} {len cap : Nat} {d : DataW H} {p : List MemPlace} {t e : TypeId} (ht : P.underlying t = some (.slice e)) (he : P.underlying e = some (.int .i64)) (hc : P.cellsOf e = 1)
    (h : DataW.Trod enc P W base (fun _ => true) held t (.slice a len cap) d p) : ∃ zs : List Int, (∀ z ∈ zs, (Lit.int .i64 z).wf = true) ∧ zs.length ≤ maxLen ∧ VR (Gh.all W) (.sl (zs.map fun z => .int .i64 z) none) (.slice a len cap) := by
  obtain ⟨fuel, hf⟩ := h
  rcases open_ints ht he hc hf with ⟨hcs, _⟩ | ⟨x, l, c, zs, hcs, _, hl, hm, hz, _, hcell, hwz⟩
  · simp [Value.cells] at hcs
    obtain ⟨rfl, rfl, rfl⟩ := hcs
    exact ⟨[], by simp, by simp, .sl0 _ _⟩
  · simp [Value.cells] at hcs
    obtain ⟨rfl, rfl, rfl⟩ := hcs
    simp at hz
    have hlen : (zs.take len).length = len := by simp; omega
    refine ⟨zs.take len, fun z hz' => hwz z (List.mem_of_mem_take hz'), by rw [hlen]; omega, ?_⟩
    by_cases h0 : len = 0
    · subst h0
      simp only [List.take_zero, List.map_nil]
      exact .sl0 _ _
    · have hx : ∃ b o, x = ⟨b, o, none⟩ := by
        have h1 := hcell 0 (by omega)
        obtain ⟨b, o, sp⟩ := x
        cases sp with
        | none => exact ⟨b, o, rfl⟩
        | some s =>
          exfalso
          unfold World.cell? at h1
          simp only [Addr.add] at h1
          split at h1 <;> simp_all
      obtain ⟨b, o, rfl⟩ := hx
      have hlm : ((zs.take len).map fun z => AV.int .i64 z).length = len := by rw [List.length_map, hlen]
      have hcl : ∀ i, i < len → W.cell? ⟨b, o + i, none⟩ = some (.int .i64 (zs.getD i 0)) := fun i hi => by
        have h1 := hcell i (by omega)
        have ej : ((⟨b, o, none⟩ : Addr).add i) = ⟨b, o + i, none⟩ := by unfold Addr.add; split <;> simp_all
        rw [ej] at h1
        exact h1
      have hel : ∀ (i : Nat) y, ((zs.take len).map fun z => AV.int .i64 z)[i]? = some y → i < len ∧ y = .int .i64 (zs.getD i 0) := fun i y hy => by
        rw [List.getElem?_map, Option.map_eq_some_iff] at hy
        obtain ⟨z, hz1, rfl⟩ := hy
        have hi : i < (zs.take len).length := (List.getElem?_eq_some_iff.1 hz1).1
        rw [hlen] at hi
        refine ⟨hi, ?_⟩
        rw [List.getElem?_take, if_pos hi] at hz1
        rw [List.getD_eq_getElem?_getD, hz1]
        rfl
      have key := VR.sl (G := Gh.all W) ((zs.take len).map fun z => AV.int .i64 z) 1 b o cap (fun j => .int .i64 (zs.getD j 0)) (by rw [hlm]; exact hl) (fun i y hy => by rw [(hel i y hy).2]; rfl)
        (fun i y j x hy hx => by
          obtain ⟨hi, rfl⟩ := hel i y hy
          simp only [AV.cells] at hx
          have hj : j = 0 := by
            have := (List.getElem?_eq_some_iff.1 hx).1
            simp at this; exact this
          subst hj
          simp only [Nat.mul_one, Nat.add_zero]
          exact hcl i hi)
        (fun i y j x hy hx => by
          obtain ⟨hi, rfl⟩ := hel i y hy
          simp only [AV.cells] at hx
          have hj : j = 0 := by
            have := (List.getElem?_eq_some_iff.1 hx).1
            simp at this; exact this
          subst hj
          simp only [List.getElem?_cons_zero, Option.some.injEq] at hx
          subst hx
          simp only [Nat.mul_one, Nat.add_zero]
          exact .int _ _)
      rw [hlm] at key
      exact key
end Go.Proofs.Ytoefpcpijolofaa
end
section
namespace Go.Proofs.Ytoefpcpijolofaa
open Go.RowKit
set_option linter.unusedVariables false
set_option linter.unusedSimpArgs false

section
variable {orc : Clr} {a : List AV} {S : St} {R : List AV → St → Prop}
theorem EvO.call {orc : Orc} {x : AOper} {l : List AOper} {f : FuncId} {xs ys : List AV} {bs : List Nat} {cells : List (List AV)} {K : AV → List (List AV) → Prop} (hw : wantedA x.guard a = some true) (hv : aop x.op (evd a) S = some (.call f xs)) (hbs : fpOf xs = bs) (hr : xs.mapM (ren bs) = some ys) (hc : bs.mapM (fun b => S.bx[b]?) = some cells) (hcl : (cells.all cleanL && decide bs.Nodup) = true)
    (ho : ∃ v c', orc f ys cells = some (v, c') ∧ K v c')
    (h : ∀ v c', K v c' → ∃ v', back bs.length c'.length S.bx.length v = some v' ∧ c'.all cleanL = true ∧ EvO (clrOf orc) l (putA a x.dst v') ⟨setAll S.bx bs c' ++ c'.drop bs.length, S.lv⟩ R) : EvO (clrOf orc) (x :: l) a S R := by
  subst hbs
  obtain ⟨v, c', h1, h2⟩ := ho
  obtain ⟨v', h3, h4, h5⟩ := h v c' h2
  refine EvO.op hw ?_ h5
  rw [evOp_call hv, callS_clrOf]
  simp only [evCall, hr, hc, hcl, if_true, h1, h3, h4]
end

def isCmp : BinOp → Bool
  | .eql | .neq | .lss | .leq | .gtr | .geq => true
  | _ => false
def opK (x : AOper) : Nat := match x.guard with
  | some _ => 9
  | none => match x.op with
    | .call _ _ => 8
    | .bin o _ _ => bif isCmp o then 2 else 1
    | .un .not _ => 2
    | .un _ _ | .conv _ _ | .mn _ _ | .mx _ _ => 1
    | .eqn _ _ _ _ | .eqs _ _ _ _ => 2
    | _ => 0
theorem opK_free {x : AOper} (h : opK x < 9) {a : List AV} : wantedA x.guard a = some true := by
  cases hg : x.guard with
  | none => rfl
  | some g => simp [opK, hg] at h
section
variable {orc : Clr} {a : List AV} {S : St} {R : List AV → St → Prop}
theorem EvO.stI {x : AOper} {l : List AOper} (k : IntKind) (n : Int) (S1 : St) (hk : opK x = 1) (hv : evOp orc x.op a S = some (.int k n, S1)) (h : ∀ m, m = n → EvO orc l (putA a x.dst (.int k m)) S1 R) : EvO orc (x :: l) a S R := EvO.op (opK_free (by omega)) hv (h n rfl)
theorem EvO.stB {x : AOper} {l : List AOper} (n : Bool) (S1 : St) (hk : opK x = 2) (hv : evOp orc x.op a S = some (.bool n, S1)) (h : ∀ m, m = n → EvO orc l (putA a x.dst (.bool m)) S1 R) : EvO orc (x :: l) a S R := EvO.op (opK_free (by omega)) hv (h n rfl)
theorem EvO.stG {x : AOper} {l : List AOper} (v : AV) (S1 : St) (hk : Nat.blt (opK x) 8 = true) (hv : evOp orc x.op a S = some (v, S1)) (h : EvO orc l (putA a x.dst v) S1 R) : EvO orc (x :: l) a S R := EvO.op (opK_free (by simp [Nat.blt] at hk; omega)) hv h
theorem EvO.stW {x : AOper} {l : List AOper} (v : AV) (S1 : St) (hw : wantedA x.guard a = some true) (hv : evOp orc x.op a S = some (v, S1)) (h : EvO orc l (putA a x.dst v) S1 R) : EvO orc (x :: l) a S R := EvO.op hw hv h
end
def look : List (FuncId × (List AV → List (List AV) → AV → List (List AV) → Prop)) → FnPost
  | [], _ => fun _ _ _ _ => False
  | (g, p) :: l, f => bif Nat.beq g f then p else look l f
theorem EvO.callM {P : Program} {T : FnPost} {x : AOper} {l : List AOper} {a : List AV} {S : St} {R : List AV → St → Prop} {f : FuncId} {xs ys : List AV} {bs : List Nat} {cells : List (List AV)} {K : AV → List (List AV) → Prop} (hw : wantedA x.guard a = some true) (hv : aop x.op (evd a) S = some (.call f xs)) (hbs : fpOf xs = bs) (hr : xs.mapM (ren bs) = some ys) (hc : bs.mapM (fun b => S.bx[b]?) = some cells) (hcl : (cells.all cleanL && decide bs.Nodup) = true)
    (ho : Meets P f ys cells K) (hT : T f ys cells = K)
    (h : ∀ v c', K v c' → ∃ v', back bs.length c'.length S.bx.length v = some v' ∧ c'.all cleanL = true ∧ EvO (clrOf (orcOf P T)) l (putA a x.dst v') ⟨setAll S.bx bs c' ++ c'.drop bs.length, S.lv⟩ R) : EvO (clrOf (orcOf P T)) (x :: l) a S R := by
  subst hT
  obtain ⟨v, c', h1, h2⟩ := orcOf_meets ho
  exact EvO.call hw hv hbs hr hc hcl ⟨v, c', h1, h2⟩ h
end Go.Proofs.Ytoefpcpijolofaa
end
section
namespace Go.Proofs.Ytoefpcpijolofaa
open Go.RowKit
set_option linter.unusedVariables false
set_option linter.unusedSimpArgs false

structure Ent where
  G : Gh
  S : St
  w : World
  d : List Deferred
  inv : Inv G S w
  lv : S.lv = []
def At (E : Ent) (a : List AV) (S : St) (act : Act) (w : World) : Prop := ∃ G, Inv G S w ∧ Rel G a act ∧ Gro E.G E.S E.w G S w ∧ Keep E.G E.S G S ∧ act.defers = E.d

def ExO (n0 : Nat) (P : Program) (xs : List AOper) (a : List AV) (S : St) (R : List AV → St → Prop) : Prop :=
  ∀ (E : Ent), E.S.bx.length = n0 → ∀ (ops : Array Oper) (l : List Oper) (Q : Exit → Act → World → Prop), l.mapM (compOper P ops) = some xs → (∀ a' S' act' w', R a' S' → At E a' S' act' w' → Q .normal act' w') → ∀ act w, At E a S act w → wpList P ops Q l act w
def Ex (n0 : Nat) (md : Md) (P : Program) (c : ACode) (a : List AV) (S : St) (Q : AEx → List AV → St → Prop) : Prop :=
  ∀ (E : Ent), E.S.bx.length = n0 → ∀ (code : Code), compCode P code = some c → ∀ act w, At E a S act w → cwp md P code (fun e act' w' => ∃ x a' S', e = x.out ∧ Q x a' S' ∧ At E a' S' act' w') act w

structure Does (P : Program) (f : FuncId) (xs : List AV) (cells : List (List AV)) (Q : AV → List (List AV) → Prop) : Prop where
  enter : ∀ (us : Array Value) (w : World), (callFunc f us).run P w = .ok (.enter f us) w
  calls : ∀ (G : Gh) (w : World) (us : Array Value), Inv G ⟨cells, []⟩ w → VRs G xs us → Calls P f us w fun e w' => ∃ u v c' G' bx lv, Q v c' ∧ e = .returned u ∧ VR G' v u ∧ cells.length ≤ c'.length ∧ Inv G' ⟨c' ++ bx, lv⟩ w' ∧ Gro G ⟨cells, []⟩ w G' ⟨c' ++ bx, lv⟩ w'
theorem Does.mono {P : Program} {f : FuncId} {xs : List AV} {cells : List (List AV)} {Q Q' : AV → List (List AV) → Prop} (h : Does P f xs cells Q) (k : ∀ v c', Q v c' → Q' v c') : Does P f xs cells Q' :=
  ⟨h.enter, fun G w us hI hv => (h.calls G w us hI hv).mono fun e w' ⟨u, v, c', G', bx, lv, h1, h2⟩ => ⟨u, v, c', G', bx, lv, k _ _ h1, h2⟩⟩
theorem Meets.does {P : Program} {f : FuncId} {xs : List AV} {cells : List (List AV)} {Q : AV → List (List AV) → Prop} (h : Meets P f xs cells Q) : Does P f xs cells Q := by
  obtain ⟨v, c', hc, hq⟩ := h
  exact ⟨hc.enter, fun G w us hI hv => (hc.calls G w us hI hv).mono fun e w' ⟨u, G', bx, lv, h1, h2, h3, h4⟩ => ⟨u, v, c', G', bx, lv, hq, h1, h2, hc.len, h3, h4⟩⟩

section rules
variable {n0 : Nat} {md : Md} {P : Program} {a : List AV} {S : St} {Q : AEx → List AV → St → Prop} {R : List AV → St → Prop}

theorem ExO.nil (h : R a S) : ExO n0 P [] a S R := by
  intro E _ ops l Q hc hq act w hA
  cases l with
  | nil => exact hq _ _ _ _ h hA
  | cons o l =>
    rw [List.mapM_cons] at hc
    simp only [Option.bind_eq_bind, Option.bind_eq_some_iff, Option.pure_def, Option.some.injEq] at hc
    obtain ⟨_, _, _, _, h⟩ := hc
    cases h
theorem mapM_cons_inv {P : Program} {ops : Array Oper} {l : List Oper} {x : AOper} {xs : List AOper} (h : l.mapM (compOper P ops) = some (x :: xs)) : ∃ o l', l = o :: l' ∧ compOper P ops o = some x ∧ l'.mapM (compOper P ops) = some xs := by
  cases l with
  | nil => simp at h
  | cons o l =>
    rw [List.mapM_cons] at h
    simp only [Option.bind_eq_bind, Option.bind_eq_some_iff, Option.pure_def, Option.some.injEq] at h
    obtain ⟨y, hy, ys, hys, h⟩ := h
    cases h
    exact ⟨o, l, rfl, hy, hys⟩
theorem ExO.op {X : Clr} (hX : ClrOk P X) {x : AOper} {xs : List AOper} {v : AV} {S1 : St} (hw : wantedA x.guard a = some true) (hv : evOp X x.op a S = some (v, S1)) (h : ExO n0 P xs (putA a x.dst v) S1 R) : ExO n0 P (x :: xs) a S R := by
  intro E hn ops l Q hc hq act w hA
  obtain ⟨o, l', rfl, hx, hl'⟩ := mapM_cons_inv hc
  obtain ⟨h1, h2, _⟩ := compOper_ok hx
  obtain ⟨G, hI, hR, hg, hk, hd⟩ := hA
  simp only [wpList]
  rw [if_pos (wantedA_ok hx hR hw)]
  refine .inl (evOp_wp hX h1 hv hI hR fun G' u w' hv' hI' hg' hk' => ?_)
  exact h E hn ops l' Q hl' hq _ _ ⟨G', hI', h2 ▸ (hR.mono hg'.le).put x.dst hv', hg.trans hg', hk.trans hk', by cases o.dst <;> exact hd⟩
theorem ExO.skip {x : AOper} {xs : List AOper} (hw : wantedA x.guard a = some false) (h : ExO n0 P xs (putA a x.dst (.tup [])) S R) : ExO n0 P (x :: xs) a S R := by
  intro E hn ops l Q hc hq act w hA
  obtain ⟨o, l', rfl, hx, hl'⟩ := mapM_cons_inv hc
  obtain ⟨h1, h2, _⟩ := compOper_ok hx
  obtain ⟨G, hI, hR, hg, hk, hd⟩ := hA
  simp only [wpList]
  rw [if_neg (by rw [wantedA_ok hx hR hw]; simp)]
  exact h E hn ops l' Q hl' hq _ _ ⟨G, hI, h2 ▸ hR.put x.dst (VR.undef G), hg, hk, by cases o.dst <;> exact hd⟩
theorem ExO.call {x : AOper} {l : List AOper} {f : FuncId} {xs ys : List AV} {bs : List Nat} {cells : List (List AV)} {K : AV → List (List AV) → Prop} (hw : wantedA x.guard a = some true) (hv : aop x.op (evd a) S = some (.call f xs)) (hbs : fpOf xs = bs) (hr : xs.mapM (ren bs) = some ys) (hc : bs.mapM (fun b => S.bx[b]?) = some cells) (hcl : (cells.all cleanL && decide bs.Nodup) = true)
    (ho : Does P f ys cells K)
    (h : ∀ v c', K v c' → ∃ v', back bs.length c'.length S.bx.length v = some v' ∧ c'.all cleanL = true ∧ ExO n0 P l (putA a x.dst v') ⟨setAll S.bx bs c' ++ c'.drop bs.length, S.lv⟩ R) : ExO n0 P (x :: l) a S R := by
  intro E hn ops l0 Q hco hq act w hA
  obtain ⟨o, l', rfl, hx, hl'⟩ := mapM_cons_inv hco
  obtain ⟨h1, h2, _⟩ := compOper_ok hx
  obtain ⟨G, hI, hR, hg, hk, hd⟩ := hA
  simp only [wpList]
  rw [if_pos (wantedA_ok hx hR hw)]
  refine .inl ?_
  unfold Oper.wp
  have hs := step_ok h1 (fun _ => rfl) hR.opd hI hv
  obtain ⟨us, hrun, hvs⟩ := hs
  simp only [Bool.and_eq_true, decide_eq_true_eq, List.all_eq_true] at hcl
  obtain ⟨hIc, hvc⟩ := call_in hr hc hcl.1 hcl.2 hI hvs
  rw [hrun, ho.enter]
  simp only [Oper.upon_enter]
  refine (ho.calls (G.sub bs) w us hIc hvc).mono ?_
  rintro e w' ⟨u, v, c', Gc, bx, lv, hK, rfl, hvr, hlen, hI', hg'⟩
  obtain ⟨v', hback, hclean', hrest⟩ := h v c' hK
  obtain ⟨G', k1, k2, k3, k4, k5⟩ := call_back hc hcl.2 hI hlen hback (List.all_eq_true.1 hclean') hvr hI' hg'
  exact hrest E hn ops l' Q hl' hq _ _ ⟨G', k2, h2 ▸ (hR.mono k3.le).put x.dst k1, hg.trans k3, hk.trans ⟨by simp [setAll_length], Nat.le_refl _, fun b hb h => by rw [k4 b hb]; exact h, fun t _ h n => by rw [k5]; exact h n⟩, by cases o.dst <;> exact hd⟩

theorem Ex.mono {c : ACode} {Q' : AEx → List AV → St → Prop} (h : Ex n0 md P c a S Q) (k : ∀ x a' S', Q x a' S' → Q' x a' S') : Ex n0 md P c a S Q' :=
  fun E hn code hc act w hA => cwp_mono (h E hn code hc act w hA) fun e act' w' ⟨x, a', S', h1, h2, h3⟩ => ⟨x, a', S', h1, k _ _ _ h2, h3⟩
theorem compCode_seq {P : Program} {code : Code} {c d : ACode} (h : compCode P code = some (.seq c d)) : ∃ x y, code = .seq x y ∧ compCode P x = some c ∧ compCode P y = some d := by
  cases code <;> simp only [compCode, reduceCtorEq] at h
  case seq x y =>
    split at h
    · rename_i h1 h2
      simp only [Option.some.injEq, ACode.seq.injEq] at h
      exact ⟨x, y, rfl, h.1 ▸ h1, h.2 ▸ h2⟩
    · cases h
  case cond => split at h <;> simp at h
  case region id ops draw =>
    split at h
    · split at h
      · split at h
        · split at h <;> simp at h
        · cases h
      · cases h
    · split at h
      · cases h
      · simp at h
  case block => simp at h
  case loop => simp at h
  all_goals simp at h
theorem compCode_cond {P : Program} {code : Code} {y : AOpd} {c d : ACode} (h : compCode P code = some (.cond y c d)) : ∃ z x1 x2, code = .cond z x1 x2 ∧ compOpd z = some y ∧ compCode P x1 = some c ∧ compCode P x2 = some d := by
  cases code <;> simp only [compCode, reduceCtorEq] at h
  case cond z x1 x2 =>
    split at h
    · rename_i h1 h2 h3
      simp only [Option.some.injEq, ACode.cond.injEq] at h
      exact ⟨z, x1, x2, rfl, h.1 ▸ h1, h.2.1 ▸ h2, h.2.2 ▸ h3⟩
    · cases h
  case seq => split at h <;> simp at h
  case region id ops draw =>
    split at h
    · split at h
      · split at h
        · split at h <;> simp at h
        · cases h
      · cases h
    · split at h
      · cases h
      · simp at h
  all_goals simp at h
theorem compCode_block {P : Program} {code : Code} {id : Nat} {c : ACode} (h : compCode P code = some (.block id c)) : ∃ x, code = .block id x ∧ compCode P x = some c := by
  cases code <;> simp only [compCode, reduceCtorEq] at h
  case block id' x =>
    simp only [Option.map_eq_some_iff, ACode.block.injEq] at h
    obtain ⟨c', h1, rfl, rfl⟩ := h
    exact ⟨x, rfl, h1⟩
  case seq => split at h <;> simp at h
  case cond => split at h <;> simp at h
  case region id ops draw =>
    split at h
    · split at h
      · split at h
        · split at h <;> simp at h
        · cases h
      · cases h
    · split at h
      · cases h
      · simp at h
  all_goals simp at h
theorem compCode_loop {P : Program} {code : Code} {c : ACode} (h : compCode P code = some (.loop c)) : ∃ x, code = .loop x ∧ compCode P x = some c := by
  cases code <;> simp only [compCode, reduceCtorEq] at h
  case loop x =>
    simp only [Option.map_eq_some_iff, ACode.loop.injEq] at h
    obtain ⟨c', h1, rfl⟩ := h
    exact ⟨x, rfl, h1⟩
  case seq => split at h <;> simp at h
  case cond => split at h <;> simp at h
  case region id ops draw =>
    split at h
    · split at h
      · split at h
        · split at h <;> simp at h
        · cases h
      · cases h
    · split at h
      · cases h
      · simp at h
  all_goals simp at h
theorem compCode_reg {P : Program} {code : Code} {xs : List AOper} (h : compCode P code = some (.reg xs)) : ∃ id ops, code = .region id ops false ∧ noDefer ops = true ∧ ops.toList.mapM (compOper P ops) = some xs := by
  cases code <;> simp only [compCode, reduceCtorEq] at h
  case region id ops draw =>
    split at h
    · split at h
      · split at h
        · split at h <;> simp at h
        · cases h
      · cases h
    · rename_i hd
      split at h
      · cases h
      · rename_i hnd
        have hd : draw = false := by simpa using hd
        subst hd
        simp only [Option.map_eq_some_iff, ACode.reg.injEq] at h
        obtain ⟨ys, h1, rfl⟩ := h
        exact ⟨id, ops, rfl, by simpa using hnd, h1⟩
  case seq => split at h <;> simp at h
  case cond => split at h <;> simp at h
  all_goals simp at h

theorem Ex.skip (h : Q .norm a S) : Ex n0 md P .skip a S Q := by
  intro E hn code hc act w hA
  cases code <;> simp only [compCode, reduceCtorEq] at hc
  case skip => exact cwp_skip ⟨.norm, a, S, rfl, h, hA⟩
  case label => exact cwp_label ⟨.norm, a, S, rfl, h, hA⟩
  case seq => split at hc <;> simp at hc
  case cond => split at hc <;> simp at hc
  case region id ops draw =>
    split at hc
    · split at hc
      · split at hc
        · split at hc <;> simp at hc
        · cases hc
      · cases hc
    · split at hc
      · cases hc
      · simp at hc
  all_goals simp at hc
theorem Ex.ret (h : Q .ret a S) : Ex n0 md P .ret a S Q := by
  intro E hn code hc act w hA
  cases code <;> simp only [compCode, reduceCtorEq] at hc
  case ret => exact cwp_ret ⟨.ret, a, S, rfl, h, hA⟩
  case seq => split at hc <;> simp at hc
  case cond => split at hc <;> simp at hc
  case region id ops draw =>
    split at hc
    · split at hc
      · split at hc
        · split at hc <;> simp at hc
        · cases hc
      · cases hc
    · split at hc
      · cases hc
      · simp at hc
  all_goals simp at hc
theorem Ex.exit {id : Nat} (h : Q (.ex id) a S) : Ex n0 md P (.exit id) a S Q := by
  intro E hn code hc act w hA
  cases code <;> simp only [compCode, reduceCtorEq] at hc
  case exit id' => cases hc; exact cwp_exit ⟨.ex id, a, S, rfl, h, hA⟩
  case seq => split at hc <;> simp at hc
  case cond => split at hc <;> simp at hc
  case region id ops draw =>
    split at hc
    · split at hc
      · split at hc
        · split at hc <;> simp at hc
        · cases hc
      · cases hc
    · split at hc
      · cases hc
      · simp at hc
  all_goals simp at hc
theorem Ex.reg {xs : List AOper} (h : ExO n0 P xs a S (Q .norm)) : Ex n0 md P (.reg xs) a S Q := by
  intro E hn code hc act w hA
  obtain ⟨id, ops, rfl, hnd, hxs⟩ := compCode_reg hc
  refine cwp_region hnd (fun a w h => by
    obtain ⟨x, _, _, h, _⟩ := h
    cases x <;> cases h) ?_
  have hl := wpOps_eq_wpList (P := P) (ops := ops) (Q := fun e act' w' => ∃ x a' S', e = x.out ∧ Q x a' S' ∧ At E a' S' act' w') ops.toList 0 (fun j => by simp)
  rw [Array.length_toList, ← List.range_eq_range'] at hl
  rw [hl]
  exact h E hn ops _ _ hxs (fun a' S' act' w' h1 h2 => ⟨.norm, a', S', rfl, h1, h2⟩) act w hA
theorem Ex.dreg {X : Clr} (hX : ClrOk P X) {m : Nat} {xs : List AOper} {a' : List AV} {S' : St} (h : evDraw X m xs a S = some (a', S')) (hq : Q .norm a' S') : Ex n0 md P (.dreg m xs) a S Q := by
  intro E hn code hc act w hA
  have hr := (evCode_run (md := md) hX 1 code _ a a' S S' .norm hc (by simp only [evCode, h])).1
  obtain ⟨G, hI, hR, hg, hk, hd⟩ := hA
  refine cwp_mono (hr G act w hI hR) ?_
  rintro e act' w' ⟨he, G', h1, h2, h3, h4, h5⟩
  exact ⟨.norm, a', S', he, hq, G', h1, h2, hg.trans h3, hk.trans h4, h5.trans hd⟩
theorem Ex.seq {c d : ACode} (h : Ex n0 md P c a S fun x a' S' => match x with | .norm => Ex n0 md P d a' S' Q | x => Q x a' S') : Ex n0 md P (.seq c d) a S Q := by
  intro E hn code hc act w hA
  obtain ⟨x, y, rfl, h1, h2⟩ := compCode_seq hc
  refine cwp_seq (cwp_mono (h E hn x h1 act w hA) ?_)
  rintro e act' w' ⟨z, a', S', rfl, hq, hA'⟩
  cases z with
  | norm => exact hq E hn y h2 act' w' hA'
  | ex i => exact ⟨.ex i, a', S', rfl, hq, hA'⟩
  | ret => exact ⟨.ret, a', S', rfl, hq, hA'⟩
theorem Ex.cond {y : AOpd} {c d : ACode} {b : Bool} (hb : evd a y = .bool b) (h : Ex n0 md P (if b then c else d) a S Q) : Ex n0 md P (.cond y c d) a S Q := by
  intro E hn code hc act w hA
  obtain ⟨z, x1, x2, rfl, h1, h2, h3⟩ := compCode_cond hc
  obtain ⟨G, hI, hR, hg, hk, hd⟩ := hA
  have hz := hR.opd z y h1
  rw [hb] at hz
  refine cwp_cond hz.inv_bool ?_
  cases b
  · exact h E hn x2 h3 act w ⟨G, hI, hR, hg, hk, hd⟩
  · exact h E hn x1 h2 act w ⟨G, hI, hR, hg, hk, hd⟩
theorem Ex.block {id : Nat} {c : ACode} (h : Ex n0 md P c a S fun x a' S' => Q (if x = .ex id then .norm else x) a' S') : Ex n0 md P (.block id c) a S Q := by
  intro E hn code hc act w hA
  obtain ⟨x, rfl, h1⟩ := compCode_block hc
  refine cwp_block (cwp_mono (h E hn x h1 act w hA) ?_)
  rintro e act' w' ⟨z, a', S', rfl, hq, hA'⟩
  cases z with
  | norm => exact ⟨.norm, a', S', rfl, hq, hA'⟩
  | ret => exact ⟨.ret, a', S', rfl, hq, hA'⟩
  | ex i =>
    simp only [AEx.out, Exit.inBlock]
    simp only [AEx.ex.injEq] at hq
    by_cases hi : i = id
    · rw [if_pos hi] at hq; rw [if_pos hi]; exact ⟨.norm, a', S', rfl, hq, hA'⟩
    · rw [if_neg hi] at hq; rw [if_neg hi]; exact ⟨.ex i, a', S', rfl, hq, hA'⟩
theorem Ex.loop {c : ACode} (I : Nat → List AV → St → Prop) (k : Nat) (h : I k a S)
    (round : ∀ k a S, I k a S → Ex n0 md P c a S fun x a' S' => match x with | .norm => ∃ j, j < k ∧ I j a' S' | x => Q x a' S') : Ex n0 md P (.loop c) a S Q := by
  intro E hn code hc act w hA
  obtain ⟨x, rfl, h1⟩ := compCode_loop hc
  let I0 : Nat → Act → World → Prop := fun k act w => ∃ a S, I k a S ∧ At E a S act w
  refine cwp_loop (fun act w => ∃ k, I0 k act w) (fun act w => leastOf' fun k => I0 k act w) ⟨k, a, S, h, hA⟩ ?_
  intro act1 w1 hex
  obtain ⟨⟨a1, S1, hi1, hA1⟩, hmin⟩ := leastOf_spec hex
  generalize hm : (leastOf' fun k => I0 k act1 w1) = m at hi1 hmin
  refine cwp_mono (round m a1 S1 hi1 E hn x h1 act1 w1 hA1) ?_
  rintro e act2 w2 ⟨z, a2, S2, rfl, hq, hA2⟩
  cases z with
  | norm =>
    obtain ⟨j, hj, hij⟩ := hq
    have hi : I0 j act2 w2 := ⟨a2, S2, hij, hA2⟩
    refine ⟨⟨j, hi⟩, ?_⟩
    have := (leastOf_spec (p := fun k => I0 k act2 w2) ⟨j, hi⟩).2 j hi
    exact Nat.lt_of_le_of_lt this hj
  | ret => exact ⟨.ret, a2, S2, rfl, hq, hA2⟩
  | ex i => exact ⟨.ex i, a2, S2, rfl, hq, hA2⟩
end rules

theorem Does.of {P : Program} {f : FuncId} {F : AFn} (hF : compFn P f = some F) {xs : List AV} {cells : List (List AV)} {Q : AV → List (List AV) → Prop}
    (h : Ex cells.length .plain P F.code (start F xs) ⟨cells, []⟩ fun x a' S' => (x = .norm ∨ x = .ret) ∧ ∃ v, evRes a' S' F.res = some v ∧ cells.length ≤ (if v.names then S'.bx else S'.bx.take cells.length).length ∧ Q v (if v.names then S'.bx else S'.bx.take cells.length)) : Does P f xs cells Q := by
  unfold compFn at hF
  split at hF
  · rename_i fn hf
    split at hF
    · rename_i c rs hb hrs
      split at hF
      · rename_i ac hac
        split at hF
        · cases hF
        · rename_i hname
          cases hF
          refine ⟨fun us w => ?_, fun G w us hI hvs => ?_⟩
          · simp only [callFunc, program, Sem.run, hf, Sem.run_bind, Result.andThen_ok, hname, hb]
            rfl
          · refine calls_of_wp hf hb ?_
            have hR : Rel G (start ⟨fn.params.size, fn.ntmps, rs, ac⟩ xs) { tmps := us ++ Array.replicate (fn.ntmps - us.size) undef, defers := [] } := by
              refine ⟨by simp [start, hvs.1], fun i y u hy hu => ?_⟩
              simp only [start] at hy
              simp only at hu
              rw [List.getElem?_append] at hy
              rw [Array.getElem?_append, hvs.1] at hu
              split at hy
              · rename_i hlt
                rw [if_pos hlt] at hu
                exact hvs.2 i y u hy hu
              · rename_i hlt
                rw [if_neg hlt] at hu
                have e1 := List.eq_of_mem_replicate (List.mem_of_getElem? hy)
                have e2 : u ∈ (Array.replicate (fn.ntmps - xs.length) undef) := Array.mem_of_getElem? hu
                have e3 := (Array.mem_replicate.1 e2).2
                rw [e1, e3]
                exact .undef G
            refine wp_mono (h ⟨G, ⟨cells, []⟩, w, [], hI, rfl⟩ rfl c hac _ w ⟨G, hI, hR, .refl _ _ _, .refl _ _, rfl⟩) ?_
            rintro e act' w' ⟨x, a', S', he, ⟨hx, v, hv, hlen, hq⟩, G', hI', hR', hg, hk, hd⟩
            obtain ⟨u, h1, h2⟩ := res_ok hI' hR' hrs hv
            have hbx : ∃ bx, S'.bx = (if v.names then S'.bx else S'.bx.take cells.length) ++ bx := by
              split
              · exact ⟨[], by simp⟩
              · exact ⟨S'.bx.drop cells.length, by simp⟩
            obtain ⟨bx, hbx⟩ := hbx
            generalize (if v.names then S'.bx else S'.bx.take cells.length) = c' at hlen hq hbx
            obtain ⟨S'bx, S'lv⟩ := S'
            simp only at hbx
            subst hbx
            rcases hx with rfl | rfl
            · subst he; exact ⟨hd, u, h1, u, v, c', G', bx, S'lv, hq, rfl, h2, hlen, hI', hg⟩
            · subst he; exact ⟨hd, u, h1, u, v, c', G', bx, S'lv, hq, rfl, h2, hlen, hI', hg⟩
      · cases hF
    · cases hF
  · cases hF
theorem Does.law {P : Program} {f : FuncId} {xs : List AV} {us : Array Value} {W : World} (h : Does P f xs [] fun v _ => v = .bool true) (hv : VRs (Gh.all W) xs us) :
    Calls P f us W fun e W' => e = .returned (.bool true) ∧ Below W.heap.size W W' := by
  refine (h.calls (Gh.all W) W us (Inv.all W) hv).mono ?_
  rintro e W' ⟨u, v, c', G', bx, lv, rfl, rfl, hu, _, _, hg⟩
  refine ⟨by rw [hu.inv_bool], hg.below fun B => ?_⟩
  rintro (⟨b, hb⟩ | ⟨t, n, s0, s, c, h1, _⟩)
  · simp [Gh.all] at hb
  · simp at h1
end Go.Proofs.Ytoefpcpijolofaa
end
section
namespace Go.Proofs.Ytoefpcpijolofaa
open Go.RowKit
set_option linter.unusedVariables false
set_option linter.unusedSimpArgs false

def re1 (n : Nat) (σ : List Nat) (x : AV) : Option AV := match x with
  | .ptr b o => if b < n then some (.ptr b o) else none
  | .ms b k s => if b < n then some (.ms b k s) else none
  | .sl els (some t) => if cleanL els then (σ.idxOf? t).map fun i => .sl els (some i) else none
  | x => if x.clean then some x else none
def re (n : Nat) (σ : List Nat) (x : AV) : Option AV := match x with
  | .agg cs => (cs.mapM (re1 n σ)).map .agg
  | .tup cs => (cs.mapM (re1 n σ)).map .tup
  | .fn f ps cs => (ps.mapM (re1 n σ)).bind fun ps' => (cs.mapM (re1 n σ)).map (.fn f ps')
  | x => re1 n σ x
def Gh.cut (G : Gh) (n : Nat) (σ : List Nat) : Gh := ⟨fun b => if b < n then G.al b else none, fun t k => (σ[t]?).bind fun t0 => G.tb t0 k, G.fz⟩

theorem VR.re1 {G : Gh} {n : Nat} {σ : List Nat} {x y : AV} {u : Value} (h : VR G x u) (hr : re1 n σ x = some y) : VR (G.cut n σ) y u := by
  unfold Proofs.Ytoefpcpijolofaa.re1 at hr
  split at hr
  · rename_i b o
    split at hr
    · rename_i hb
      cases hr
      obtain ⟨B, hB, rfl⟩ := h.inv_ptr
      exact .ptr b o B (by simp [Gh.cut, hb, hB])
    · cases hr
  · rename_i b k s
    split at hr
    · rename_i hb
      cases hr
      obtain ⟨B, c, hB, rfl, hc⟩ := h.inv_ms
      exact .ms b k s B c (by simp [Gh.cut, hb, hB]) hc
    · cases hr
  · rename_i els t
    split at hr
    · rename_i hcl
      simp only [Option.map_eq_some_iff] at hr
      obtain ⟨i, hi, rfl⟩ := hr
      have hti := idxOf_get hi
      cases h with
      | slt els t s B c us hb hn hs hf hv =>
        refine .slt els i s B c us (by simp [Gh.cut, hti, hb]) hn hs hf fun a e j z h1 h2 => (hv a e j z h1 h2).move ?_ (fun _ _ _ h => h)
        have he := cleanL_iff.1 hcl e (List.mem_of_getElem? h1)
        have hx := List.mem_of_getElem? h2
        cases e <;> simp only [AV.cells, List.mem_singleton] at hx <;> first | (subst hx; exact he) | exact cleanL_iff.1 (by simpa [AV.clean] using he) z hx
      | slt0 t hb => exact .slt0 i (by simp [Gh.cut, hti, hb])
    · cases hr
  · split at hr
    · rename_i hc
      cases hr
      exact h.move hc (fun _ _ _ h => h)
    · cases hr
theorem VR.re {G : Gh} {n : Nat} {σ : List Nat} {x y : AV} {u : Value} (h : VR G x u) (hr : re n σ x = some y) : VR (G.cut n σ) y u := by
  unfold Proofs.Ytoefpcpijolofaa.re at hr
  split at hr
  · rename_i cs
    simp only [Option.map_eq_some_iff] at hr
    obtain ⟨ds, hds, rfl⟩ := hr
    obtain ⟨h1, h2⟩ := mapM_get hds
    cases h with
    | agg _ us hl h =>
      refine .agg ds us (by rw [hl, h1]) fun i z v hz hv => ?_
      obtain ⟨z', hz', hr'⟩ := h2 i z hz
      exact (h i z' v hz' hv).re1 hr'
  · rename_i cs
    simp only [Option.map_eq_some_iff] at hr
    obtain ⟨ds, hds, rfl⟩ := hr
    obtain ⟨h1, h2⟩ := mapM_get hds
    cases h with
    | tup _ us hl h =>
      refine .tup ds us (by rw [hl, h1]) fun i z v hz hv => ?_
      obtain ⟨z', hz', hr'⟩ := h2 i z hz
      exact (h i z' v hz' hv).re1 hr'
  · rename_i f ps cs
    simp only [Option.map_eq_some_iff, Option.bind_eq_some_iff] at hr
    obtain ⟨qs, hqs, ds, hds, rfl⟩ := hr
    obtain ⟨vs, us, rfl, hp, hl, hv⟩ := h.inv_fn
    obtain ⟨h1, h2⟩ := mapM_get hds
    obtain ⟨g1, g2⟩ := mapM_get hqs
    refine .fn f qs ds vs us (by rw [hp.1, g1]) (fun i z v hz hv' => ?_) (by rw [hl, h1]) fun i z v hz hv' => ?_
    · obtain ⟨z', hz', hr'⟩ := g2 i z hz
      exact (hp.2 i z' v hz' hv').re1 hr'
    · obtain ⟨z', hz', hr'⟩ := h2 i z hz
      exact (hv i z' v hz' hv').re1 hr'
  · exact h.re1 hr

def keepS (n : Nat) (σ : List Nat) : List Bool → List AV → List AV
  | b :: bs, x :: l => (if b then (re n σ x).getD .junk else .junk) :: keepS n σ bs l
  | [], x :: l => (re n σ x).getD .junk :: keepS n σ [] l
  | _, [] => []
theorem keepS_get (n : Nat) (σ : List Nat) : ∀ (bs : List Bool) (l : List AV), (keepS n σ bs l).length = l.length ∧ ∀ (i : Nat) y, (keepS n σ bs l)[i]? = some y → y = .junk ∨ ∃ x, l[i]? = some x ∧ re n σ x = some y
  | bs, [] => by cases bs <;> exact ⟨rfl, fun i y h => by simp [keepS] at h⟩
  | [], x :: l => by
    obtain ⟨h1, h2⟩ := keepS_get n σ [] l
    refine ⟨by simp [keepS, h1], fun i y h => ?_⟩
    cases i with
    | zero =>
      simp only [keepS, List.getElem?_cons_zero, Option.some.injEq] at h
      cases hr : re n σ x with
      | none => rw [hr] at h; exact .inl h.symm
      | some z => rw [hr] at h; exact .inr ⟨x, rfl, by rw [hr]; simpa using h⟩
    | succ i => exact h2 i y (by simpa [keepS] using h)
  | b :: bs, x :: l => by
    obtain ⟨h1, h2⟩ := keepS_get n σ bs l
    refine ⟨by simp [keepS, h1], fun i y h => ?_⟩
    cases i with
    | zero =>
      simp only [keepS, List.getElem?_cons_zero, Option.some.injEq] at h
      cases b with
      | false => exact .inl (by simpa using h.symm)
      | true =>
        simp only [if_true] at h
        cases hr : re n σ x with
        | none => rw [hr] at h; exact .inl h.symm
        | some z => rw [hr] at h; exact .inr ⟨x, rfl, by rw [hr]; simpa using h⟩
    | succ i => exact h2 i y (by simpa [keepS] using h)

def Forgets (n0 : Nat) (a : List AV) (S : St) (a2 : List AV) (S2 : St) : Prop := ∀ (E : Ent), E.S.bx.length = n0 → ∀ act w, At E a S act w → At E a2 S2 act w
theorem Forgets.refl (n0 : Nat) (a : List AV) (S : St) : Forgets n0 a S a S := fun _ _ _ _ h => h

theorem forgets {n0 : Nat} {a : List AV} {S : St} (n : Nat) (σ : List Nat) (live : List Bool) {bx2 : List (List AV)} {lv2 : List (Nat × Nat)} (hn : n0 ≤ n) (hl : n ≤ S.bx.length) (hbx : (S.bx.take n).mapM (fun cs => cs.mapM (re n σ)) = some bx2) (hlv : σ.mapM (fun t => S.lv[t]?) = some lv2) (hσ : σ.Nodup) :
    Forgets n0 a S (keepS n σ live a) ⟨bx2, lv2⟩ := by
  intro E hE act w ⟨G, hI, hR, hg, hk, hd⟩
  obtain ⟨b1, b2⟩ := mapM_get hbx
  obtain ⟨l1, l2⟩ := mapM_get hlv
  have hbl : bx2.length = n := by rw [b1]; simp; omega
  have hlvg : ∀ (t : Nat) p, lv2[t]? = some p → ∃ t0, σ[t]? = some t0 ∧ S.lv[t0]? = some p := fun t p h => l2 t p h
  have hEtb : ∀ t k, E.G.tb t k = none := by
    intro t k
    cases h : E.G.tb t k with
    | none => rfl
    | some v =>
      obtain ⟨m, s, h1, _⟩ := E.inv.dtb t k v h
      rw [E.lv] at h1
      simp at h1
  refine ⟨G.cut n σ, ⟨?_, ?_, hI.fz, ?_, ?_, ?_, ?_, ?_⟩, ⟨?_, ?_⟩, ⟨⟨?_, ?_, hg.le.fz⟩, hg.os, hg.tape, hg.output, hg.size, hg.fr, ?_⟩, ⟨?_, ?_, ?_, ?_⟩, hd⟩
  · intro b B cs hal hcs
    simp only [Gh.cut] at hal
    split at hal
    · rename_i hbn
      obtain ⟨cs0, hcs0, hm⟩ := b2 b cs hcs
      rw [List.getElem?_take_of_lt hbn] at hcs0
      obtain ⟨m1, m2⟩ := mapM_get hm
      rcases hI.box b B cs0 hal hcs0 with rfl | ⟨us, T, k1, k2, k3, k4⟩
      · exact .inl (List.eq_nil_of_length_eq_zero (by rw [m1]; rfl))
      · refine .inr ⟨us, T, k1, by rw [m1]; exact k2, fun i x u hx hu => ?_, k4⟩
        obtain ⟨x0, hx0, hr⟩ := m2 i x hx
        exact (k3 i x0 u hx0 hu).re hr
    · cases hal
  · intro t k s0 B s c h1 h2
    obtain ⟨t0, ht0, h3⟩ := hlvg t _ h1
    simp only [Gh.cut, ht0, Option.bind_some] at h2
    exact hI.tok t0 k s0 B s c h3 h2
  · intro b B hal
    simp only [Gh.cut] at hal
    split at hal
    · rename_i hbn
      exact ⟨by rw [hbl]; exact hbn, (hI.dal b B hal).2⟩
    · cases hal
  · intro t k v h
    simp only [Gh.cut, Option.bind_eq_some_iff] at h
    obtain ⟨t0, ht0, h⟩ := h
    obtain ⟨m, s, h1, h2⟩ := hI.dtb t0 k v h
    have hlt : t < lv2.length := by rw [l1]; exact (List.getElem?_eq_some_iff.1 ht0).1
    obtain ⟨t1, ht1, h3⟩ := hlvg t _ (List.getElem?_eq_getElem hlt)
    rw [ht0] at ht1; cases ht1
    rw [h1] at h3
    exact ⟨m, s, by rw [List.getElem?_eq_getElem hlt]; exact h3.symm, h2⟩
  · intro b b' B h1 h2
    simp only [Gh.cut] at h1 h2
    split at h1
    · split at h2
      · exact hI.injA b b' B h1 h2
      · cases h2
    · cases h1
  · intro t t' k k' s0 s0' B s s' c c' h1 h2 h3 h4
    obtain ⟨t0, ht0, g1⟩ := hlvg t _ h1
    obtain ⟨t0', ht0', g2⟩ := hlvg t' _ h2
    simp only [Gh.cut, ht0, ht0', Option.bind_some] at h3 h4
    have := hI.injT t0 t0' k k' s0 s0' B s s' c c' g1 g2 h3 h4
    subst this
    exact (List.getElem?_inj (List.getElem?_eq_some_iff.1 ht0).1 hσ).1 (by rw [ht0, ht0'])
  · intro b B t k s0 s c h1 h2 h3
    obtain ⟨t0, ht0, g1⟩ := hlvg t _ h2
    simp only [Gh.cut, ht0, Option.bind_some] at h1 h3
    split at h1
    · exact hI.sep b B t0 k s0 s c h1 g1 h3
    · cases h1
  · rw [hR.size, (keepS_get n σ live a).1]
  · intro i y u hy hu
    rcases (keepS_get n σ live a).2 i y hy with rfl | ⟨x, hx, hr⟩
    · exact .junk u
    · exact (hR.slot i x u hx hu).re hr
  · intro b B h
    have := (E.inv.dal b B h).1
    simp only [Gh.cut]
    rw [if_pos (by omega)]
    exact hg.le.al b B h
  · intro t k v h
    rw [hEtb] at h
    cases h
  · rintro B (⟨b, hb⟩ | ⟨t, k, s0, s, c, h1, h2⟩)
    · simp only [Gh.cut] at hb
      split at hb
      · exact hg.own B (.inl ⟨b, hb⟩)
      · cases hb
    · obtain ⟨t0, ht0, g1⟩ := hlvg t _ h1
      simp only [Gh.cut, ht0, Option.bind_some] at h2
      exact hg.own B (.inr ⟨t0, k, s0, s, c, g1, h2⟩)
  · rw [hE, hbl]; exact hn
  · rw [E.lv]; exact Nat.zero_le _
  · intro b hb h
    simp only [Gh.cut]
    rw [if_pos (by omega)]
    exact hk.al b hb h
  · intro t ht _ k
    rw [E.lv] at ht
    exact absurd ht (Nat.not_lt_zero _)

section rules
variable {n0 : Nat} {md : Md} {P : Program} {a a2 : List AV} {S S2 : St} {Q : AEx → List AV → St → Prop} {R : List AV → St → Prop}
theorem Ex.forget {c : ACode} (hf : Forgets n0 a S a2 S2) (h : Ex n0 md P c a2 S2 Q) : Ex n0 md P c a S Q := fun E hn code hc act w hA => h E hn code hc act w (hf E hn act w hA)
theorem ExO.forget {xs : List AOper} (hf : Forgets n0 a S a2 S2) (h : ExO n0 P xs a2 S2 R) : ExO n0 P xs a S R := fun E hn ops l Q hc hq act w hA => h E hn ops l Q hc hq act w (hf E hn act w hA)
theorem Ex.loopF {c : ACode} (I : Nat → List AV → St → Prop) (k : Nat) (h : ∃ a2 S2, Forgets n0 a S a2 S2 ∧ I k a2 S2)
    (round : ∀ k a S, I k a S → Ex n0 md P c a S fun x a' S' => match x with | .norm => ∃ a2 S2, Forgets n0 a' S' a2 S2 ∧ ∃ j, j < k ∧ I j a2 S2 | x => Q x a' S') : Ex n0 md P (.loop c) a S Q := by
  obtain ⟨a2, S2, hf, hi⟩ := h
  refine Ex.forget hf ?_
  intro E hn code hc act w hA
  obtain ⟨x, rfl, h1⟩ := compCode_loop hc
  let I0 : Nat → Act → World → Prop := fun k act w => ∃ a S, I k a S ∧ At E a S act w
  refine cwp_loop (fun act w => ∃ k, I0 k act w) (fun act w => leastOf' fun k => I0 k act w) ⟨k, a2, S2, hi, hA⟩ ?_
  intro act1 w1 hex
  obtain ⟨⟨a1, S1, hi1, hA1⟩, hmin⟩ := leastOf_spec hex
  generalize hm : (leastOf' fun k => I0 k act1 w1) = m at hi1 hmin
  refine cwp_mono (round m a1 S1 hi1 E hn x h1 act1 w1 hA1) ?_
  rintro e act2 w2 ⟨z, a3, S3, rfl, hq, hA2⟩
  cases z with
  | norm =>
    obtain ⟨a4, S4, hf4, j, hj, hij⟩ := hq
    have hi : I0 j act2 w2 := ⟨a4, S4, hij, hf4 E hn _ _ hA2⟩
    refine ⟨⟨j, hi⟩, ?_⟩
    have := (leastOf_spec (p := fun k => I0 k act2 w2) ⟨j, hi⟩).2 j hi
    exact Nat.lt_of_le_of_lt this hj
  | ret => exact ⟨.ret, a3, S3, rfl, hq, hA2⟩
  | ex i => exact ⟨.ex i, a3, S3, rfl, hq, hA2⟩

theorem cellsC : (∀ (k : IntKind) (n : Int), (AV.int k n).cells = [.int k n]) ∧ (∀ (b : Bool), (AV.bool b).cells = [.bool b]) ∧ (∀ (s : ByteArray), (AV.str s).cells = [.str s]) ∧ (∀ (cs : List AV), (AV.agg cs).cells = cs) ∧ (∀ (b o : Nat), (AV.ptr b o).cells = [.ptr b o]) ∧ (AV.nilp).cells = [.nilp] ∧ (AV.nils).cells = [.nils] ∧ (∀ (l : List AV) (t : Option Nat), (AV.sl l t).cells = [.sl l t]) ∧ (∀ (b n s : Nat), (AV.ms b n s).cells = [.ms b n s]) ∧ (∀ (f : FuncId) (p c : List AV), (AV.fn f p c).cells = [.fn f p c]) ∧ (AV.nilf).cells = [.nilf] ∧ (∀ (l : List AV), (AV.rop l).cells = [.rop l]) :=
  ⟨fun _ _ => rfl, fun _ => rfl, fun _ => rfl, fun _ => rfl, fun _ _ => rfl, rfl, rfl, fun _ _ => rfl, fun _ _ _ => rfl, fun _ _ _ => rfl, rfl, fun _ => rfl⟩
theorem vA : type_of% (And.intro @evOp.eq_1 (And.intro @evf_eq (And.intro @aop.eq_1 (And.intro @aop.eq_2 (And.intro @aop.eq_3 (And.intro @aop.eq_4 (And.intro @aop.eq_5 (And.intro @aop.eq_6 (And.intro @aop.eq_7 (And.intro @aop.eq_8 (And.intro @aop.eq_9 (And.intro @aop.eq_10 (And.intro @aop.eq_11 (And.intro @aop.eq_12 (And.intro @aop.eq_13 (And.intro @aop.eq_14 (And.intro @aop.eq_15 (And.intro @aop.eq_16 (And.intro @aop.eq_17 (And.intro @aop.eq_18 (And.intro @aop.eq_19 (And.intro @aop.eq_20 (And.intro @aop.eq_21 (And.intro @aop.eq_22 (And.intro @aop.eq_23 (And.intro @aop.eq_24 (And.intro @aop.eq_25 (And.intro @aop.eq_26 (And.intro @aop.eq_27 (And.intro @aop.eq_28 (And.intro @aop.eq_29 (And.intro @aop.eq_30 (And.intro @aop.eq_31 (And.intro @aop.eq_32 (And.intro @aop.eq_33 (And.intro @aop.eq_34 (And.intro @evd.eq_1 (And.intro @evd.eq_2 (And.intro @finish.eq_1 (And.intro @finish.eq_2 (And.intro @finish.eq_3 (And.intro @finish.eq_4 (And.intro @finish.eq_5 (And.intro @finish.eq_6 (And.intro @finish.eq_7 (And.intro @finish.eq_8 (And.intro @rep.eq_1 (And.intro @rep.eq_2 (And.intro @chunk.eq_1 (And.intro @chunk.eq_2 (And.intro @newsOf.eq_1 (And.intro @newsOf.eq_2 (And.intro @newsOf.eq_3 (And.intro @binA.eq_1 (And.intro @binA.eq_2 (And.intro @binA.eq_3 (And.intro @binA.eq_4 (And.intro @binA.eq_5 (And.intro @binA.eq_6 (And.intro @binA.eq_7 (And.intro @binA.eq_8 (And.intro @binA.eq_9 (And.intro @binA.eq_10 (And.intro @binA.eq_11 (And.intro @binA.eq_12 (And.intro @binA.eq_13 (And.intro @binA.eq_14 (And.intro @binA.eq_15 (And.intro @binA.eq_16 (And.intro @binA.eq_17 (And.intro @cmpI.eq_1 (And.intro @cmpI.eq_2 (And.intro @cmpI.eq_3 (And.intro @cmpI.eq_4 (And.intro @cmpI.eq_5 (And.intro @cmpI.eq_6 (And.intro @cmpI.eq_7 (And.intro @takeCells.eq_1 (And.intro @takeCells.eq_2 (And.intro @layAt.eq_1 (And.intro @layAt.eq_2 (And.intro @isNilA.eq_1 (And.intro @isNilA.eq_2 (And.intro @isNilA.eq_3 (And.intro @isNilA.eq_4 (And.intro @isNilA.eq_5 (And.intro @isNilA.eq_6 (And.intro @isNilA.eq_7 (And.intro @isNilA.eq_8 (And.intro @isNilA.eq_9 (And.intro @eqT.eq_1 (And.intro @eqT.eq_2 (And.intro @eqT.eq_3 (And.intro @eqT.eq_4 (And.intro @eqSc.eq_1 (And.intro @eqSc.eq_2 (And.intro @eqSc.eq_3 (And.intro @eqSc.eq_4 (And.intro @AV.plain.eq_1 (And.intro @AV.plain.eq_2 (And.intro @AV.plain1.eq_1 (And.intro @AV.plain1.eq_2 (And.intro @AV.okCells.eq_1 (And.intro @AV.okCells.eq_2 (And.intro @AV.okCells.eq_3 (And.intro @AV.scalar.eq_1 (And.intro @AV.scalar.eq_2 (And.intro @AV.scalar.eq_3 (And.intro @AV.scalar.eq_4 (@cellsC)))))))))))))))))))))))))))))))))))))))))))))))))))))))))))))))))))))))))))))))))))))))))))))))))))))))))))))) := And.intro @evOp.eq_1 (And.intro @evf_eq (And.intro @aop.eq_1 (And.intro @aop.eq_2 (And.intro @aop.eq_3 (And.intro @aop.eq_4 (And.intro @aop.eq_5 (And.intro @aop.eq_6 (And.intro @aop.eq_7 (And.intro @aop.eq_8 (And.intro @aop.eq_9 (And.intro @aop.eq_10 (And.intro @aop.eq_11 (And.intro @aop.eq_12 (And.intro @aop.eq_13 (And.intro @aop.eq_14 (And.intro @aop.eq_15 (And.intro @aop.eq_16 (And.intro @aop.eq_17 (And.intro @aop.eq_18 (And.intro @aop.eq_19 (And.intro @aop.eq_20 (And.intro @aop.eq_21 (And.intro @aop.eq_22 (And.intro @aop.eq_23 (And.intro @aop.eq_24 (And.intro @aop.eq_25 (And.intro @aop.eq_26 (And.intro @aop.eq_27 (And.intro @aop.eq_28 (And.intro @aop.eq_29 (And.intro @aop.eq_30 (And.intro @aop.eq_31 (And.intro @aop.eq_32 (And.intro @aop.eq_33 (And.intro @aop.eq_34 (And.intro @evd.eq_1 (And.intro @evd.eq_2 (And.intro @finish.eq_1 (And.intro @finish.eq_2 (And.intro @finish.eq_3 (And.intro @finish.eq_4 (And.intro @finish.eq_5 (And.intro @finish.eq_6 (And.intro @finish.eq_7 (And.intro @finish.eq_8 (And.intro @rep.eq_1 (And.intro @rep.eq_2 (And.intro @chunk.eq_1 (And.intro @chunk.eq_2 (And.intro @newsOf.eq_1 (And.intro @newsOf.eq_2 (And.intro @newsOf.eq_3 (And.intro @binA.eq_1 (And.intro @binA.eq_2 (And.intro @binA.eq_3 (And.intro @binA.eq_4 (And.intro @binA.eq_5 (And.intro @binA.eq_6 (And.intro @binA.eq_7 (And.intro @binA.eq_8 (And.intro @binA.eq_9 (And.intro @binA.eq_10 (And.intro @binA.eq_11 (And.intro @binA.eq_12 (And.intro @binA.eq_13 (And.intro @binA.eq_14 (And.intro @binA.eq_15 (And.intro @binA.eq_16 (And.intro @binA.eq_17 (And.intro @cmpI.eq_1 (And.intro @cmpI.eq_2 (And.intro @cmpI.eq_3 (And.intro @cmpI.eq_4 (And.intro @cmpI.eq_5 (And.intro @cmpI.eq_6 (And.intro @cmpI.eq_7 (And.intro @takeCells.eq_1 (And.intro @takeCells.eq_2 (And.intro @layAt.eq_1 (And.intro @layAt.eq_2 (And.intro @isNilA.eq_1 (And.intro @isNilA.eq_2 (And.intro @isNilA.eq_3 (And.intro @isNilA.eq_4 (And.intro @isNilA.eq_5 (And.intro @isNilA.eq_6 (And.intro @isNilA.eq_7 (And.intro @isNilA.eq_8 (And.intro @isNilA.eq_9 (And.intro @eqT.eq_1 (And.intro @eqT.eq_2 (And.intro @eqT.eq_3 (And.intro @eqT.eq_4 (And.intro @eqSc.eq_1 (And.intro @eqSc.eq_2 (And.intro @eqSc.eq_3 (And.intro @eqSc.eq_4 (And.intro @AV.plain.eq_1 (And.intro @AV.plain.eq_2 (And.intro @AV.plain1.eq_1 (And.intro @AV.plain1.eq_2 (And.intro @AV.okCells.eq_1 (And.intro @AV.okCells.eq_2 (And.intro @AV.okCells.eq_3 (And.intro @AV.scalar.eq_1 (And.intro @AV.scalar.eq_2 (And.intro @AV.scalar.eq_3 (And.intro @AV.scalar.eq_4 (@cellsC)))))))))))))))))))))))))))))))))))))))))))))))))))))))))))))))))))))))))))))))))))))))))))))))))))))))))))))
theorem sA : type_of% (And.intro @putA.eq_1 (And.intro @putA.eq_2 (And.intro (@List.set_cons_zero AV) (@List.set_cons_succ AV)))) := And.intro @putA.eq_1 (And.intro @putA.eq_2 (And.intro (@List.set_cons_zero AV) (@List.set_cons_succ AV)))
theorem ExO.stI {x : AOper} {l : List AOper} (k : IntKind) (n : Int) (S1 : St) (hk : opK x = 1) (hv : evOp noClr x.op a S = some (.int k n, S1)) (h : ∀ m, m = n → ExO n0 P l (putA a x.dst (.int k m)) S1 R) : ExO n0 P (x :: l) a S R := ExO.op (noClr_ok P) (opK_free (by omega)) hv (h n rfl)
theorem ExO.stB {x : AOper} {l : List AOper} (n : Bool) (S1 : St) (hk : opK x = 2) (hv : evOp noClr x.op a S = some (.bool n, S1)) (h : ∀ m, m = n → ExO n0 P l (putA a x.dst (.bool m)) S1 R) : ExO n0 P (x :: l) a S R := ExO.op (noClr_ok P) (opK_free (by omega)) hv (h n rfl)
theorem ExO.stG {x : AOper} {l : List AOper} (v : AV) (S1 : St) (hk : Nat.blt (opK x) 8 = true) (hv : evOp noClr x.op a S = some (v, S1)) (h : ExO n0 P l (putA a x.dst v) S1 R) : ExO n0 P (x :: l) a S R := ExO.op (noClr_ok P) (opK_free (by simp [Nat.blt] at hk; omega)) hv h
theorem ExO.stW {x : AOper} {l : List AOper} (v : AV) (S1 : St) (hw : wantedA x.guard a = some true) (hv : evOp noClr x.op a S = some (v, S1)) (h : ExO n0 P l (putA a x.dst v) S1 R) : ExO n0 P (x :: l) a S R := ExO.op (noClr_ok P) hw hv h
theorem ExO.stWB {x : AOper} {l : List AOper} (n : Bool) (S1 : St) (hw : wantedA x.guard a = some true) (hv : evOp noClr x.op a S = some (.bool n, S1)) (h : ∀ m, m = n → ExO n0 P l (putA a x.dst (.bool m)) S1 R) : ExO n0 P (x :: l) a S R := ExO.op (noClr_ok P) hw hv (h n rfl)
inductive LitB (n : Bool) : Bool → Prop
  | t (h : n = true) : LitB n true
  | f (h : n = false) : LitB n false
theorem LitB.eq {n b : Bool} (h : LitB n b) : n = b := by cases h with
  | t h => exact h
  | f h => exact h
theorem xI {x : AOper} {l : List AOper} {k : IntKind} {n : Int} {S1 : St} (h : ∀ m, m = n → ExO n0 P l (putA a x.dst (.int k m)) S1 R) (hk : opK x = 1 := by rfl) (hv : evOp noClr x.op a S = some (.int k n, S1) := by (simp [vA, fRes_eq]; first | done | exact ⟨⟨rfl, rfl⟩, rfl⟩ | exact ⟨rfl, rfl⟩ | exact rfl)) : ExO n0 P (x :: l) a S R := ExO.stI k n S1 hk hv h
theorem xL {x : AOper} {l : List AOper} {n b : Bool} {S1 : St} (h : ExO n0 P l (putA a x.dst (.bool b)) S1 R) (hk : opK x = 2 := by rfl) (hv : evOp noClr x.op a S = some (.bool n, S1) := by (simp [vA, fRes_eq]; first | done | exact ⟨⟨rfl, rfl⟩, rfl⟩ | exact ⟨rfl, rfl⟩ | exact rfl)) (hl : LitB n b := by first | exact .t rfl | exact .f rfl) : ExO n0 P (x :: l) a S R := ExO.stB n S1 hk hv fun m hm => by rw [hm, hl.eq]; exact h
theorem xB {x : AOper} {l : List AOper} {n : Bool} {S1 : St} (h : ∀ m, m = n → ExO n0 P l (putA a x.dst (.bool m)) S1 R) (hk : opK x = 2 := by rfl) (hv : evOp noClr x.op a S = some (.bool n, S1) := by (simp [vA, fRes_eq]; first | done | exact ⟨⟨rfl, rfl⟩, rfl⟩ | exact ⟨rfl, rfl⟩ | exact rfl)) : ExO n0 P (x :: l) a S R := ExO.stB n S1 hk hv h
theorem xG {x : AOper} {l : List AOper} {v : AV} {S1 : St} (h : ExO n0 P l (putA a x.dst v) S1 R) (hk : Nat.blt (opK x) 8 = true := by rfl) (hv : evOp noClr x.op a S = some (v, S1) := by (simp [vA, fRes_eq]; first | done | exact ⟨⟨rfl, rfl⟩, rfl⟩ | exact ⟨rfl, rfl⟩ | exact rfl)) : ExO n0 P (x :: l) a S R := ExO.stG v S1 hk hv h
theorem xS {x : AOper} {l : List AOper} (h : ExO n0 P l (putA a x.dst (.tup [])) S R) (hw : wantedA x.guard a = some false := by rfl) : ExO n0 P (x :: l) a S R := ExO.skip hw h
theorem xM {x : AOper} {l : List AOper} {n b : Bool} {S1 : St} (h : ExO n0 P l (putA a x.dst (.bool b)) S1 R) (hw : wantedA x.guard a = some true := by rfl) (hv : evOp noClr x.op a S = some (.bool n, S1) := by (simp [vA, fRes_eq]; first | done | exact ⟨⟨rfl, rfl⟩, rfl⟩ | exact ⟨rfl, rfl⟩ | exact rfl)) (hl : LitB n b := by first | exact .t rfl | exact .f rfl) : ExO n0 P (x :: l) a S R := ExO.stWB n S1 hw hv fun m hm => by rw [hm, hl.eq]; exact h
theorem xC {x : AOper} {l : List AOper} {n : Bool} {S1 : St} (h : ∀ m, m = n → ExO n0 P l (putA a x.dst (.bool m)) S1 R) (hw : wantedA x.guard a = some true := by rfl) (hv : evOp noClr x.op a S = some (.bool n, S1) := by (simp [vA, fRes_eq]; first | done | exact ⟨⟨rfl, rfl⟩, rfl⟩ | exact ⟨rfl, rfl⟩ | exact rfl)) : ExO n0 P (x :: l) a S R := ExO.stWB n S1 hw hv h
theorem xW {x : AOper} {l : List AOper} {v : AV} {S1 : St} (h : ExO n0 P l (putA a x.dst v) S1 R) (hw : wantedA x.guard a = some true := by rfl) (hv : evOp noClr x.op a S = some (v, S1) := by (simp [vA, fRes_eq]; first | done | exact ⟨⟨rfl, rfl⟩, rfl⟩ | exact ⟨rfl, rfl⟩ | exact rfl)) : ExO n0 P (x :: l) a S R := ExO.stW v S1 hw hv h
theorem xJ {x : AOper} {l : List AOper} {k : IntKind} {n : Int} {S1 : St} (h : ∀ m, m = n → ExO n0 P l (putA a x.dst (.int k m)) S1 R) (hk : opK ⟨x.dst, x.op, none⟩ = 1 := by rfl) (hw : wantedA x.guard a = some true := by rfl) (hv : evOp noClr x.op a S = some (.int k n, S1) := by (simp [vA, fRes_eq]; first | done | exact ⟨⟨rfl, rfl⟩, rfl⟩ | exact ⟨rfl, rfl⟩ | exact rfl)) : ExO n0 P (x :: l) a S R := ExO.op (noClr_ok P) hw hv (h n rfl)
theorem eT {y : AOpd} {c d : ACode} (h : Ex n0 md P c a S Q) (hb : evd a y = .bool true := by rfl) : Ex n0 md P (.cond y c d) a S Q := Ex.cond hb h
theorem eF {y : AOpd} {c d : ACode} (h : Ex n0 md P d a S Q) (hb : evd a y = .bool false := by rfl) : Ex n0 md P (.cond y c d) a S Q := Ex.cond hb h
theorem ExO.run : ∀ (xs : List AOper) {a a' : List AV} {S S' : St}, evOps noClr xs a S = some (a', S') → R a' S' → ExO n0 P xs a S R
  | [], a, a', S, S', h, hr => by cases h; exact .nil hr
  | x :: xs, a, a', S, S', h, hr => by
    simp only [evOps] at h
    split at h
    · rename_i hw
      split at h
      · rename_i v S1 hv
        rw [putK_eq, sp_eq] at h
        exact .op (noClr_ok P) hw hv (ExO.run xs h hr)
      · cases h
    · rename_i hw
      exact .skip hw (ExO.run xs h hr)
    · cases h
end rules
end Go.Proofs.Ytoefpcpijolofaa
end
section
namespace Go.Proofs.Ytoefpcpijolofaa
open Go.RowKit
set_option linter.unusedVariables false
set_option linter.unusedSimpArgs false
set_option maxRecDepth 10000

theorem wrap_u64 (x : Int) : 0 ≤ IntKind.u64.wrap x ∧ IntKind.u64.wrap x < 2 ^ 64 := by
  have e : IntKind.u64.wrap x = x % 2 ^ 64 := rfl
  rw [e]
  omega
theorem i64_in {x : Int} (h0 : -9223372036854775808 ≤ x) (h1 : x < 9223372036854775808) : IntKind.i64.wrap x = x := by
  simp [IntKind.wrap, IntKind.bits, IntKind.signed]
  omega

abbrev Sp := List AV → List (List AV) → AV → List (List AV) → Prop
def sHit : Sp := fun _ _ v c' => ∃ y b', v = .int .u64 y ∧ c' = [[.int .u64 b']] ∧ 0 ≤ y ∧ y < 2 ^ 64
def sRoll : Sp := fun xs _ v c' => match xs with
  | [_, .int _ n] => ∃ m b', v = .int .i64 m ∧ c' = [[.int .u64 b']] ∧ 0 ≤ m ∧ (n < 2 → m = 0) ∧ (2 ≤ n → m < n)
  | _ => False
def sMid : Sp := fun xs _ v c' => match xs with
  | [_, .int _ lo, .int _ hi] => ∃ m b', v = .int .i64 m ∧ c' = [[.int .u64 b']] ∧ lo ≤ m ∧ (lo ≤ hi → m ≤ hi) ∧ (hi < lo → m = lo)
  | _ => False
def sAny : Sp := fun xs _ v c' => match xs with
  | [_, .sl els _] => ∃ m b', v = .int .i64 m ∧ c' = [[.int .u64 b']] ∧ AV.int .i64 m ∈ els
  | _ => False
def sSpan : Sp := fun xs _ v c' => match xs with
  | [_, .int _ lo, .int _ hi] => ∃ m n b', v = .agg [.int .i64 m, .int .i64 n] ∧ c' = [[.int .u64 b']] ∧ lo ≤ m ∧ m ≤ n ∧ n ≤ hi
  | _ => False
theorem hit_m (b : Int) : Does Try.prog 48 [.ptr 0 0] [[.int .u64 b]] (sHit [.ptr 0 0] [[.int .u64 b]]) := by
  refine Does.of comp48 ?_
  unfold F48
  simp only [start, List.length_cons, List.length_nil, List.replicate, List.cons_append, List.nil_append, Nat.reduceAdd, Nat.reduceSub]
  (repeat (first|((first|refine ExO.nil ?_|refine Ex.skip ?_|refine Ex.ret ?_|refine Ex.exit ?_); try dsimp only)|((first|(refine xI ?_; intro _ _)|refine xL ?_|(refine xB ?_; intro _ _)|refine xG ?_|refine xS ?_|refine xM ?_|(refine xC ?_; intro _ _)|refine xW ?_); try simp only [sA])|refine Ex.seq ?_|refine Ex.reg ?_|refine Ex.block ?_|refine eT ?_|refine eF ?_|simp only [reduceCtorEq, AEx.ex.injEq, Nat.reduceEqDiff, if_true, if_false]))
  rename_i m hm
  simp [evRes, evRes1, one, AV.names, takeCells]
  refine ⟨_, _, rfl, rfl, ?_⟩
  rw [hm]
  exact wrap_u64 _

theorem roll_m (b n : Int) (hn : n < 9223372036854775808) : Does Try.prog 40 [.ptr 0 0, .int .i64 n] [[.int .u64 b]] (sRoll [.ptr 0 0, .int .i64 n] [[.int .u64 b]]) := by
  refine Does.of comp40 ?_
  unfold F40
  simp only [start, List.length_cons, List.length_nil, List.replicate, List.cons_append, List.nil_append, Nat.reduceAdd, Nat.reduceSub]
  (repeat (first|((first|refine ExO.nil ?_|refine Ex.skip ?_|refine Ex.ret ?_|refine Ex.exit ?_); try dsimp only)|((first|(refine xI ?_; intro _ _)|refine xL ?_|(refine xB ?_; intro _ _)|refine xG ?_|refine xS ?_|refine xM ?_|(refine xC ?_; intro _ _)|refine xW ?_); try simp only [sA])|refine Ex.seq ?_|refine Ex.reg ?_|refine Ex.block ?_|refine eT ?_|refine eF ?_|simp only [reduceCtorEq, AEx.ex.injEq, Nat.reduceEqDiff, if_true, if_false]))
  rename_i c hc
  cases c
  · (refine Ex.cond (b := false) (by first | rfl | simp [evd]) ?_; simp only [Bool.false_eq_true, if_false])
    have hn2 : 2 ≤ n := by simpa using hc
    (repeat (first|((first|refine ExO.nil ?_|refine Ex.skip ?_|refine Ex.ret ?_|refine Ex.exit ?_); try dsimp only)|((first|(refine xI ?_; intro _ _)|refine xL ?_|(refine xB ?_; intro _ _)|refine xG ?_|refine xS ?_|refine xM ?_|(refine xC ?_; intro _ _)|refine xW ?_); try simp only [sA])|refine Ex.seq ?_|refine Ex.reg ?_|refine Ex.block ?_|refine eT ?_|refine eF ?_|simp only [reduceCtorEq, AEx.ex.injEq, Nat.reduceEqDiff, if_true, if_false]))
    refine ExO.call (f := (48)) (xs := ([.ptr 0 0])) (bs := ([0])) (cells := ([[.int .u64 b]])) (by rfl) (by rfl) (by rfl) (by rfl) (by rfl) (by rfl) ((hit_m b)) ?_
    rintro v c' ⟨y, b', rfl, rfl, h1, h2⟩
    refine ⟨_, rfl, rfl, ?_⟩
    simp only [List.map_cons, List.map_nil, putA, List.set_cons_zero, List.set_cons_succ, AV.plain, AV.plain1, setAll, List.length_cons, List.length_nil, List.drop_succ_cons, List.drop_zero, List.drop_nil, List.append_nil, Nat.reduceAdd]
    (repeat (first|((first|refine ExO.nil ?_|refine Ex.skip ?_|refine Ex.ret ?_|refine Ex.exit ?_); try dsimp only)|((first|(refine xI ?_; intro _ _)|refine xL ?_|(refine xB ?_; intro _ _)|refine xG ?_|refine xS ?_|refine xM ?_|(refine xC ?_; intro _ _)|refine xW ?_); try simp only [sA])|refine Ex.seq ?_|refine Ex.reg ?_|refine Ex.block ?_|refine eT ?_|refine eF ?_|simp only [reduceCtorEq, AEx.ex.injEq, Nat.reduceEqDiff, if_true, if_false]))
    rename_i m1 hm1 m2 hm2
    have e2 : m2 = n := by rw [hm2]; show n % 2 ^ 64 = n; omega
    have e1 : m1 = y / 2 := by rw [hm1]; show y.fdiv 2 = y / 2; rw [Int.fdiv_eq_ediv_of_nonneg _ (by omega)]
    have hne : ¬ m2 = 0 := by omega
    (apply ExO.stI; (case hk => rfl); (case hv => (simp [vA, fRes_eq, hne]; first|done|exact ⟨⟨rfl,rfl⟩,rfl⟩|exact ⟨rfl,rfl⟩|exact rfl)); (intro _ _; simp only [sA]))
    (repeat (first|((first|refine ExO.nil ?_|refine Ex.skip ?_|refine Ex.ret ?_|refine Ex.exit ?_); try dsimp only)|((first|(refine xI ?_; intro _ _)|refine xL ?_|(refine xB ?_; intro _ _)|refine xG ?_|refine xS ?_|refine xM ?_|(refine xC ?_; intro _ _)|refine xW ?_); try simp only [sA])|refine Ex.seq ?_|refine Ex.reg ?_|refine Ex.block ?_|refine eT ?_|refine eF ?_|simp only [reduceCtorEq, AEx.ex.injEq, Nat.reduceEqDiff, if_true, if_false]))
    rename_i m3 hm3 m4 hm4
    have e3 : m3 = m1 % m2 := by rw [hm3, Int.tmod_eq_emod_of_nonneg (by omega)]
    have b1 := Int.emod_nonneg m1 hne
    have b2 := Int.emod_lt_of_pos m1 (show 0 < m2 by omega)
    rw [i64_in (by omega) (by omega)] at hm4
    simp [evRes, evRes1, one, AV.names, takeCells]
    exact ⟨_, _, rfl, rfl, by omega, fun _ => by omega, fun _ => by omega⟩
  · (refine Ex.cond (b := true) (by first | rfl | simp [evd]) ?_; simp only [if_true])
    have hn2 : n < 2 := by simpa using hc
    (repeat (first|((first|refine ExO.nil ?_|refine Ex.skip ?_|refine Ex.ret ?_|refine Ex.exit ?_); try dsimp only)|((first|(refine xI ?_; intro _ _)|refine xL ?_|(refine xB ?_; intro _ _)|refine xG ?_|refine xS ?_|refine xM ?_|(refine xC ?_; intro _ _)|refine xW ?_); try simp only [sA])|refine Ex.seq ?_|refine Ex.reg ?_|refine Ex.block ?_|refine eT ?_|refine eF ?_|simp only [reduceCtorEq, AEx.ex.injEq, Nat.reduceEqDiff, if_true, if_false]))
    simp [evRes, evRes1, one, AV.names, takeCells]
    exact ⟨_, _, rfl, rfl, by omega, fun _ => rfl, fun _ => by omega⟩

theorem mid_m (b lo hi : Int) (h0 : 0 ≤ lo) (h1 : lo ≤ 4611686018427387904) (h2 : 0 ≤ hi) (h3 : hi ≤ 4611686018427387904) : Does Try.prog 41 [.ptr 0 0, .int .i64 lo, .int .i64 hi] [[.int .u64 b]] (sMid [.ptr 0 0, .int .i64 lo, .int .i64 hi] [[.int .u64 b]]) := by
  refine Does.of comp41 ?_
  unfold F41
  simp only [start, List.length_cons, List.length_nil, List.replicate, List.cons_append, List.nil_append, Nat.reduceAdd, Nat.reduceSub]
  (repeat (first|((first|refine ExO.nil ?_|refine Ex.skip ?_|refine Ex.ret ?_|refine Ex.exit ?_); try dsimp only)|((first|(refine xI ?_; intro _ _)|refine xL ?_|(refine xB ?_; intro _ _)|refine xG ?_|refine xS ?_|refine xM ?_|(refine xC ?_; intro _ _)|refine xW ?_); try simp only [sA])|refine Ex.seq ?_|refine Ex.reg ?_|refine Ex.block ?_|refine eT ?_|refine eF ?_|simp only [reduceCtorEq, AEx.ex.injEq, Nat.reduceEqDiff, if_true, if_false]))
  rename_i m1 hm1 m2 hm2
  rw [i64_in (by omega) (by omega)] at hm1
  rw [i64_in (by omega) (by omega)] at hm2
  refine ExO.call (f := (40)) (xs := ([.ptr 0 0, .int .i64 m2])) (bs := ([0])) (cells := ([[.int .u64 b]])) (by rfl) (by rfl) (by rfl) (by rfl) (by rfl) (by rfl) ((roll_m b m2 (by omega))) ?_
  rintro v c' ⟨m, b', rfl, rfl, g1, g2, g3⟩
  refine ⟨_, rfl, rfl, ?_⟩
  simp only [List.map_cons, List.map_nil, putA, List.set_cons_zero, List.set_cons_succ, AV.plain, AV.plain1, setAll, List.length_cons, List.length_nil, List.drop_succ_cons, List.drop_zero, List.drop_nil, List.append_nil, Nat.reduceAdd]
  (repeat (first|((first|refine ExO.nil ?_|refine Ex.skip ?_|refine Ex.ret ?_|refine Ex.exit ?_); try dsimp only)|((first|(refine xI ?_; intro _ _)|refine xL ?_|(refine xB ?_; intro _ _)|refine xG ?_|refine xS ?_|refine xM ?_|(refine xC ?_; intro _ _)|refine xW ?_); try simp only [sA])|refine Ex.seq ?_|refine Ex.reg ?_|refine Ex.block ?_|refine eT ?_|refine eF ?_|simp only [reduceCtorEq, AEx.ex.injEq, Nat.reduceEqDiff, if_true, if_false]))
  rename_i m3 hm3
  rw [i64_in (by omega) (by omega)] at hm3
  simp [evRes, evRes1, one, AV.names, takeCells]
  exact ⟨_, _, rfl, rfl, by omega, fun _ => by omega, fun _ => by omega⟩

theorem any_m (b : Int) (l : List Int) (hl : l ≠ []) (hn : l.length < 1000000) : Does Try.prog 39 [.ptr 0 0, .sl (l.map fun z => .int .i64 z) none] [[.int .u64 b]] (sAny [.ptr 0 0, .sl (l.map fun z => .int .i64 z) none] [[.int .u64 b]]) := by
  have hpos : 0 < l.length := List.length_pos_iff.2 hl
  refine Does.of comp39 ?_
  unfold F39
  simp only [start, List.length_cons, List.length_nil, List.replicate, List.cons_append, List.nil_append, Nat.reduceAdd, Nat.reduceSub]
  (repeat (first|((first|refine ExO.nil ?_|refine Ex.skip ?_|refine Ex.ret ?_|refine Ex.exit ?_); try dsimp only)|((first|(refine xI ?_; intro _ _)|refine xL ?_|(refine xB ?_; intro _ _)|refine xG ?_|refine xS ?_|refine xM ?_|(refine xC ?_; intro _ _)|refine xW ?_); try simp only [sA])|refine Ex.seq ?_|refine Ex.reg ?_|refine Ex.block ?_|refine eT ?_|refine eF ?_|simp only [reduceCtorEq, AEx.ex.injEq, Nat.reduceEqDiff, if_true, if_false]))
  rename_i c hc
  have hcf : c = false := by rw [hc]; simp; omega
  subst hcf
  clear hc
  (refine Ex.cond (b := false) (by first | rfl | simp [evd]) ?_; simp only [Bool.false_eq_true, if_false])
  (repeat (first|((first|refine ExO.nil ?_|refine Ex.skip ?_|refine Ex.ret ?_|refine Ex.exit ?_); try dsimp only)|((first|(refine xI ?_; intro _ _)|refine xL ?_|(refine xB ?_; intro _ _)|refine xG ?_|refine xS ?_|refine xM ?_|(refine xC ?_; intro _ _)|refine xW ?_); try simp only [sA])|refine Ex.seq ?_|refine Ex.reg ?_|refine Ex.block ?_|refine eT ?_|refine eF ?_|simp only [reduceCtorEq, AEx.ex.injEq, Nat.reduceEqDiff, if_true, if_false]))
  refine ExO.call (f := (40)) (xs := ([.ptr 0 0, .int .i64 l.length])) (bs := ([0])) (cells := ([[.int .u64 b]])) (by rfl) (by rfl) (by rfl) (by rfl) (by rfl) (by rfl) ((roll_m b l.length (by omega))) ?_
  rintro v c' ⟨m, b', rfl, rfl, g1, g2, g3⟩
  refine ⟨_, rfl, rfl, ?_⟩
  simp only [List.map_cons, List.map_nil, putA, List.set_cons_zero, List.set_cons_succ, AV.plain, AV.plain1, setAll, List.length_cons, List.length_nil, List.drop_succ_cons, List.drop_zero, List.drop_nil, List.append_nil, Nat.reduceAdd]
  obtain ⟨i, rfl⟩ : ∃ i : Nat, m = (i : Int) := ⟨m.toNat, by omega⟩
  have hi : i < l.length := by
    by_cases h2 : 2 ≤ (l.length : Int)
    · have := g3 h2; omega
    · have := g2 (by omega); omega
  have e1 : l[i]? = some l[i] := List.getElem?_eq_getElem hi
  have hmem : AV.int .i64 l[i] ∈ l.map fun z => AV.int .i64 z := List.mem_map.2 ⟨l[i], List.getElem_mem hi, rfl⟩
  generalize l[i] = x at e1 hmem
  have l1 : (i : Int) < (l.length : Int) := by omega
  (apply ExO.stG; (case hk => rfl); (case hv => (simp [vA, fRes_eq, e1, l1]; first|done|exact ⟨⟨rfl,rfl⟩,rfl⟩|exact ⟨rfl,rfl⟩|exact rfl)); (try simp only [sA]))
  (repeat (first|((first|refine ExO.nil ?_|refine Ex.skip ?_|refine Ex.ret ?_|refine Ex.exit ?_); try dsimp only)|((first|(refine xI ?_; intro _ _)|refine xL ?_|(refine xB ?_; intro _ _)|refine xG ?_|refine xS ?_|refine xM ?_|(refine xC ?_; intro _ _)|refine xW ?_); try simp only [sA])|refine Ex.seq ?_|refine Ex.reg ?_|refine Ex.block ?_|refine eT ?_|refine eF ?_|simp only [reduceCtorEq, AEx.ex.injEq, Nat.reduceEqDiff, if_true, if_false]))
  simp [evRes, evRes1, one, AV.names, takeCells]
  exact ⟨_, _, rfl, rfl, hmem⟩

theorem span_m (b lo hi : Int) (h0 : 0 ≤ lo) (h1 : lo ≤ hi) (h3 : hi ≤ 2305843009213693952) : Does Try.prog 49 [.ptr 0 0, .int .i64 lo, .int .i64 hi] [[.int .u64 b]] (sSpan [.ptr 0 0, .int .i64 lo, .int .i64 hi] [[.int .u64 b]]) := by
  refine Does.of comp49 ?_
  unfold F49
  simp only [start, List.length_cons, List.length_nil, List.replicate, List.cons_append, List.nil_append, Nat.reduceAdd, Nat.reduceSub]
  (repeat (first|((first|refine ExO.nil ?_|refine Ex.skip ?_|refine Ex.ret ?_|refine Ex.exit ?_); try dsimp only)|((first|(refine xI ?_; intro _ _)|refine xL ?_|(refine xB ?_; intro _ _)|refine xG ?_|refine xS ?_|refine xM ?_|(refine xC ?_; intro _ _)|refine xW ?_); try simp only [sA])|refine Ex.seq ?_|refine Ex.reg ?_|refine Ex.block ?_|refine eT ?_|refine eF ?_|simp only [reduceCtorEq, AEx.ex.injEq, Nat.reduceEqDiff, if_true, if_false]))
  refine ExO.call (f := (41)) (xs := ([.ptr 0 0, .int .i64 lo, .int .i64 hi])) (bs := ([0])) (cells := ([[.int .u64 b]])) (by rfl) (by rfl) (by rfl) (by rfl) (by rfl) (by rfl) ((mid_m b lo hi h0 (by omega) (by omega) (by omega))) ?_
  rintro v c' ⟨m, b1, rfl, rfl, g1, g2, g3⟩
  refine ⟨_, rfl, rfl, ?_⟩
  simp only [List.map_cons, List.map_nil, putA, List.set_cons_zero, List.set_cons_succ, AV.plain, AV.plain1, setAll, List.length_cons, List.length_nil, List.drop_succ_cons, List.drop_zero, List.drop_nil, List.append_nil, Nat.reduceAdd]
  (repeat (first|((first|refine ExO.nil ?_|refine Ex.skip ?_|refine Ex.ret ?_|refine Ex.exit ?_); try dsimp only)|((first|(refine xI ?_; intro _ _)|refine xL ?_|(refine xB ?_; intro _ _)|refine xG ?_|refine xS ?_|refine xM ?_|(refine xC ?_; intro _ _)|refine xW ?_); try simp only [sA])|refine Ex.seq ?_|refine Ex.reg ?_|refine Ex.block ?_|refine eT ?_|refine eF ?_|simp only [reduceCtorEq, AEx.ex.injEq, Nat.reduceEqDiff, if_true, if_false]))
  refine ExO.call (f := (40)) (xs := ([.ptr 0 0, .int .i64 3])) (bs := ([0])) (cells := ([[.int .u64 b1]])) (by rfl) (by rfl) (by rfl) (by rfl) (by rfl) (by rfl) ((roll_m b1 3 (by omega))) ?_
  rintro v c' ⟨k, b2, rfl, rfl, k1, k2, k3⟩
  refine ⟨_, rfl, rfl, ?_⟩
  simp only [List.map_cons, List.map_nil, putA, List.set_cons_zero, List.set_cons_succ, AV.plain, AV.plain1, setAll, List.length_cons, List.length_nil, List.drop_succ_cons, List.drop_zero, List.drop_nil, List.append_nil, Nat.reduceAdd]
  (repeat (first|((first|refine ExO.nil ?_|refine Ex.skip ?_|refine Ex.ret ?_|refine Ex.exit ?_); try dsimp only)|((first|(refine xI ?_; intro _ _)|refine xL ?_|(refine xB ?_; intro _ _)|refine xG ?_|refine xS ?_|refine xM ?_|(refine xC ?_; intro _ _)|refine xW ?_); try simp only [sA])|refine Ex.seq ?_|refine Ex.reg ?_|refine Ex.block ?_|refine eT ?_|refine eF ?_|simp only [reduceCtorEq, AEx.ex.injEq, Nat.reduceEqDiff, if_true, if_false]))
  rename_i c hc
  cases c
  · (refine Ex.cond (b := false) (by first | rfl | simp [evd]) ?_; simp only [Bool.false_eq_true, if_false])
    (repeat (first|((first|refine ExO.nil ?_|refine Ex.skip ?_|refine Ex.ret ?_|refine Ex.exit ?_); try dsimp only)|((first|(refine xI ?_; intro _ _)|refine xL ?_|(refine xB ?_; intro _ _)|refine xG ?_|refine xS ?_|refine xM ?_|(refine xC ?_; intro _ _)|refine xW ?_); try simp only [sA])|refine Ex.seq ?_|refine Ex.reg ?_|refine Ex.block ?_|refine eT ?_|refine eF ?_|simp only [reduceCtorEq, AEx.ex.injEq, Nat.reduceEqDiff, if_true, if_false]))
    rename_i c2 hc2
    cases c2
    · (refine Ex.cond (b := false) (by first | rfl | simp [evd]) ?_; simp only [Bool.false_eq_true, if_false])
      (repeat (first|((first|refine ExO.nil ?_|refine Ex.skip ?_|refine Ex.ret ?_|refine Ex.exit ?_); try dsimp only)|((first|(refine xI ?_; intro _ _)|refine xL ?_|(refine xB ?_; intro _ _)|refine xG ?_|refine xS ?_|refine xM ?_|(refine xC ?_; intro _ _)|refine xW ?_); try simp only [sA])|refine Ex.seq ?_|refine Ex.reg ?_|refine Ex.block ?_|refine eT ?_|refine eF ?_|simp only [reduceCtorEq, AEx.ex.injEq, Nat.reduceEqDiff, if_true, if_false]))
      refine ExO.call (f := (41)) (xs := ([.ptr 0 0, .int .i64 m, .int .i64 hi])) (bs := ([0])) (cells := ([[.int .u64 b2]])) (by rfl) (by rfl) (by rfl) (by rfl) (by rfl) (by rfl) ((mid_m b2 m hi (by omega) (by omega) (by omega) (by omega))) ?_
      rintro v c' ⟨n, b3, rfl, rfl, p1, p2, p3⟩
      refine ⟨_, rfl, rfl, ?_⟩
      simp only [List.map_cons, List.map_nil, putA, List.set_cons_zero, List.set_cons_succ, AV.plain, AV.plain1, setAll, List.length_cons, List.length_nil, List.drop_succ_cons, List.drop_zero, List.drop_nil, List.append_nil, Nat.reduceAdd]
      (repeat (first|((first|refine ExO.nil ?_|refine Ex.skip ?_|refine Ex.ret ?_|refine Ex.exit ?_); try dsimp only)|((first|(refine xI ?_; intro _ _)|refine xL ?_|(refine xB ?_; intro _ _)|refine xG ?_|refine xS ?_|refine xM ?_|(refine xC ?_; intro _ _)|refine xW ?_); try simp only [sA])|refine Ex.seq ?_|refine Ex.reg ?_|refine Ex.block ?_|refine eT ?_|refine eF ?_|simp only [reduceCtorEq, AEx.ex.injEq, Nat.reduceEqDiff, if_true, if_false]))
      simp [evRes, evRes1, one, AV.names, takeCells]
      exact ⟨_, _, _, rfl, rfl, by omega, by omega, by omega⟩
    · (refine Ex.cond (b := true) (by first | rfl | simp [evd]) ?_; simp only [if_true])
      (repeat (first|((first|refine ExO.nil ?_|refine Ex.skip ?_|refine Ex.ret ?_|refine Ex.exit ?_); try dsimp only)|((first|(refine xI ?_; intro _ _)|refine xL ?_|(refine xB ?_; intro _ _)|refine xG ?_|refine xS ?_|refine xM ?_|(refine xC ?_; intro _ _)|refine xW ?_); try simp only [sA])|refine Ex.seq ?_|refine Ex.reg ?_|refine Ex.block ?_|refine eT ?_|refine eF ?_|simp only [reduceCtorEq, AEx.ex.injEq, Nat.reduceEqDiff, if_true, if_false]))
      rename_i q hq r hr
      rw [i64_in (by omega) (by omega)] at hq
      have hr1 : m ≤ r ∧ r ≤ hi := by rw [hr]; split <;> omega
      refine ExO.call (f := (41)) (xs := ([.ptr 0 0, .int .i64 m, .int .i64 r])) (bs := ([0])) (cells := ([[.int .u64 b2]])) (by rfl) (by rfl) (by rfl) (by rfl) (by rfl) (by rfl) ((mid_m b2 m r (by omega) (by omega) (by omega) (by omega))) ?_
      rintro v c' ⟨n, b3, rfl, rfl, p1, p2, p3⟩
      refine ⟨_, rfl, rfl, ?_⟩
      simp only [List.map_cons, List.map_nil, putA, List.set_cons_zero, List.set_cons_succ, AV.plain, AV.plain1, setAll, List.length_cons, List.length_nil, List.drop_succ_cons, List.drop_zero, List.drop_nil, List.append_nil, Nat.reduceAdd]
      (repeat (first|((first|refine ExO.nil ?_|refine Ex.skip ?_|refine Ex.ret ?_|refine Ex.exit ?_); try dsimp only)|((first|(refine xI ?_; intro _ _)|refine xL ?_|(refine xB ?_; intro _ _)|refine xG ?_|refine xS ?_|refine xM ?_|(refine xC ?_; intro _ _)|refine xW ?_); try simp only [sA])|refine Ex.seq ?_|refine Ex.reg ?_|refine Ex.block ?_|refine eT ?_|refine eF ?_|simp only [reduceCtorEq, AEx.ex.injEq, Nat.reduceEqDiff, if_true, if_false]))
      simp [evRes, evRes1, one, AV.names, takeCells]
      exact ⟨_, _, _, rfl, rfl, by omega, by omega, by omega⟩
  · (refine Ex.cond (b := true) (by first | rfl | simp [evd]) ?_; simp only [if_true])
    (repeat (first|((first|refine ExO.nil ?_|refine Ex.skip ?_|refine Ex.ret ?_|refine Ex.exit ?_); try dsimp only)|((first|(refine xI ?_; intro _ _)|refine xL ?_|(refine xB ?_; intro _ _)|refine xG ?_|refine xS ?_|refine xM ?_|(refine xC ?_; intro _ _)|refine xW ?_); try simp only [sA])|refine Ex.seq ?_|refine Ex.reg ?_|refine Ex.block ?_|refine eT ?_|refine eF ?_|simp only [reduceCtorEq, AEx.ex.injEq, Nat.reduceEqDiff, if_true, if_false]))
    simp [evRes, evRes1, one, AV.names, takeCells]
    exact ⟨_, _, _, rfl, rfl, by omega, by omega, by omega⟩
end Go.Proofs.Ytoefpcpijolofaa
end
