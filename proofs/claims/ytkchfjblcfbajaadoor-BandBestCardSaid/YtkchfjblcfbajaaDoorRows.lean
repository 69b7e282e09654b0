/-
  NARROWER THAN 'FOR EVERY INPUT', by the rows' own cells (each row's printed sentence says how): BandChecks: laid · BandCrosses: laid · BandTrue: laid · BandMeets: laid · BandNever: laid · BandAsleep: laid · BandTurn: laid · BandBest: laid · BandNarrow: laid.
  DERIVED. THE GIVEN ROWS OF THIS SEAT. 9 by the template 'for every input the law returns true; each argument reads behind the call as it read before'; 0 by the template 'total and deterministic' (their statements: YtkchfjblcfbajaaDoorTotals.lean).
  GIVEN WITH THE SEED: the statements are not yours to turn. If you find one false, say at which input.
  Laid BY PROGRAM, IN A SANDBOX (cutbox-rows.mjs): the forced cells as the released guide's own fill.sh prints them over the translation e47bdcbc8a1cc6f2… (all of the seat's roots in one cut). By AI agents, Wed Nov 11 2026. No macro, syntax, notation, axiom, sorry.
-/
import Derived.Test.YtkchfjblcfbajaaDoorChecked
import GoSem.Claim
import GoSem.ClaimJoined
import GoSem.ClaimMapViews
import Derived.JoinedTies
import Derived.KernelRfl
namespace Go.Proofs.YtkchfjblcfbajaaDoor
/- THE CELL 'sum', in the pinned program and in every row, IS THE sha256 OF THE DUMP (.gsa) THAT YtkchfjblcfbajaaDoorProg.lean LOADS. Nothing in Lean hashes anything: it is a label: what it is worth is what the hold of that sum in a sandbox is worth. -/
noncomputable def Tryd.pinned : Pinned := { name := "ytkchfjblcfbajaadoor", sum := "e47bdcbc8a1cc6f240c4d19e0a79569c40d8f60f06911cde73ffc60d8690752f", checked := Tryd.checked }
namespace Rows
def none {H : Type} : Left H := { results := [], args := [] }

/- WHAT THE LISTED PACKAGE-LEVEL VARIABLES READ AS WHEN THE CALL BEGINS. Each datum BY PROGRAM (the guide's laid-datum.mjs) off the statement by which the dump's own 'gosem.cut.vars' lays the variable. In a bare row this is a premise. The card (YtkchfjblcfbajaaDoorCards.lean) ties it to the program's text. -/
def laid_math_bits_deBruijn32tab {H : Type} : DataW H := .agg [.lit (.int .u8 0), .lit (.int .u8 1), .lit (.int .u8 28), .lit (.int .u8 2), .lit (.int .u8 29), .lit (.int .u8 14), .lit (.int .u8 24), .lit (.int .u8 3), .lit (.int .u8 30), .lit (.int .u8 22), .lit (.int .u8 20), .lit (.int .u8 15), .lit (.int .u8 25), .lit (.int .u8 17), .lit (.int .u8 4), .lit (.int .u8 8), .lit (.int .u8 31), .lit (.int .u8 27), .lit (.int .u8 13), .lit (.int .u8 23), .lit (.int .u8 21), .lit (.int .u8 19), .lit (.int .u8 16), .lit (.int .u8 7), .lit (.int .u8 26), .lit (.int .u8 12), .lit (.int .u8 18), .lit (.int .u8 6), .lit (.int .u8 11), .lit (.int .u8 5), .lit (.int .u8 10), .lit (.int .u8 9)]
def laid_math_bits_deBruijn64tab {H : Type} : DataW H := .agg [.lit (.int .u8 0), .lit (.int .u8 1), .lit (.int .u8 56), .lit (.int .u8 2), .lit (.int .u8 57), .lit (.int .u8 49), .lit (.int .u8 28), .lit (.int .u8 3), .lit (.int .u8 61), .lit (.int .u8 58), .lit (.int .u8 42), .lit (.int .u8 50), .lit (.int .u8 38), .lit (.int .u8 29), .lit (.int .u8 17), .lit (.int .u8 4), .lit (.int .u8 62), .lit (.int .u8 47), .lit (.int .u8 59), .lit (.int .u8 36), .lit (.int .u8 45), .lit (.int .u8 43), .lit (.int .u8 51), .lit (.int .u8 22), .lit (.int .u8 53), .lit (.int .u8 39), .lit (.int .u8 33), .lit (.int .u8 30), .lit (.int .u8 24), .lit (.int .u8 18), .lit (.int .u8 12), .lit (.int .u8 5), .lit (.int .u8 63), .lit (.int .u8 55), .lit (.int .u8 48), .lit (.int .u8 27), .lit (.int .u8 60), .lit (.int .u8 41), .lit (.int .u8 37), .lit (.int .u8 16), .lit (.int .u8 46), .lit (.int .u8 35), .lit (.int .u8 44), .lit (.int .u8 21), .lit (.int .u8 52), .lit (.int .u8 32), .lit (.int .u8 23), .lit (.int .u8 11), .lit (.int .u8 54), .lit (.int .u8 26), .lit (.int .u8 40), .lit (.int .u8 15), .lit (.int .u8 34), .lit (.int .u8 20), .lit (.int .u8 31), .lit (.int .u8 10), .lit (.int .u8 25), .lit (.int .u8 14), .lit (.int .u8 19), .lit (.int .u8 9), .lit (.int .u8 13), .lit (.int .u8 8), .lit (.int .u8 7), .lit (.int .u8 6)]

/-- 'baterialaw07.BandChecks': WHATEVER THE INPUT: true; the input reads as it did. -/
def bandChecksSpec : ChangeSpec := { name := "bandChecks", fn := fun _ => fun
  | [d1, d2, d3, d4, d5] => { results := [.lit (.bool true)], args := [d1, d2, d3, d4, d5] }
  | _ => none }
def bandChecksRow : OpenClaim := { program := "ytkchfjblcfbajaadoor", sum := "e47bdcbc8a1cc6f240c4d19e0a79569c40d8f60f06911cde73ffc60d8690752f", func := "bateria/baterialaw07.BandChecks", spec := "bandChecks", unfollowed := true, recurses := true, named := ["math/bits.deBruijn32tab", "math/bits.deBruijn64tab"], apart := false, laid := [("math/bits.deBruijn32tab", laid_math_bits_deBruijn32tab), ("math/bits.deBruijn64tab", laid_math_bits_deBruijn64tab)] }
def BandChecksSaid : Prop := bandChecksRow.holds Tryd.pinned (OpenSpec.ofChange bandChecksSpec)

/-- ITS FALSE NEIGHBOUR: 'it returns false'. Refute it at one input. -/
def bandChecksWrong : ChangeSpec := { name := "bandChecks", fn := fun _ => fun
  | [d1, d2, d3, d4, d5] => { results := [.lit (.bool false)], args := [d1, d2, d3, d4, d5] }
  | _ => none }
def BandChecksWrongFalsely : Prop := bandChecksRow.holds Tryd.pinned (OpenSpec.ofChange bandChecksWrong)

/-- 'baterialaw07.BandCrosses': WHATEVER THE INPUT: true; the input reads as it did. -/
def bandCrossesSpec : ChangeSpec := { name := "bandCrosses", fn := fun _ => fun
  | [d1, d2, d3, d4, d5, d6] => { results := [.lit (.bool true)], args := [d1, d2, d3, d4, d5, d6] }
  | _ => none }
def bandCrossesRow : OpenClaim := { program := "ytkchfjblcfbajaadoor", sum := "e47bdcbc8a1cc6f240c4d19e0a79569c40d8f60f06911cde73ffc60d8690752f", func := "bateria/baterialaw07.BandCrosses", spec := "bandCrosses", unfollowed := true, recurses := true, named := ["math/bits.deBruijn32tab", "math/bits.deBruijn64tab"], apart := false, laid := [("math/bits.deBruijn32tab", laid_math_bits_deBruijn32tab), ("math/bits.deBruijn64tab", laid_math_bits_deBruijn64tab)] }
def BandCrossesSaid : Prop := bandCrossesRow.holds Tryd.pinned (OpenSpec.ofChange bandCrossesSpec)

/-- ITS FALSE NEIGHBOUR: 'it returns false'. Refute it at one input. -/
def bandCrossesWrong : ChangeSpec := { name := "bandCrosses", fn := fun _ => fun
  | [d1, d2, d3, d4, d5, d6] => { results := [.lit (.bool false)], args := [d1, d2, d3, d4, d5, d6] }
  | _ => none }
def BandCrossesWrongFalsely : Prop := bandCrossesRow.holds Tryd.pinned (OpenSpec.ofChange bandCrossesWrong)

/-- 'baterialaw07.BandTrue': WHATEVER THE INPUT: true; the input reads as it did. -/
def bandTrueSpec : ChangeSpec := { name := "bandTrue", fn := fun _ => fun
  | [d] => { results := [.lit (.bool true)], args := [d] }
  | _ => none }
def bandTrueRow : OpenClaim := { program := "ytkchfjblcfbajaadoor", sum := "e47bdcbc8a1cc6f240c4d19e0a79569c40d8f60f06911cde73ffc60d8690752f", func := "bateria/baterialaw07.BandTrue", spec := "bandTrue", unfollowed := true, recurses := true, named := ["math/bits.deBruijn32tab", "math/bits.deBruijn64tab"], apart := false, laid := [("math/bits.deBruijn32tab", laid_math_bits_deBruijn32tab), ("math/bits.deBruijn64tab", laid_math_bits_deBruijn64tab)] }
def BandTrueSaid : Prop := bandTrueRow.holds Tryd.pinned (OpenSpec.ofChange bandTrueSpec)

/-- ITS FALSE NEIGHBOUR: 'it returns false'. Refute it at one input. -/
def bandTrueWrong : ChangeSpec := { name := "bandTrue", fn := fun _ => fun
  | [d] => { results := [.lit (.bool false)], args := [d] }
  | _ => none }
def BandTrueWrongFalsely : Prop := bandTrueRow.holds Tryd.pinned (OpenSpec.ofChange bandTrueWrong)

/-- 'baterialaw07.BandMeets': WHATEVER THE INPUT: true; the input reads as it did. -/
def bandMeetsSpec : ChangeSpec := { name := "bandMeets", fn := fun _ => fun
  | [d] => { results := [.lit (.bool true)], args := [d] }
  | _ => none }
def bandMeetsRow : OpenClaim := { program := "ytkchfjblcfbajaadoor", sum := "e47bdcbc8a1cc6f240c4d19e0a79569c40d8f60f06911cde73ffc60d8690752f", func := "bateria/baterialaw07.BandMeets", spec := "bandMeets", unfollowed := true, recurses := true, named := ["math/bits.deBruijn32tab", "math/bits.deBruijn64tab"], apart := false, laid := [("math/bits.deBruijn32tab", laid_math_bits_deBruijn32tab), ("math/bits.deBruijn64tab", laid_math_bits_deBruijn64tab)] }
def BandMeetsSaid : Prop := bandMeetsRow.holds Tryd.pinned (OpenSpec.ofChange bandMeetsSpec)

/-- ITS FALSE NEIGHBOUR: 'it returns false'. Refute it at one input. -/
def bandMeetsWrong : ChangeSpec := { name := "bandMeets", fn := fun _ => fun
  | [d] => { results := [.lit (.bool false)], args := [d] }
  | _ => none }
def BandMeetsWrongFalsely : Prop := bandMeetsRow.holds Tryd.pinned (OpenSpec.ofChange bandMeetsWrong)

/-- 'baterialaw07.BandNever': WHATEVER THE INPUT: true; the input reads as it did. -/
def bandNeverSpec : ChangeSpec := { name := "bandNever", fn := fun _ => fun
  | [d] => { results := [.lit (.bool true)], args := [d] }
  | _ => none }
def bandNeverRow : OpenClaim := { program := "ytkchfjblcfbajaadoor", sum := "e47bdcbc8a1cc6f240c4d19e0a79569c40d8f60f06911cde73ffc60d8690752f", func := "bateria/baterialaw07.BandNever", spec := "bandNever", unfollowed := true, recurses := true, named := ["math/bits.deBruijn32tab", "math/bits.deBruijn64tab"], apart := false, laid := [("math/bits.deBruijn32tab", laid_math_bits_deBruijn32tab), ("math/bits.deBruijn64tab", laid_math_bits_deBruijn64tab)] }
def BandNeverSaid : Prop := bandNeverRow.holds Tryd.pinned (OpenSpec.ofChange bandNeverSpec)

/-- ITS FALSE NEIGHBOUR: 'it returns false'. Refute it at one input. -/
def bandNeverWrong : ChangeSpec := { name := "bandNever", fn := fun _ => fun
  | [d] => { results := [.lit (.bool false)], args := [d] }
  | _ => none }
def BandNeverWrongFalsely : Prop := bandNeverRow.holds Tryd.pinned (OpenSpec.ofChange bandNeverWrong)

/-- 'baterialaw07.BandAsleep': WHATEVER THE INPUT: true; the input reads as it did. -/
def bandAsleepSpec : ChangeSpec := { name := "bandAsleep", fn := fun _ => fun
  | [d] => { results := [.lit (.bool true)], args := [d] }
  | _ => none }
def bandAsleepRow : OpenClaim := { program := "ytkchfjblcfbajaadoor", sum := "e47bdcbc8a1cc6f240c4d19e0a79569c40d8f60f06911cde73ffc60d8690752f", func := "bateria/baterialaw07.BandAsleep", spec := "bandAsleep", unfollowed := true, recurses := true, named := ["math/bits.deBruijn32tab", "math/bits.deBruijn64tab"], apart := false, laid := [("math/bits.deBruijn32tab", laid_math_bits_deBruijn32tab), ("math/bits.deBruijn64tab", laid_math_bits_deBruijn64tab)] }
def BandAsleepSaid : Prop := bandAsleepRow.holds Tryd.pinned (OpenSpec.ofChange bandAsleepSpec)

/-- ITS FALSE NEIGHBOUR: 'it returns false'. Refute it at one input. -/
def bandAsleepWrong : ChangeSpec := { name := "bandAsleep", fn := fun _ => fun
  | [d] => { results := [.lit (.bool false)], args := [d] }
  | _ => none }
def BandAsleepWrongFalsely : Prop := bandAsleepRow.holds Tryd.pinned (OpenSpec.ofChange bandAsleepWrong)

/-- 'baterialaw07.BandTurn': WHATEVER THE INPUT: true; the input reads as it did. -/
def bandTurnSpec : ChangeSpec := { name := "bandTurn", fn := fun _ => fun
  | [d] => { results := [.lit (.bool true)], args := [d] }
  | _ => none }
def bandTurnRow : OpenClaim := { program := "ytkchfjblcfbajaadoor", sum := "e47bdcbc8a1cc6f240c4d19e0a79569c40d8f60f06911cde73ffc60d8690752f", func := "bateria/baterialaw07.BandTurn", spec := "bandTurn", unfollowed := true, recurses := true, named := ["math/bits.deBruijn32tab", "math/bits.deBruijn64tab"], apart := false, laid := [("math/bits.deBruijn32tab", laid_math_bits_deBruijn32tab), ("math/bits.deBruijn64tab", laid_math_bits_deBruijn64tab)] }
def BandTurnSaid : Prop := bandTurnRow.holds Tryd.pinned (OpenSpec.ofChange bandTurnSpec)

/-- ITS FALSE NEIGHBOUR: 'it returns false'. Refute it at one input. -/
def bandTurnWrong : ChangeSpec := { name := "bandTurn", fn := fun _ => fun
  | [d] => { results := [.lit (.bool false)], args := [d] }
  | _ => none }
def BandTurnWrongFalsely : Prop := bandTurnRow.holds Tryd.pinned (OpenSpec.ofChange bandTurnWrong)

/-- 'baterialaw07.BandBest': WHATEVER THE INPUT: true; the input reads as it did. -/
def bandBestSpec : ChangeSpec := { name := "bandBest", fn := fun _ => fun
  | [d] => { results := [.lit (.bool true)], args := [d] }
  | _ => none }
def bandBestRow : OpenClaim := { program := "ytkchfjblcfbajaadoor", sum := "e47bdcbc8a1cc6f240c4d19e0a79569c40d8f60f06911cde73ffc60d8690752f", func := "bateria/baterialaw07.BandBest", spec := "bandBest", unfollowed := true, recurses := true, named := ["math/bits.deBruijn32tab", "math/bits.deBruijn64tab"], apart := false, laid := [("math/bits.deBruijn32tab", laid_math_bits_deBruijn32tab), ("math/bits.deBruijn64tab", laid_math_bits_deBruijn64tab)] }
def BandBestSaid : Prop := bandBestRow.holds Tryd.pinned (OpenSpec.ofChange bandBestSpec)

/-- ITS FALSE NEIGHBOUR: 'it returns false'. Refute it at one input. -/
def bandBestWrong : ChangeSpec := { name := "bandBest", fn := fun _ => fun
  | [d] => { results := [.lit (.bool false)], args := [d] }
  | _ => none }
def BandBestWrongFalsely : Prop := bandBestRow.holds Tryd.pinned (OpenSpec.ofChange bandBestWrong)

/-- 'baterialaw07.BandNarrow': WHATEVER THE INPUT: true; the input reads as it did. -/
def bandNarrowSpec : ChangeSpec := { name := "bandNarrow", fn := fun _ => fun
  | [d] => { results := [.lit (.bool true)], args := [d] }
  | _ => none }
def bandNarrowRow : OpenClaim := { program := "ytkchfjblcfbajaadoor", sum := "e47bdcbc8a1cc6f240c4d19e0a79569c40d8f60f06911cde73ffc60d8690752f", func := "bateria/baterialaw07.BandNarrow", spec := "bandNarrow", unfollowed := true, recurses := true, named := ["math/bits.deBruijn32tab", "math/bits.deBruijn64tab"], apart := false, laid := [("math/bits.deBruijn32tab", laid_math_bits_deBruijn32tab), ("math/bits.deBruijn64tab", laid_math_bits_deBruijn64tab)] }
def BandNarrowSaid : Prop := bandNarrowRow.holds Tryd.pinned (OpenSpec.ofChange bandNarrowSpec)

/-- ITS FALSE NEIGHBOUR: 'it returns false'. Refute it at one input. -/
def bandNarrowWrong : ChangeSpec := { name := "bandNarrow", fn := fun _ => fun
  | [d] => { results := [.lit (.bool false)], args := [d] }
  | _ => none }
def BandNarrowWrongFalsely : Prop := bandNarrowRow.holds Tryd.pinned (OpenSpec.ofChange bandNarrowWrong)

/- THE SECOND FORM. 'bulk': how many values and letters a reading holds, each counted each time it is reached (what is shared counts as often as it is met; a slice's spare places count too). A statement '..UptoSaid' is the law's where the arguments, and the package variables that the reading takes, are together of bulk at most 1048576: NARROWER than '..Said'. Prove '..Said' where nothing that the law and all that it calls make is longer than what came in: it says more and counts as full. Else prove '..UptoSaid'. A law counts once. -/
mutual
def uptoBulk {H : Type} : DataW H → Nat
  | .lit (.string bytes) => bytes.length + 1
  | .lit _ => 1
  | .nil => 1
  | .ptr d => uptoBulk d + 1
  | .slice elems spare => uptoBulkAll elems + uptoBulkAll spare + 1
  | .agg parts => uptoBulkAll parts + 1
  | .iface _ d => uptoBulk d + 1
  | .map entries => uptoBulkEntries entries + 1
  | .held _ => 1
def uptoBulkAll {H : Type} : List (DataW H) → Nat
  | [] => 0
  | d :: r => uptoBulk d + uptoBulkAll r
def uptoBulkEntries {H : Type} : List (Lit × DataW H) → Nat
  | [] => 0
  | x :: r => uptoBulkEntry x + uptoBulkEntries r
def uptoBulkEntry {H : Type} : Lit × DataW H → Nat
  | (.string bytes, d) => bytes.length + uptoBulk d + 1
  | (_, d) => uptoBulk d + 1
 end
def uptoSmall : (H : Type) → List (DataW H) → Bool := fun _ ds => decide (uptoBulkAll ds ≤ 1048576)
def OpenSpec.upto (s : _root_.Go.ChangeSpec) : _root_.Go.OpenSpec := { _root_.Go.OpenSpec.ofChange s with cond := some uptoSmall }

/-- 'baterialaw07.BandChecks', WHERE WHAT IT READS IS OF BULK AT MOST 1048576: true; the input reads as it did. -/
def bandChecksUptoRow : OpenClaim := { program := "ytkchfjblcfbajaadoor", sum := "e47bdcbc8a1cc6f240c4d19e0a79569c40d8f60f06911cde73ffc60d8690752f", func := "bateria/baterialaw07.BandChecks", spec := "bandChecks", unfollowed := true, recurses := true, named := ["math/bits.deBruijn32tab", "math/bits.deBruijn64tab"], apart := false, laid := [("math/bits.deBruijn32tab", laid_math_bits_deBruijn32tab), ("math/bits.deBruijn64tab", laid_math_bits_deBruijn64tab)], narrowed := true }
def BandChecksUptoSaid : Prop := bandChecksUptoRow.holds Tryd.pinned (OpenSpec.upto bandChecksSpec)

/-- 'baterialaw07.BandCrosses', WHERE WHAT IT READS IS OF BULK AT MOST 1048576: true; the input reads as it did. -/
def bandCrossesUptoRow : OpenClaim := { program := "ytkchfjblcfbajaadoor", sum := "e47bdcbc8a1cc6f240c4d19e0a79569c40d8f60f06911cde73ffc60d8690752f", func := "bateria/baterialaw07.BandCrosses", spec := "bandCrosses", unfollowed := true, recurses := true, named := ["math/bits.deBruijn32tab", "math/bits.deBruijn64tab"], apart := false, laid := [("math/bits.deBruijn32tab", laid_math_bits_deBruijn32tab), ("math/bits.deBruijn64tab", laid_math_bits_deBruijn64tab)], narrowed := true }
def BandCrossesUptoSaid : Prop := bandCrossesUptoRow.holds Tryd.pinned (OpenSpec.upto bandCrossesSpec)

/-- 'baterialaw07.BandTrue', WHERE WHAT IT READS IS OF BULK AT MOST 1048576: true; the input reads as it did. -/
def bandTrueUptoRow : OpenClaim := { program := "ytkchfjblcfbajaadoor", sum := "e47bdcbc8a1cc6f240c4d19e0a79569c40d8f60f06911cde73ffc60d8690752f", func := "bateria/baterialaw07.BandTrue", spec := "bandTrue", unfollowed := true, recurses := true, named := ["math/bits.deBruijn32tab", "math/bits.deBruijn64tab"], apart := false, laid := [("math/bits.deBruijn32tab", laid_math_bits_deBruijn32tab), ("math/bits.deBruijn64tab", laid_math_bits_deBruijn64tab)], narrowed := true }
def BandTrueUptoSaid : Prop := bandTrueUptoRow.holds Tryd.pinned (OpenSpec.upto bandTrueSpec)

/-- 'baterialaw07.BandMeets', WHERE WHAT IT READS IS OF BULK AT MOST 1048576: true; the input reads as it did. -/
def bandMeetsUptoRow : OpenClaim := { program := "ytkchfjblcfbajaadoor", sum := "e47bdcbc8a1cc6f240c4d19e0a79569c40d8f60f06911cde73ffc60d8690752f", func := "bateria/baterialaw07.BandMeets", spec := "bandMeets", unfollowed := true, recurses := true, named := ["math/bits.deBruijn32tab", "math/bits.deBruijn64tab"], apart := false, laid := [("math/bits.deBruijn32tab", laid_math_bits_deBruijn32tab), ("math/bits.deBruijn64tab", laid_math_bits_deBruijn64tab)], narrowed := true }
def BandMeetsUptoSaid : Prop := bandMeetsUptoRow.holds Tryd.pinned (OpenSpec.upto bandMeetsSpec)

/-- 'baterialaw07.BandNever', WHERE WHAT IT READS IS OF BULK AT MOST 1048576: true; the input reads as it did. -/
def bandNeverUptoRow : OpenClaim := { program := "ytkchfjblcfbajaadoor", sum := "e47bdcbc8a1cc6f240c4d19e0a79569c40d8f60f06911cde73ffc60d8690752f", func := "bateria/baterialaw07.BandNever", spec := "bandNever", unfollowed := true, recurses := true, named := ["math/bits.deBruijn32tab", "math/bits.deBruijn64tab"], apart := false, laid := [("math/bits.deBruijn32tab", laid_math_bits_deBruijn32tab), ("math/bits.deBruijn64tab", laid_math_bits_deBruijn64tab)], narrowed := true }
def BandNeverUptoSaid : Prop := bandNeverUptoRow.holds Tryd.pinned (OpenSpec.upto bandNeverSpec)

/-- 'baterialaw07.BandAsleep', WHERE WHAT IT READS IS OF BULK AT MOST 1048576: true; the input reads as it did. -/
def bandAsleepUptoRow : OpenClaim := { program := "ytkchfjblcfbajaadoor", sum := "e47bdcbc8a1cc6f240c4d19e0a79569c40d8f60f06911cde73ffc60d8690752f", func := "bateria/baterialaw07.BandAsleep", spec := "bandAsleep", unfollowed := true, recurses := true, named := ["math/bits.deBruijn32tab", "math/bits.deBruijn64tab"], apart := false, laid := [("math/bits.deBruijn32tab", laid_math_bits_deBruijn32tab), ("math/bits.deBruijn64tab", laid_math_bits_deBruijn64tab)], narrowed := true }
def BandAsleepUptoSaid : Prop := bandAsleepUptoRow.holds Tryd.pinned (OpenSpec.upto bandAsleepSpec)

/-- 'baterialaw07.BandTurn', WHERE WHAT IT READS IS OF BULK AT MOST 1048576: true; the input reads as it did. -/
def bandTurnUptoRow : OpenClaim := { program := "ytkchfjblcfbajaadoor", sum := "e47bdcbc8a1cc6f240c4d19e0a79569c40d8f60f06911cde73ffc60d8690752f", func := "bateria/baterialaw07.BandTurn", spec := "bandTurn", unfollowed := true, recurses := true, named := ["math/bits.deBruijn32tab", "math/bits.deBruijn64tab"], apart := false, laid := [("math/bits.deBruijn32tab", laid_math_bits_deBruijn32tab), ("math/bits.deBruijn64tab", laid_math_bits_deBruijn64tab)], narrowed := true }
def BandTurnUptoSaid : Prop := bandTurnUptoRow.holds Tryd.pinned (OpenSpec.upto bandTurnSpec)

/-- 'baterialaw07.BandBest', WHERE WHAT IT READS IS OF BULK AT MOST 1048576: true; the input reads as it did. -/
def bandBestUptoRow : OpenClaim := { program := "ytkchfjblcfbajaadoor", sum := "e47bdcbc8a1cc6f240c4d19e0a79569c40d8f60f06911cde73ffc60d8690752f", func := "bateria/baterialaw07.BandBest", spec := "bandBest", unfollowed := true, recurses := true, named := ["math/bits.deBruijn32tab", "math/bits.deBruijn64tab"], apart := false, laid := [("math/bits.deBruijn32tab", laid_math_bits_deBruijn32tab), ("math/bits.deBruijn64tab", laid_math_bits_deBruijn64tab)], narrowed := true }
def BandBestUptoSaid : Prop := bandBestUptoRow.holds Tryd.pinned (OpenSpec.upto bandBestSpec)

/-- 'baterialaw07.BandNarrow', WHERE WHAT IT READS IS OF BULK AT MOST 1048576: true; the input reads as it did. -/
def bandNarrowUptoRow : OpenClaim := { program := "ytkchfjblcfbajaadoor", sum := "e47bdcbc8a1cc6f240c4d19e0a79569c40d8f60f06911cde73ffc60d8690752f", func := "bateria/baterialaw07.BandNarrow", spec := "bandNarrow", unfollowed := true, recurses := true, named := ["math/bits.deBruijn32tab", "math/bits.deBruijn64tab"], apart := false, laid := [("math/bits.deBruijn32tab", laid_math_bits_deBruijn32tab), ("math/bits.deBruijn64tab", laid_math_bits_deBruijn64tab)], narrowed := true }
def BandNarrowUptoSaid : Prop := bandNarrowUptoRow.holds Tryd.pinned (OpenSpec.upto bandNarrowSpec)

end Rows
end Go.Proofs.YtkchfjblcfbajaaDoor
