/-
  No cell of these rows narrows 'for every input' (looked for: loops, veiled, ifaces, maps, wideKeys, modest, calm, conditions, laid).
  DERIVED. THE GIVEN ROWS OF THIS SEAT. 10 by the template 'for every input the law returns true; each argument reads behind the call as it read before'; 0 by the template 'total and deterministic' (their statements: YtnihkgdkdinliaaTotals.lean).
  GIVEN WITH THE SEED: the statements are not yours to turn. If you find one false, say at which input.
  Laid BY PROGRAM, IN A SANDBOX (cutbox-rows.mjs): the forced cells as the released guide's own fill.sh prints them over the translation a547cbb4e75f0bd3… (all of the seat's roots in one cut). By AI agents, Wed Nov 11 2026. No macro, syntax, notation, axiom, sorry.
-/
import Derived.Test.YtnihkgdkdinliaaChecked
import GoSem.Claim
import GoSem.ClaimJoined
import GoSem.ClaimMapViews
import Derived.JoinedTies
import Derived.KernelRfl
namespace Go.Proofs.Ytnihkgdkdinliaa
/- THE CELL 'sum', in the pinned program and in every row, IS THE sha256 OF THE DUMP (.gsa) THAT YtnihkgdkdinliaaProg.lean LOADS. Nothing in Lean hashes anything: it is a label: what it is worth is what the hold of that sum in a sandbox is worth. -/
noncomputable def Try.pinned : Pinned := { name := "ytnihkgdkdinliaa", sum := "a547cbb4e75f0bd30d0173a64db5f181c5cb352d7cda6dbd8ed2dce31f4463cb", checked := Try.checked }
namespace Rows
def none {H : Type} : Left H := { results := [], args := [] }

/-- 'baterialaw01.ParadeChecks': WHATEVER THE INPUT: true; the input reads as it did. -/
def paradeChecksSpec : ChangeSpec := { name := "paradeChecks", fn := fun _ => fun
  | [d1, d2, d3, d4, d5, d6] => { results := [.lit (.bool true)], args := [d1, d2, d3, d4, d5, d6] }
  | _ => none }
def paradeChecksRow : OpenClaim := { program := "ytnihkgdkdinliaa", sum := "a547cbb4e75f0bd30d0173a64db5f181c5cb352d7cda6dbd8ed2dce31f4463cb", func := "bateria/baterialaw01.ParadeChecks", spec := "paradeChecks", unfollowed := true, recurses := true, apart := false }
def ParadeChecksSaid : Prop := paradeChecksRow.holds Try.pinned (OpenSpec.ofChange paradeChecksSpec)

/-- ITS FALSE NEIGHBOUR: 'it returns false'. Refute it at one input. -/
def paradeChecksWrong : ChangeSpec := { name := "paradeChecks", fn := fun _ => fun
  | [d1, d2, d3, d4, d5, d6] => { results := [.lit (.bool false)], args := [d1, d2, d3, d4, d5, d6] }
  | _ => none }
def ParadeChecksWrongFalsely : Prop := paradeChecksRow.holds Try.pinned (OpenSpec.ofChange paradeChecksWrong)

/-- 'baterialaw01.ParadePlaces': WHATEVER THE INPUT: true; the input reads as it did. -/
def paradePlacesSpec : ChangeSpec := { name := "paradePlaces", fn := fun _ => fun
  | [d1, d2, d3, d4, d5, d6] => { results := [.lit (.bool true)], args := [d1, d2, d3, d4, d5, d6] }
  | _ => none }
def paradePlacesRow : OpenClaim := { program := "ytnihkgdkdinliaa", sum := "a547cbb4e75f0bd30d0173a64db5f181c5cb352d7cda6dbd8ed2dce31f4463cb", func := "bateria/baterialaw01.ParadePlaces", spec := "paradePlaces", unfollowed := true, recurses := true, apart := false }
def ParadePlacesSaid : Prop := paradePlacesRow.holds Try.pinned (OpenSpec.ofChange paradePlacesSpec)

/-- ITS FALSE NEIGHBOUR: 'it returns false'. Refute it at one input. -/
def paradePlacesWrong : ChangeSpec := { name := "paradePlaces", fn := fun _ => fun
  | [d1, d2, d3, d4, d5, d6] => { results := [.lit (.bool false)], args := [d1, d2, d3, d4, d5, d6] }
  | _ => none }
def ParadePlacesWrongFalsely : Prop := paradePlacesRow.holds Try.pinned (OpenSpec.ofChange paradePlacesWrong)

/-- 'baterialaw01.ParadeLasts': WHATEVER THE INPUT: true; the input reads as it did. -/
def paradeLastsSpec : ChangeSpec := { name := "paradeLasts", fn := fun _ => fun
  | [d1, d2, d3, d4] => { results := [.lit (.bool true)], args := [d1, d2, d3, d4] }
  | _ => none }
def paradeLastsRow : OpenClaim := { program := "ytnihkgdkdinliaa", sum := "a547cbb4e75f0bd30d0173a64db5f181c5cb352d7cda6dbd8ed2dce31f4463cb", func := "bateria/baterialaw01.ParadeLasts", spec := "paradeLasts", unfollowed := true, recurses := true, apart := false }
def ParadeLastsSaid : Prop := paradeLastsRow.holds Try.pinned (OpenSpec.ofChange paradeLastsSpec)

/-- ITS FALSE NEIGHBOUR: 'it returns false'. Refute it at one input. -/
def paradeLastsWrong : ChangeSpec := { name := "paradeLasts", fn := fun _ => fun
  | [d1, d2, d3, d4] => { results := [.lit (.bool false)], args := [d1, d2, d3, d4] }
  | _ => none }
def ParadeLastsWrongFalsely : Prop := paradeLastsRow.holds Try.pinned (OpenSpec.ofChange paradeLastsWrong)

/-- 'baterialaw01.ParadeGaps': WHATEVER THE INPUT: true; the input reads as it did. -/
def paradeGapsSpec : ChangeSpec := { name := "paradeGaps", fn := fun _ => fun
  | [d1, d2, d3, d4, d5, d6] => { results := [.lit (.bool true)], args := [d1, d2, d3, d4, d5, d6] }
  | _ => none }
def paradeGapsRow : OpenClaim := { program := "ytnihkgdkdinliaa", sum := "a547cbb4e75f0bd30d0173a64db5f181c5cb352d7cda6dbd8ed2dce31f4463cb", func := "bateria/baterialaw01.ParadeGaps", spec := "paradeGaps", unfollowed := true, recurses := true, apart := false }
def ParadeGapsSaid : Prop := paradeGapsRow.holds Try.pinned (OpenSpec.ofChange paradeGapsSpec)

/-- ITS FALSE NEIGHBOUR: 'it returns false'. Refute it at one input. -/
def paradeGapsWrong : ChangeSpec := { name := "paradeGaps", fn := fun _ => fun
  | [d1, d2, d3, d4, d5, d6] => { results := [.lit (.bool false)], args := [d1, d2, d3, d4, d5, d6] }
  | _ => none }
def ParadeGapsWrongFalsely : Prop := paradeGapsRow.holds Try.pinned (OpenSpec.ofChange paradeGapsWrong)

/-- 'baterialaw01.ParadePlans': WHATEVER THE INPUT: true; the input reads as it did. -/
def paradePlansSpec : ChangeSpec := { name := "paradePlans", fn := fun _ => fun
  | [d1, d2, d3] => { results := [.lit (.bool true)], args := [d1, d2, d3] }
  | _ => none }
def paradePlansRow : OpenClaim := { program := "ytnihkgdkdinliaa", sum := "a547cbb4e75f0bd30d0173a64db5f181c5cb352d7cda6dbd8ed2dce31f4463cb", func := "bateria/baterialaw01.ParadePlans", spec := "paradePlans", unfollowed := true, recurses := true, apart := false }
def ParadePlansSaid : Prop := paradePlansRow.holds Try.pinned (OpenSpec.ofChange paradePlansSpec)

/-- ITS FALSE NEIGHBOUR: 'it returns false'. Refute it at one input. -/
def paradePlansWrong : ChangeSpec := { name := "paradePlans", fn := fun _ => fun
  | [d1, d2, d3] => { results := [.lit (.bool false)], args := [d1, d2, d3] }
  | _ => none }
def ParadePlansWrongFalsely : Prop := paradePlansRow.holds Try.pinned (OpenSpec.ofChange paradePlansWrong)

/-- 'baterialaw01.ParadeTrue': WHATEVER THE INPUT: true; the input reads as it did. -/
def paradeTrueSpec : ChangeSpec := { name := "paradeTrue", fn := fun _ => fun
  | [d] => { results := [.lit (.bool true)], args := [d] }
  | _ => none }
def paradeTrueRow : OpenClaim := { program := "ytnihkgdkdinliaa", sum := "a547cbb4e75f0bd30d0173a64db5f181c5cb352d7cda6dbd8ed2dce31f4463cb", func := "bateria/baterialaw01.ParadeTrue", spec := "paradeTrue", unfollowed := true, recurses := true, apart := false }
def ParadeTrueSaid : Prop := paradeTrueRow.holds Try.pinned (OpenSpec.ofChange paradeTrueSpec)

/-- ITS FALSE NEIGHBOUR: 'it returns false'. Refute it at one input. -/
def paradeTrueWrong : ChangeSpec := { name := "paradeTrue", fn := fun _ => fun
  | [d] => { results := [.lit (.bool false)], args := [d] }
  | _ => none }
def ParadeTrueWrongFalsely : Prop := paradeTrueRow.holds Try.pinned (OpenSpec.ofChange paradeTrueWrong)

/-- 'baterialaw01.ParadeTime': WHATEVER THE INPUT: true; the input reads as it did. -/
def paradeTimeSpec : ChangeSpec := { name := "paradeTime", fn := fun _ => fun
  | [d] => { results := [.lit (.bool true)], args := [d] }
  | _ => none }
def paradeTimeRow : OpenClaim := { program := "ytnihkgdkdinliaa", sum := "a547cbb4e75f0bd30d0173a64db5f181c5cb352d7cda6dbd8ed2dce31f4463cb", func := "bateria/baterialaw01.ParadeTime", spec := "paradeTime", unfollowed := true, recurses := true, apart := false }
def ParadeTimeSaid : Prop := paradeTimeRow.holds Try.pinned (OpenSpec.ofChange paradeTimeSpec)

/-- ITS FALSE NEIGHBOUR: 'it returns false'. Refute it at one input. -/
def paradeTimeWrong : ChangeSpec := { name := "paradeTime", fn := fun _ => fun
  | [d] => { results := [.lit (.bool false)], args := [d] }
  | _ => none }
def ParadeTimeWrongFalsely : Prop := paradeTimeRow.holds Try.pinned (OpenSpec.ofChange paradeTimeWrong)

/-- 'baterialaw01.ParadeOpen': WHATEVER THE INPUT: true; the input reads as it did. -/
def paradeOpenSpec : ChangeSpec := { name := "paradeOpen", fn := fun _ => fun
  | [d] => { results := [.lit (.bool true)], args := [d] }
  | _ => none }
def paradeOpenRow : OpenClaim := { program := "ytnihkgdkdinliaa", sum := "a547cbb4e75f0bd30d0173a64db5f181c5cb352d7cda6dbd8ed2dce31f4463cb", func := "bateria/baterialaw01.ParadeOpen", spec := "paradeOpen", unfollowed := true, recurses := true, apart := false }
def ParadeOpenSaid : Prop := paradeOpenRow.holds Try.pinned (OpenSpec.ofChange paradeOpenSpec)

/-- ITS FALSE NEIGHBOUR: 'it returns false'. Refute it at one input. -/
def paradeOpenWrong : ChangeSpec := { name := "paradeOpen", fn := fun _ => fun
  | [d] => { results := [.lit (.bool false)], args := [d] }
  | _ => none }
def ParadeOpenWrongFalsely : Prop := paradeOpenRow.holds Try.pinned (OpenSpec.ofChange paradeOpenWrong)

/-- 'baterialaw01.ParadeBest': WHATEVER THE INPUT: true; the input reads as it did. -/
def paradeBestSpec : ChangeSpec := { name := "paradeBest", fn := fun _ => fun
  | [d] => { results := [.lit (.bool true)], args := [d] }
  | _ => none }
def paradeBestRow : OpenClaim := { program := "ytnihkgdkdinliaa", sum := "a547cbb4e75f0bd30d0173a64db5f181c5cb352d7cda6dbd8ed2dce31f4463cb", func := "bateria/baterialaw01.ParadeBest", spec := "paradeBest", unfollowed := true, recurses := true, apart := false }
def ParadeBestSaid : Prop := paradeBestRow.holds Try.pinned (OpenSpec.ofChange paradeBestSpec)

/-- ITS FALSE NEIGHBOUR: 'it returns false'. Refute it at one input. -/
def paradeBestWrong : ChangeSpec := { name := "paradeBest", fn := fun _ => fun
  | [d] => { results := [.lit (.bool false)], args := [d] }
  | _ => none }
def ParadeBestWrongFalsely : Prop := paradeBestRow.holds Try.pinned (OpenSpec.ofChange paradeBestWrong)

/-- 'baterialaw01.ParadeNarrow': WHATEVER THE INPUT: true; the input reads as it did. -/
def paradeNarrowSpec : ChangeSpec := { name := "paradeNarrow", fn := fun _ => fun
  | [d] => { results := [.lit (.bool true)], args := [d] }
  | _ => none }
def paradeNarrowRow : OpenClaim := { program := "ytnihkgdkdinliaa", sum := "a547cbb4e75f0bd30d0173a64db5f181c5cb352d7cda6dbd8ed2dce31f4463cb", func := "bateria/baterialaw01.ParadeNarrow", spec := "paradeNarrow", unfollowed := true, recurses := true, apart := false }
def ParadeNarrowSaid : Prop := paradeNarrowRow.holds Try.pinned (OpenSpec.ofChange paradeNarrowSpec)

/-- ITS FALSE NEIGHBOUR: 'it returns false'. Refute it at one input. -/
def paradeNarrowWrong : ChangeSpec := { name := "paradeNarrow", fn := fun _ => fun
  | [d] => { results := [.lit (.bool false)], args := [d] }
  | _ => none }
def ParadeNarrowWrongFalsely : Prop := paradeNarrowRow.holds Try.pinned (OpenSpec.ofChange paradeNarrowWrong)

/- THE SECOND FORM. 'bulk': how many values and letters a reading holds, each counted each time it is reached (what is shared counts as often as it is met; a slice's spare places count too). A statement '..UptoSaid' is the law's where the arguments, and the package variables that the reading takes, are together of bulk at most 1048576: NARROWER than '..Said'. Prove '..Said' where nothing that the law and all that it calls make is longer than what came in: it says more and counts as full. Else prove '..UptoSaid'. A law counts once. -/
mutual
def uptoBulk {H : Type} : DataW H → Nat
  | .lit (.string bytes) => bytes.length + 1
  | .lit _ => 1
  | .nil => 1
  | .ptr d => uptoBulk d + 1
  | .slice elems spare => uptoBulkAll elems + uptoBulkAll spare + 1
  | .agg parts => uptoBulkAll parts + 1
  | .iface _ d => uptoBulk d + 1
  | .map entries => uptoBulkEntries entries + 1
  | .held _ => 1
def uptoBulkAll {H : Type} : List (DataW H) → Nat
  | [] => 0
  | d :: r => uptoBulk d + uptoBulkAll r
def uptoBulkEntries {H : Type} : List (Lit × DataW H) → Nat
  | [] => 0
  | x :: r => uptoBulkEntry x + uptoBulkEntries r
def uptoBulkEntry {H : Type} : Lit × DataW H → Nat
  | (.string bytes, d) => bytes.length + uptoBulk d + 1
  | (_, d) => uptoBulk d + 1
 end
def uptoSmall : (H : Type) → List (DataW H) → Bool := fun _ ds => decide (uptoBulkAll ds ≤ 1048576)
def OpenSpec.upto (s : _root_.Go.ChangeSpec) : _root_.Go.OpenSpec := { _root_.Go.OpenSpec.ofChange s with cond := some uptoSmall }

/-- 'baterialaw01.ParadeChecks', WHERE WHAT IT READS IS OF BULK AT MOST 1048576: true; the input reads as it did. -/
def paradeChecksUptoRow : OpenClaim := { program := "ytnihkgdkdinliaa", sum := "a547cbb4e75f0bd30d0173a64db5f181c5cb352d7cda6dbd8ed2dce31f4463cb", func := "bateria/baterialaw01.ParadeChecks", spec := "paradeChecks", unfollowed := true, recurses := true, apart := false, narrowed := true }
def ParadeChecksUptoSaid : Prop := paradeChecksUptoRow.holds Try.pinned (OpenSpec.upto paradeChecksSpec)

/-- 'baterialaw01.ParadePlaces', WHERE WHAT IT READS IS OF BULK AT MOST 1048576: true; the input reads as it did. -/
def paradePlacesUptoRow : OpenClaim := { program := "ytnihkgdkdinliaa", sum := "a547cbb4e75f0bd30d0173a64db5f181c5cb352d7cda6dbd8ed2dce31f4463cb", func := "bateria/baterialaw01.ParadePlaces", spec := "paradePlaces", unfollowed := true, recurses := true, apart := false, narrowed := true }
def ParadePlacesUptoSaid : Prop := paradePlacesUptoRow.holds Try.pinned (OpenSpec.upto paradePlacesSpec)

/-- 'baterialaw01.ParadeLasts', WHERE WHAT IT READS IS OF BULK AT MOST 1048576: true; the input reads as it did. -/
def paradeLastsUptoRow : OpenClaim := { program := "ytnihkgdkdinliaa", sum := "a547cbb4e75f0bd30d0173a64db5f181c5cb352d7cda6dbd8ed2dce31f4463cb", func := "bateria/baterialaw01.ParadeLasts", spec := "paradeLasts", unfollowed := true, recurses := true, apart := false, narrowed := true }
def ParadeLastsUptoSaid : Prop := paradeLastsUptoRow.holds Try.pinned (OpenSpec.upto paradeLastsSpec)

/-- 'baterialaw01.ParadeGaps', WHERE WHAT IT READS IS OF BULK AT MOST 1048576: true; the input reads as it did. -/
def paradeGapsUptoRow : OpenClaim := { program := "ytnihkgdkdinliaa", sum := "a547cbb4e75f0bd30d0173a64db5f181c5cb352d7cda6dbd8ed2dce31f4463cb", func := "bateria/baterialaw01.ParadeGaps", spec := "paradeGaps", unfollowed := true, recurses := true, apart := false, narrowed := true }
def ParadeGapsUptoSaid : Prop := paradeGapsUptoRow.holds Try.pinned (OpenSpec.upto paradeGapsSpec)

/-- 'baterialaw01.ParadePlans', WHERE WHAT IT READS IS OF BULK AT MOST 1048576: true; the input reads as it did. -/
def paradePlansUptoRow : OpenClaim := { program := "ytnihkgdkdinliaa", sum := "a547cbb4e75f0bd30d0173a64db5f181c5cb352d7cda6dbd8ed2dce31f4463cb", func := "bateria/baterialaw01.ParadePlans", spec := "paradePlans", unfollowed := true, recurses := true, apart := false, narrowed := true }
def ParadePlansUptoSaid : Prop := paradePlansUptoRow.holds Try.pinned (OpenSpec.upto paradePlansSpec)

/-- 'baterialaw01.ParadeTrue', WHERE WHAT IT READS IS OF BULK AT MOST 1048576: true; the input reads as it did. -/
def paradeTrueUptoRow : OpenClaim := { program := "ytnihkgdkdinliaa", sum := "a547cbb4e75f0bd30d0173a64db5f181c5cb352d7cda6dbd8ed2dce31f4463cb", func := "bateria/baterialaw01.ParadeTrue", spec := "paradeTrue", unfollowed := true, recurses := true, apart := false, narrowed := true }
def ParadeTrueUptoSaid : Prop := paradeTrueUptoRow.holds Try.pinned (OpenSpec.upto paradeTrueSpec)

/-- 'baterialaw01.ParadeTime', WHERE WHAT IT READS IS OF BULK AT MOST 1048576: true; the input reads as it did. -/
def paradeTimeUptoRow : OpenClaim := { program := "ytnihkgdkdinliaa", sum := "a547cbb4e75f0bd30d0173a64db5f181c5cb352d7cda6dbd8ed2dce31f4463cb", func := "bateria/baterialaw01.ParadeTime", spec := "paradeTime", unfollowed := true, recurses := true, apart := false, narrowed := true }
def ParadeTimeUptoSaid : Prop := paradeTimeUptoRow.holds Try.pinned (OpenSpec.upto paradeTimeSpec)

/-- 'baterialaw01.ParadeOpen', WHERE WHAT IT READS IS OF BULK AT MOST 1048576: true; the input reads as it did. -/
def paradeOpenUptoRow : OpenClaim := { program := "ytnihkgdkdinliaa", sum := "a547cbb4e75f0bd30d0173a64db5f181c5cb352d7cda6dbd8ed2dce31f4463cb", func := "bateria/baterialaw01.ParadeOpen", spec := "paradeOpen", unfollowed := true, recurses := true, apart := false, narrowed := true }
def ParadeOpenUptoSaid : Prop := paradeOpenUptoRow.holds Try.pinned (OpenSpec.upto paradeOpenSpec)

/-- 'baterialaw01.ParadeBest', WHERE WHAT IT READS IS OF BULK AT MOST 1048576: true; the input reads as it did. -/
def paradeBestUptoRow : OpenClaim := { program := "ytnihkgdkdinliaa", sum := "a547cbb4e75f0bd30d0173a64db5f181c5cb352d7cda6dbd8ed2dce31f4463cb", func := "bateria/baterialaw01.ParadeBest", spec := "paradeBest", unfollowed := true, recurses := true, apart := false, narrowed := true }
def ParadeBestUptoSaid : Prop := paradeBestUptoRow.holds Try.pinned (OpenSpec.upto paradeBestSpec)

/-- 'baterialaw01.ParadeNarrow', WHERE WHAT IT READS IS OF BULK AT MOST 1048576: true; the input reads as it did. -/
def paradeNarrowUptoRow : OpenClaim := { program := "ytnihkgdkdinliaa", sum := "a547cbb4e75f0bd30d0173a64db5f181c5cb352d7cda6dbd8ed2dce31f4463cb", func := "bateria/baterialaw01.ParadeNarrow", spec := "paradeNarrow", unfollowed := true, recurses := true, apart := false, narrowed := true }
def ParadeNarrowUptoSaid : Prop := paradeNarrowUptoRow.holds Try.pinned (OpenSpec.upto paradeNarrowSpec)

end Rows
end Go.Proofs.Ytnihkgdkdinliaa
