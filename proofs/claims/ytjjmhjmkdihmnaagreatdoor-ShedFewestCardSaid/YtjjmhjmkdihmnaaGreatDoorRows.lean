/-
  NARROWER THAN 'FOR EVERY INPUT', by the rows' own cells (each row's printed sentence says how): ShedCarries: laid · ShedMatch: laid · ShedFewest: laid · ShedBound: laid · ShedEarly: laid.
  DERIVED. THE GIVEN ROWS OF THIS SEAT. 5 by the template 'for every input the law returns true; each argument reads behind the call as it read before'; 0 by the template 'total and deterministic' (their statements: YtjjmhjmkdihmnaaGreatDoorTotals.lean).
  GIVEN WITH THE SEED: the statements are not yours to turn. If you find one false, say at which input.
  Laid BY PROGRAM, IN A SANDBOX (cutbox-rows.mjs): the forced cells as the released guide's own fill.sh prints them over the translation 715ad8dca586afb6… (all of the seat's roots in one cut). By AI agents, Wed Nov 11 2026. No macro, syntax, notation, axiom, sorry.
-/
import Derived.Test.YtjjmhjmkdihmnaaGreatDoorChecked
import GoSem.Claim
import GoSem.ClaimJoined
import GoSem.ClaimMapViews
import Derived.JoinedTies
import Derived.KernelRfl
namespace Go.Proofs.YtjjmhjmkdihmnaaGreatDoor
/- THE CELL 'sum', in the pinned program and in every row, IS THE sha256 OF THE DUMP (.gsa) THAT YtjjmhjmkdihmnaaGreatDoorProg.lean LOADS. Nothing in Lean hashes anything: it is a label: what it is worth is what the hold of that sum in a sandbox is worth. -/
noncomputable def Tryz.pinned : Pinned := { name := "ytjjmhjmkdihmnaagreatdoor", sum := "715ad8dca586afb63761aa89e1b4cc7ee94072b4f53b5d479f9fcc93fc561a74", checked := Tryz.checked }
namespace Rows
def none {H : Type} : Left H := { results := [], args := [] }

/- WHAT THE LISTED PACKAGE-LEVEL VARIABLES READ AS WHEN THE CALL BEGINS. Each datum BY PROGRAM (the guide's laid-datum.mjs) off the statement by which the dump's own 'gosem.cut.vars' lays the variable. In a bare row this is a premise. The card (YtjjmhjmkdihmnaaGreatDoorCards.lean) ties it to the program's text. -/
def laid_bateria_shed_bitOf {H : Type} : DataW H := .agg [.lit (.int .u8 0), .lit (.int .u8 1), .lit (.int .u8 2), .lit (.int .u8 4)]

/-- 'baterialaw08.ShedCarries': WHATEVER THE INPUT: true; the input reads as it did. -/
def shedCarriesSpec : ChangeSpec := { name := "shedCarries", fn := fun _ => fun
  | [d] => { results := [.lit (.bool true)], args := [d] }
  | _ => none }
def shedCarriesRow : OpenClaim := { program := "ytjjmhjmkdihmnaagreatdoor", sum := "715ad8dca586afb63761aa89e1b4cc7ee94072b4f53b5d479f9fcc93fc561a74", func := "bateria/baterialaw08.ShedCarries", spec := "shedCarries", unfollowed := true, recurses := true, named := ["bateria/shed.bitOf"], apart := false, laid := [("bateria/shed.bitOf", laid_bateria_shed_bitOf)] }
def ShedCarriesSaid : Prop := shedCarriesRow.holds Tryz.pinned (OpenSpec.ofChange shedCarriesSpec)

/-- ITS FALSE NEIGHBOUR: 'it returns false'. Refute it at one input. -/
def shedCarriesWrong : ChangeSpec := { name := "shedCarries", fn := fun _ => fun
  | [d] => { results := [.lit (.bool false)], args := [d] }
  | _ => none }
def ShedCarriesWrongFalsely : Prop := shedCarriesRow.holds Tryz.pinned (OpenSpec.ofChange shedCarriesWrong)

/-- 'baterialaw08.ShedMatch': WHATEVER THE INPUT: true; the input reads as it did. -/
def shedMatchSpec : ChangeSpec := { name := "shedMatch", fn := fun _ => fun
  | [d] => { results := [.lit (.bool true)], args := [d] }
  | _ => none }
def shedMatchRow : OpenClaim := { program := "ytjjmhjmkdihmnaagreatdoor", sum := "715ad8dca586afb63761aa89e1b4cc7ee94072b4f53b5d479f9fcc93fc561a74", func := "bateria/baterialaw08.ShedMatch", spec := "shedMatch", unfollowed := true, recurses := true, named := ["bateria/shed.bitOf"], apart := false, laid := [("bateria/shed.bitOf", laid_bateria_shed_bitOf)] }
def ShedMatchSaid : Prop := shedMatchRow.holds Tryz.pinned (OpenSpec.ofChange shedMatchSpec)

/-- ITS FALSE NEIGHBOUR: 'it returns false'. Refute it at one input. -/
def shedMatchWrong : ChangeSpec := { name := "shedMatch", fn := fun _ => fun
  | [d] => { results := [.lit (.bool false)], args := [d] }
  | _ => none }
def ShedMatchWrongFalsely : Prop := shedMatchRow.holds Tryz.pinned (OpenSpec.ofChange shedMatchWrong)

/-- 'baterialaw08.ShedFewest': WHATEVER THE INPUT: true; the input reads as it did. -/
def shedFewestSpec : ChangeSpec := { name := "shedFewest", fn := fun _ => fun
  | [d] => { results := [.lit (.bool true)], args := [d] }
  | _ => none }
def shedFewestRow : OpenClaim := { program := "ytjjmhjmkdihmnaagreatdoor", sum := "715ad8dca586afb63761aa89e1b4cc7ee94072b4f53b5d479f9fcc93fc561a74", func := "bateria/baterialaw08.ShedFewest", spec := "shedFewest", unfollowed := true, recurses := true, named := ["bateria/shed.bitOf"], apart := false, laid := [("bateria/shed.bitOf", laid_bateria_shed_bitOf)] }
def ShedFewestSaid : Prop := shedFewestRow.holds Tryz.pinned (OpenSpec.ofChange shedFewestSpec)

/-- ITS FALSE NEIGHBOUR: 'it returns false'. Refute it at one input. -/
def shedFewestWrong : ChangeSpec := { name := "shedFewest", fn := fun _ => fun
  | [d] => { results := [.lit (.bool false)], args := [d] }
  | _ => none }
def ShedFewestWrongFalsely : Prop := shedFewestRow.holds Tryz.pinned (OpenSpec.ofChange shedFewestWrong)

/-- 'baterialaw08.ShedBound': WHATEVER THE INPUT: true; the input reads as it did. -/
def shedBoundSpec : ChangeSpec := { name := "shedBound", fn := fun _ => fun
  | [d] => { results := [.lit (.bool true)], args := [d] }
  | _ => none }
def shedBoundRow : OpenClaim := { program := "ytjjmhjmkdihmnaagreatdoor", sum := "715ad8dca586afb63761aa89e1b4cc7ee94072b4f53b5d479f9fcc93fc561a74", func := "bateria/baterialaw08.ShedBound", spec := "shedBound", unfollowed := true, recurses := true, named := ["bateria/shed.bitOf"], apart := false, laid := [("bateria/shed.bitOf", laid_bateria_shed_bitOf)] }
def ShedBoundSaid : Prop := shedBoundRow.holds Tryz.pinned (OpenSpec.ofChange shedBoundSpec)

/-- ITS FALSE NEIGHBOUR: 'it returns false'. Refute it at one input. -/
def shedBoundWrong : ChangeSpec := { name := "shedBound", fn := fun _ => fun
  | [d] => { results := [.lit (.bool false)], args := [d] }
  | _ => none }
def ShedBoundWrongFalsely : Prop := shedBoundRow.holds Tryz.pinned (OpenSpec.ofChange shedBoundWrong)

/-- 'baterialaw08.ShedEarly': WHATEVER THE INPUT: true; the input reads as it did. -/
def shedEarlySpec : ChangeSpec := { name := "shedEarly", fn := fun _ => fun
  | [d] => { results := [.lit (.bool true)], args := [d] }
  | _ => none }
def shedEarlyRow : OpenClaim := { program := "ytjjmhjmkdihmnaagreatdoor", sum := "715ad8dca586afb63761aa89e1b4cc7ee94072b4f53b5d479f9fcc93fc561a74", func := "bateria/baterialaw08.ShedEarly", spec := "shedEarly", unfollowed := true, recurses := true, named := ["bateria/shed.bitOf"], apart := false, laid := [("bateria/shed.bitOf", laid_bateria_shed_bitOf)] }
def ShedEarlySaid : Prop := shedEarlyRow.holds Tryz.pinned (OpenSpec.ofChange shedEarlySpec)

/-- ITS FALSE NEIGHBOUR: 'it returns false'. Refute it at one input. -/
def shedEarlyWrong : ChangeSpec := { name := "shedEarly", fn := fun _ => fun
  | [d] => { results := [.lit (.bool false)], args := [d] }
  | _ => none }
def ShedEarlyWrongFalsely : Prop := shedEarlyRow.holds Tryz.pinned (OpenSpec.ofChange shedEarlyWrong)

/- THE SECOND FORM. 'bulk': how many values and letters a reading holds, each counted each time it is reached (what is shared counts as often as it is met; a slice's spare places count too). A statement '..UptoSaid' is the law's where the arguments, and the package variables that the reading takes, are together of bulk at most 1048576: NARROWER than '..Said'. Prove '..Said' where nothing that the law and all that it calls make is longer than what came in: it says more and counts as full. Else prove '..UptoSaid'. A law counts once. -/
mutual
def uptoBulk {H : Type} : DataW H → Nat
  | .lit (.string bytes) => bytes.length + 1
  | .lit _ => 1
  | .nil => 1
  | .ptr d => uptoBulk d + 1
  | .slice elems spare => uptoBulkAll elems + uptoBulkAll spare + 1
  | .agg parts => uptoBulkAll parts + 1
  | .iface _ d => uptoBulk d + 1
  | .map entries => uptoBulkEntries entries + 1
  | .held _ => 1
def uptoBulkAll {H : Type} : List (DataW H) → Nat
  | [] => 0
  | d :: r => uptoBulk d + uptoBulkAll r
def uptoBulkEntries {H : Type} : List (Lit × DataW H) → Nat
  | [] => 0
  | x :: r => uptoBulkEntry x + uptoBulkEntries r
def uptoBulkEntry {H : Type} : Lit × DataW H → Nat
  | (.string bytes, d) => bytes.length + uptoBulk d + 1
  | (_, d) => uptoBulk d + 1
 end
def uptoSmall : (H : Type) → List (DataW H) → Bool := fun _ ds => decide (uptoBulkAll ds ≤ 1048576)
def OpenSpec.upto (s : _root_.Go.ChangeSpec) : _root_.Go.OpenSpec := { _root_.Go.OpenSpec.ofChange s with cond := some uptoSmall }

/-- 'baterialaw08.ShedCarries', WHERE WHAT IT READS IS OF BULK AT MOST 1048576: true; the input reads as it did. -/
def shedCarriesUptoRow : OpenClaim := { program := "ytjjmhjmkdihmnaagreatdoor", sum := "715ad8dca586afb63761aa89e1b4cc7ee94072b4f53b5d479f9fcc93fc561a74", func := "bateria/baterialaw08.ShedCarries", spec := "shedCarries", unfollowed := true, recurses := true, named := ["bateria/shed.bitOf"], apart := false, laid := [("bateria/shed.bitOf", laid_bateria_shed_bitOf)], narrowed := true }
def ShedCarriesUptoSaid : Prop := shedCarriesUptoRow.holds Tryz.pinned (OpenSpec.upto shedCarriesSpec)

/-- 'baterialaw08.ShedMatch', WHERE WHAT IT READS IS OF BULK AT MOST 1048576: true; the input reads as it did. -/
def shedMatchUptoRow : OpenClaim := { program := "ytjjmhjmkdihmnaagreatdoor", sum := "715ad8dca586afb63761aa89e1b4cc7ee94072b4f53b5d479f9fcc93fc561a74", func := "bateria/baterialaw08.ShedMatch", spec := "shedMatch", unfollowed := true, recurses := true, named := ["bateria/shed.bitOf"], apart := false, laid := [("bateria/shed.bitOf", laid_bateria_shed_bitOf)], narrowed := true }
def ShedMatchUptoSaid : Prop := shedMatchUptoRow.holds Tryz.pinned (OpenSpec.upto shedMatchSpec)

/-- 'baterialaw08.ShedFewest', WHERE WHAT IT READS IS OF BULK AT MOST 1048576: true; the input reads as it did. -/
def shedFewestUptoRow : OpenClaim := { program := "ytjjmhjmkdihmnaagreatdoor", sum := "715ad8dca586afb63761aa89e1b4cc7ee94072b4f53b5d479f9fcc93fc561a74", func := "bateria/baterialaw08.ShedFewest", spec := "shedFewest", unfollowed := true, recurses := true, named := ["bateria/shed.bitOf"], apart := false, laid := [("bateria/shed.bitOf", laid_bateria_shed_bitOf)], narrowed := true }
def ShedFewestUptoSaid : Prop := shedFewestUptoRow.holds Tryz.pinned (OpenSpec.upto shedFewestSpec)

/-- 'baterialaw08.ShedBound', WHERE WHAT IT READS IS OF BULK AT MOST 1048576: true; the input reads as it did. -/
def shedBoundUptoRow : OpenClaim := { program := "ytjjmhjmkdihmnaagreatdoor", sum := "715ad8dca586afb63761aa89e1b4cc7ee94072b4f53b5d479f9fcc93fc561a74", func := "bateria/baterialaw08.ShedBound", spec := "shedBound", unfollowed := true, recurses := true, named := ["bateria/shed.bitOf"], apart := false, laid := [("bateria/shed.bitOf", laid_bateria_shed_bitOf)], narrowed := true }
def ShedBoundUptoSaid : Prop := shedBoundUptoRow.holds Tryz.pinned (OpenSpec.upto shedBoundSpec)

/-- 'baterialaw08.ShedEarly', WHERE WHAT IT READS IS OF BULK AT MOST 1048576: true; the input reads as it did. -/
def shedEarlyUptoRow : OpenClaim := { program := "ytjjmhjmkdihmnaagreatdoor", sum := "715ad8dca586afb63761aa89e1b4cc7ee94072b4f53b5d479f9fcc93fc561a74", func := "bateria/baterialaw08.ShedEarly", spec := "shedEarly", unfollowed := true, recurses := true, named := ["bateria/shed.bitOf"], apart := false, laid := [("bateria/shed.bitOf", laid_bateria_shed_bitOf)], narrowed := true }
def ShedEarlyUptoSaid : Prop := shedEarlyUptoRow.holds Tryz.pinned (OpenSpec.upto shedEarlySpec)

end Rows
end Go.Proofs.YtjjmhjmkdihmnaaGreatDoor
