/-
  No cell of these rows narrows 'for every input' (looked for: loops, veiled, ifaces, maps, wideKeys, modest, calm, conditions, laid).
  DERIVED. THE GIVEN ROWS OF THIS SEAT. 3 by the template 'for every input the law returns true; each argument reads behind the call as it read before'; 0 by the template 'total and deterministic' (their statements: YtloklokkognalaaTotals.lean).
  GIVEN WITH THE SEED: the statements are not yours to turn. If you find one false, say at which input.
  Laid BY PROGRAM, IN A SANDBOX (cutbox-rows.mjs): the forced cells as the released guide's own fill.sh prints them over the translation 8501b631a365cb86… (all of the seat's roots in one cut). By AI agents, Wed Nov 11 2026. No macro, syntax, notation, axiom, sorry.
-/
import Derived.Test.YtloklokkognalaaChecked
import GoSem.Claim
import GoSem.ClaimJoined
import GoSem.ClaimMapViews
import Derived.JoinedTies
import Derived.KernelRfl
namespace Go.Proofs.Ytloklokkognalaa
/- THE CELL 'sum', in the pinned program and in every row, IS THE sha256 OF THE DUMP (.gsa) THAT YtloklokkognalaaProg.lean LOADS. Nothing in Lean hashes anything: it is a label: what it is worth is what the hold of that sum in a sandbox is worth. -/
noncomputable def Try.pinned : Pinned := { name := "ytloklokkognalaa", sum := "8501b631a365cb86f10c884f447b3815a72e248cb45531268d118904c49daddb", checked := Try.checked }
namespace Rows
def none {H : Type} : Left H := { results := [], args := [] }

/-- 'baterialaw01.ParadePlans': WHATEVER THE INPUT: true; the input reads as it did. -/
def paradePlansSpec : ChangeSpec := { name := "paradePlans", fn := fun _ => fun
  | [d1, d2, d3] => { results := [.lit (.bool true)], args := [d1, d2, d3] }
  | _ => none }
def paradePlansRow : OpenClaim := { program := "ytloklokkognalaa", sum := "8501b631a365cb86f10c884f447b3815a72e248cb45531268d118904c49daddb", func := "bateria/baterialaw01.ParadePlans", spec := "paradePlans", unfollowed := true, recurses := true, apart := false }
def ParadePlansSaid : Prop := paradePlansRow.holds Try.pinned (OpenSpec.ofChange paradePlansSpec)

/-- ITS FALSE NEIGHBOUR: 'it returns false'. Refute it at one input. -/
def paradePlansWrong : ChangeSpec := { name := "paradePlans", fn := fun _ => fun
  | [d1, d2, d3] => { results := [.lit (.bool false)], args := [d1, d2, d3] }
  | _ => none }
def ParadePlansWrongFalsely : Prop := paradePlansRow.holds Try.pinned (OpenSpec.ofChange paradePlansWrong)

/-- 'baterialaw01.ParadeOpen': WHATEVER THE INPUT: true; the input reads as it did. -/
def paradeOpenSpec : ChangeSpec := { name := "paradeOpen", fn := fun _ => fun
  | [d] => { results := [.lit (.bool true)], args := [d] }
  | _ => none }
def paradeOpenRow : OpenClaim := { program := "ytloklokkognalaa", sum := "8501b631a365cb86f10c884f447b3815a72e248cb45531268d118904c49daddb", func := "bateria/baterialaw01.ParadeOpen", spec := "paradeOpen", unfollowed := true, recurses := true, apart := false }
def ParadeOpenSaid : Prop := paradeOpenRow.holds Try.pinned (OpenSpec.ofChange paradeOpenSpec)

/-- ITS FALSE NEIGHBOUR: 'it returns false'. Refute it at one input. -/
def paradeOpenWrong : ChangeSpec := { name := "paradeOpen", fn := fun _ => fun
  | [d] => { results := [.lit (.bool false)], args := [d] }
  | _ => none }
def ParadeOpenWrongFalsely : Prop := paradeOpenRow.holds Try.pinned (OpenSpec.ofChange paradeOpenWrong)

/-- 'baterialaw01.ParadeBest': WHATEVER THE INPUT: true; the input reads as it did. -/
def paradeBestSpec : ChangeSpec := { name := "paradeBest", fn := fun _ => fun
  | [d] => { results := [.lit (.bool true)], args := [d] }
  | _ => none }
def paradeBestRow : OpenClaim := { program := "ytloklokkognalaa", sum := "8501b631a365cb86f10c884f447b3815a72e248cb45531268d118904c49daddb", func := "bateria/baterialaw01.ParadeBest", spec := "paradeBest", unfollowed := true, recurses := true, apart := false }
def ParadeBestSaid : Prop := paradeBestRow.holds Try.pinned (OpenSpec.ofChange paradeBestSpec)

/-- ITS FALSE NEIGHBOUR: 'it returns false'. Refute it at one input. -/
def paradeBestWrong : ChangeSpec := { name := "paradeBest", fn := fun _ => fun
  | [d] => { results := [.lit (.bool false)], args := [d] }
  | _ => none }
def ParadeBestWrongFalsely : Prop := paradeBestRow.holds Try.pinned (OpenSpec.ofChange paradeBestWrong)

/- THE SECOND FORM. 'bulk': how many values and letters a reading holds, each counted each time it is reached (what is shared counts as often as it is met; a slice's spare places count too). A statement '..UptoSaid' is the law's where the arguments, and the package variables that the reading takes, are together of bulk at most 1048576: NARROWER than '..Said'. Prove '..Said' where nothing that the law and all that it calls make is longer than what came in: it says more and counts as full. Else prove '..UptoSaid'. A law counts once. -/
mutual
def uptoBulk {H : Type} : DataW H → Nat
  | .lit (.string bytes) => bytes.length + 1
  | .lit _ => 1
  | .nil => 1
  | .ptr d => uptoBulk d + 1
  | .slice elems spare => uptoBulkAll elems + uptoBulkAll spare + 1
  | .agg parts => uptoBulkAll parts + 1
  | .iface _ d => uptoBulk d + 1
  | .map entries => uptoBulkEntries entries + 1
  | .held _ => 1
def uptoBulkAll {H : Type} : List (DataW H) → Nat
  | [] => 0
  | d :: r => uptoBulk d + uptoBulkAll r
def uptoBulkEntries {H : Type} : List (Lit × DataW H) → Nat
  | [] => 0
  | x :: r => uptoBulkEntry x + uptoBulkEntries r
def uptoBulkEntry {H : Type} : Lit × DataW H → Nat
  | (.string bytes, d) => bytes.length + uptoBulk d + 1
  | (_, d) => uptoBulk d + 1
 end
def uptoSmall : (H : Type) → List (DataW H) → Bool := fun _ ds => decide (uptoBulkAll ds ≤ 1048576)
def OpenSpec.upto (s : _root_.Go.ChangeSpec) : _root_.Go.OpenSpec := { _root_.Go.OpenSpec.ofChange s with cond := some uptoSmall }

/-- 'baterialaw01.ParadePlans', WHERE WHAT IT READS IS OF BULK AT MOST 1048576: true; the input reads as it did. -/
def paradePlansUptoRow : OpenClaim := { program := "ytloklokkognalaa", sum := "8501b631a365cb86f10c884f447b3815a72e248cb45531268d118904c49daddb", func := "bateria/baterialaw01.ParadePlans", spec := "paradePlans", unfollowed := true, recurses := true, apart := false, narrowed := true }
def ParadePlansUptoSaid : Prop := paradePlansUptoRow.holds Try.pinned (OpenSpec.upto paradePlansSpec)

/-- 'baterialaw01.ParadeOpen', WHERE WHAT IT READS IS OF BULK AT MOST 1048576: true; the input reads as it did. -/
def paradeOpenUptoRow : OpenClaim := { program := "ytloklokkognalaa", sum := "8501b631a365cb86f10c884f447b3815a72e248cb45531268d118904c49daddb", func := "bateria/baterialaw01.ParadeOpen", spec := "paradeOpen", unfollowed := true, recurses := true, apart := false, narrowed := true }
def ParadeOpenUptoSaid : Prop := paradeOpenUptoRow.holds Try.pinned (OpenSpec.upto paradeOpenSpec)

/-- 'baterialaw01.ParadeBest', WHERE WHAT IT READS IS OF BULK AT MOST 1048576: true; the input reads as it did. -/
def paradeBestUptoRow : OpenClaim := { program := "ytloklokkognalaa", sum := "8501b631a365cb86f10c884f447b3815a72e248cb45531268d118904c49daddb", func := "bateria/baterialaw01.ParadeBest", spec := "paradeBest", unfollowed := true, recurses := true, apart := false, narrowed := true }
def ParadeBestUptoSaid : Prop := paradeBestUptoRow.holds Try.pinned (OpenSpec.upto paradeBestSpec)

end Rows
end Go.Proofs.Ytloklokkognalaa
