/-
  No cell of these rows narrows 'for every input' (looked for: loops, veiled, ifaces, maps, wideKeys, modest, calm, conditions, laid).
  DERIVED. THE GIVEN ROWS OF THIS SEAT. 5 by the template 'for every input the law returns true; each argument reads behind the call as it read before'; 0 by the template 'total and deterministic' (their statements: YtfhapfljomgmnaaTotals.lean).
  GIVEN WITH THE SEED: the statements are not yours to turn. If you find one false, say at which input.
  Laid BY PROGRAM, IN A SANDBOX (cutbox-rows.mjs): the forced cells as the released guide's own fill.sh prints them over the translation 013724b268606d90… (all of the seat's roots in one cut). By AI agents, Wed Nov 11 2026. No macro, syntax, notation, axiom, sorry.
-/
import Derived.Test.YtfhapfljomgmnaaChecked
import GoSem.Claim
import GoSem.ClaimJoined
import GoSem.ClaimMapViews
import Derived.JoinedTies
import Derived.KernelRfl
namespace Go.Proofs.Ytfhapfljomgmnaa
/- THE CELL 'sum', in the pinned program and in every row, IS THE sha256 OF THE DUMP (.gsa) THAT YtfhapfljomgmnaaProg.lean LOADS. Nothing in Lean hashes anything: it is a label: what it is worth is what the hold of that sum in a sandbox is worth. -/
noncomputable def Try.pinned : Pinned := { name := "ytfhapfljomgmnaa", sum := "013724b268606d90ed1ab82d5d9e7f7f0dbad6aada089f38b69e7aab2ef826ba", checked := Try.checked }
namespace Rows
def none {H : Type} : Left H := { results := [], args := [] }

/-- 'baterialaw09.CoinTraces': WHATEVER THE INPUT: true; the input reads as it did. -/
def coinTracesSpec : ChangeSpec := { name := "coinTraces", fn := fun _ => fun
  | [d1, d2, d3, d4] => { results := [.lit (.bool true)], args := [d1, d2, d3, d4] }
  | _ => none }
def coinTracesRow : OpenClaim := { program := "ytfhapfljomgmnaa", sum := "013724b268606d90ed1ab82d5d9e7f7f0dbad6aada089f38b69e7aab2ef826ba", func := "bateria/baterialaw09.CoinTraces", spec := "coinTraces", unfollowed := true, recurses := true, apart := false }
def CoinTracesSaid : Prop := coinTracesRow.holds Try.pinned (OpenSpec.ofChange coinTracesSpec)

/-- ITS FALSE NEIGHBOUR: 'it returns false'. Refute it at one input. -/
def coinTracesWrong : ChangeSpec := { name := "coinTraces", fn := fun _ => fun
  | [d1, d2, d3, d4] => { results := [.lit (.bool false)], args := [d1, d2, d3, d4] }
  | _ => none }
def CoinTracesWrongFalsely : Prop := coinTracesRow.holds Try.pinned (OpenSpec.ofChange coinTracesWrong)

/-- 'baterialaw09.CoinTraced': WHATEVER THE INPUT: true; the input reads as it did. -/
def coinTracedSpec : ChangeSpec := { name := "coinTraced", fn := fun _ => fun
  | [d] => { results := [.lit (.bool true)], args := [d] }
  | _ => none }
def coinTracedRow : OpenClaim := { program := "ytfhapfljomgmnaa", sum := "013724b268606d90ed1ab82d5d9e7f7f0dbad6aada089f38b69e7aab2ef826ba", func := "bateria/baterialaw09.CoinTraced", spec := "coinTraced", unfollowed := true, recurses := true, apart := false }
def CoinTracedSaid : Prop := coinTracedRow.holds Try.pinned (OpenSpec.ofChange coinTracedSpec)

/-- ITS FALSE NEIGHBOUR: 'it returns false'. Refute it at one input. -/
def coinTracedWrong : ChangeSpec := { name := "coinTraced", fn := fun _ => fun
  | [d] => { results := [.lit (.bool false)], args := [d] }
  | _ => none }
def CoinTracedWrongFalsely : Prop := coinTracedRow.holds Try.pinned (OpenSpec.ofChange coinTracedWrong)

/-- 'baterialaw09.CoinAudited': WHATEVER THE INPUT: true; the input reads as it did. -/
def coinAuditedSpec : ChangeSpec := { name := "coinAudited", fn := fun _ => fun
  | [d] => { results := [.lit (.bool true)], args := [d] }
  | _ => none }
def coinAuditedRow : OpenClaim := { program := "ytfhapfljomgmnaa", sum := "013724b268606d90ed1ab82d5d9e7f7f0dbad6aada089f38b69e7aab2ef826ba", func := "bateria/baterialaw09.CoinAudited", spec := "coinAudited", unfollowed := true, recurses := true, apart := false }
def CoinAuditedSaid : Prop := coinAuditedRow.holds Try.pinned (OpenSpec.ofChange coinAuditedSpec)

/-- ITS FALSE NEIGHBOUR: 'it returns false'. Refute it at one input. -/
def coinAuditedWrong : ChangeSpec := { name := "coinAudited", fn := fun _ => fun
  | [d] => { results := [.lit (.bool false)], args := [d] }
  | _ => none }
def CoinAuditedWrongFalsely : Prop := coinAuditedRow.holds Try.pinned (OpenSpec.ofChange coinAuditedWrong)

/-- 'baterialaw09.CoinSpent': WHATEVER THE INPUT: true; the input reads as it did. -/
def coinSpentSpec : ChangeSpec := { name := "coinSpent", fn := fun _ => fun
  | [d] => { results := [.lit (.bool true)], args := [d] }
  | _ => none }
def coinSpentRow : OpenClaim := { program := "ytfhapfljomgmnaa", sum := "013724b268606d90ed1ab82d5d9e7f7f0dbad6aada089f38b69e7aab2ef826ba", func := "bateria/baterialaw09.CoinSpent", spec := "coinSpent", unfollowed := true, recurses := true, apart := false }
def CoinSpentSaid : Prop := coinSpentRow.holds Try.pinned (OpenSpec.ofChange coinSpentSpec)

/-- ITS FALSE NEIGHBOUR: 'it returns false'. Refute it at one input. -/
def coinSpentWrong : ChangeSpec := { name := "coinSpent", fn := fun _ => fun
  | [d] => { results := [.lit (.bool false)], args := [d] }
  | _ => none }
def CoinSpentWrongFalsely : Prop := coinSpentRow.holds Try.pinned (OpenSpec.ofChange coinSpentWrong)

/-- 'baterialaw09.CoinMore': WHATEVER THE INPUT: true; the input reads as it did. -/
def coinMoreSpec : ChangeSpec := { name := "coinMore", fn := fun _ => fun
  | [d] => { results := [.lit (.bool true)], args := [d] }
  | _ => none }
def coinMoreRow : OpenClaim := { program := "ytfhapfljomgmnaa", sum := "013724b268606d90ed1ab82d5d9e7f7f0dbad6aada089f38b69e7aab2ef826ba", func := "bateria/baterialaw09.CoinMore", spec := "coinMore", unfollowed := true, recurses := true, apart := false }
def CoinMoreSaid : Prop := coinMoreRow.holds Try.pinned (OpenSpec.ofChange coinMoreSpec)

/-- ITS FALSE NEIGHBOUR: 'it returns false'. Refute it at one input. -/
def coinMoreWrong : ChangeSpec := { name := "coinMore", fn := fun _ => fun
  | [d] => { results := [.lit (.bool false)], args := [d] }
  | _ => none }
def CoinMoreWrongFalsely : Prop := coinMoreRow.holds Try.pinned (OpenSpec.ofChange coinMoreWrong)

/- THE SECOND FORM. 'bulk': how many values and letters a reading holds, each counted each time it is reached (what is shared counts as often as it is met; a slice's spare places count too). A statement '..UptoSaid' is the law's where the arguments, and the package variables that the reading takes, are together of bulk at most 1048576: NARROWER than '..Said'. Prove '..Said' where nothing that the law and all that it calls make is longer than what came in: it says more and counts as full. Else prove '..UptoSaid'. A law counts once. -/
mutual
def uptoBulk {H : Type} : DataW H → Nat
  | .lit (.string bytes) => bytes.length + 1
  | .lit _ => 1
  | .nil => 1
  | .ptr d => uptoBulk d + 1
  | .slice elems spare => uptoBulkAll elems + uptoBulkAll spare + 1
  | .agg parts => uptoBulkAll parts + 1
  | .iface _ d => uptoBulk d + 1
  | .map entries => uptoBulkEntries entries + 1
  | .held _ => 1
def uptoBulkAll {H : Type} : List (DataW H) → Nat
  | [] => 0
  | d :: r => uptoBulk d + uptoBulkAll r
def uptoBulkEntries {H : Type} : List (Lit × DataW H) → Nat
  | [] => 0
  | x :: r => uptoBulkEntry x + uptoBulkEntries r
def uptoBulkEntry {H : Type} : Lit × DataW H → Nat
  | (.string bytes, d) => bytes.length + uptoBulk d + 1
  | (_, d) => uptoBulk d + 1
 end
def uptoSmall : (H : Type) → List (DataW H) → Bool := fun _ ds => decide (uptoBulkAll ds ≤ 1048576)
def OpenSpec.upto (s : _root_.Go.ChangeSpec) : _root_.Go.OpenSpec := { _root_.Go.OpenSpec.ofChange s with cond := some uptoSmall }

/-- 'baterialaw09.CoinTraces', WHERE WHAT IT READS IS OF BULK AT MOST 1048576: true; the input reads as it did. -/
def coinTracesUptoRow : OpenClaim := { program := "ytfhapfljomgmnaa", sum := "013724b268606d90ed1ab82d5d9e7f7f0dbad6aada089f38b69e7aab2ef826ba", func := "bateria/baterialaw09.CoinTraces", spec := "coinTraces", unfollowed := true, recurses := true, apart := false, narrowed := true }
def CoinTracesUptoSaid : Prop := coinTracesUptoRow.holds Try.pinned (OpenSpec.upto coinTracesSpec)

/-- 'baterialaw09.CoinTraced', WHERE WHAT IT READS IS OF BULK AT MOST 1048576: true; the input reads as it did. -/
def coinTracedUptoRow : OpenClaim := { program := "ytfhapfljomgmnaa", sum := "013724b268606d90ed1ab82d5d9e7f7f0dbad6aada089f38b69e7aab2ef826ba", func := "bateria/baterialaw09.CoinTraced", spec := "coinTraced", unfollowed := true, recurses := true, apart := false, narrowed := true }
def CoinTracedUptoSaid : Prop := coinTracedUptoRow.holds Try.pinned (OpenSpec.upto coinTracedSpec)

/-- 'baterialaw09.CoinAudited', WHERE WHAT IT READS IS OF BULK AT MOST 1048576: true; the input reads as it did. -/
def coinAuditedUptoRow : OpenClaim := { program := "ytfhapfljomgmnaa", sum := "013724b268606d90ed1ab82d5d9e7f7f0dbad6aada089f38b69e7aab2ef826ba", func := "bateria/baterialaw09.CoinAudited", spec := "coinAudited", unfollowed := true, recurses := true, apart := false, narrowed := true }
def CoinAuditedUptoSaid : Prop := coinAuditedUptoRow.holds Try.pinned (OpenSpec.upto coinAuditedSpec)

/-- 'baterialaw09.CoinSpent', WHERE WHAT IT READS IS OF BULK AT MOST 1048576: true; the input reads as it did. -/
def coinSpentUptoRow : OpenClaim := { program := "ytfhapfljomgmnaa", sum := "013724b268606d90ed1ab82d5d9e7f7f0dbad6aada089f38b69e7aab2ef826ba", func := "bateria/baterialaw09.CoinSpent", spec := "coinSpent", unfollowed := true, recurses := true, apart := false, narrowed := true }
def CoinSpentUptoSaid : Prop := coinSpentUptoRow.holds Try.pinned (OpenSpec.upto coinSpentSpec)

/-- 'baterialaw09.CoinMore', WHERE WHAT IT READS IS OF BULK AT MOST 1048576: true; the input reads as it did. -/
def coinMoreUptoRow : OpenClaim := { program := "ytfhapfljomgmnaa", sum := "013724b268606d90ed1ab82d5d9e7f7f0dbad6aada089f38b69e7aab2ef826ba", func := "bateria/baterialaw09.CoinMore", spec := "coinMore", unfollowed := true, recurses := true, apart := false, narrowed := true }
def CoinMoreUptoSaid : Prop := coinMoreUptoRow.holds Try.pinned (OpenSpec.upto coinMoreSpec)

end Rows
end Go.Proofs.Ytfhapfljomgmnaa
