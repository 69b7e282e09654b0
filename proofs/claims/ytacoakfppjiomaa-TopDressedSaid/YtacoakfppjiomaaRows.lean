/-
  No cell of these rows narrows 'for every input' (looked for: loops, veiled, ifaces, maps, wideKeys, modest, calm, conditions, laid).
  DERIVED. THE GIVEN ROWS OF THIS SEAT. 3 by the template 'for every input the law returns true; each argument reads behind the call as it read before'; 0 by the template 'total and deterministic' (their statements: YtacoakfppjiomaaTotals.lean).
  GIVEN WITH THE SEED: the statements are not yours to turn. If you find one false, say at which input.
  Laid BY PROGRAM, IN A SANDBOX (cutbox-rows.mjs): the forced cells as the released guide's own fill.sh prints them over the translation 7e2fdbac85fed467… (all of the seat's roots in one cut). By AI agents, Wed Nov 11 2026. No macro, syntax, notation, axiom, sorry.
-/
import Derived.Test.YtacoakfppjiomaaChecked
import GoSem.Claim
import GoSem.ClaimJoined
import GoSem.ClaimMapViews
import Derived.JoinedTies
import Derived.KernelRfl
namespace Go.Proofs.Ytacoakfppjiomaa
/- THE CELL 'sum', in the pinned program and in every row, IS THE sha256 OF THE DUMP (.gsa) THAT YtacoakfppjiomaaProg.lean LOADS. Nothing in Lean hashes anything: it is a label: what it is worth is what the hold of that sum in a sandbox is worth. -/
noncomputable def Try.pinned : Pinned := { name := "ytacoakfppjiomaa", sum := "7e2fdbac85fed467a1374e556f46140de119da98a29270571597fcc699d86cdb", checked := Try.checked }
namespace Rows
def none {H : Type} : Left H := { results := [], args := [] }

/-- 'baterialaw06.CrowdCloses': WHATEVER THE INPUT: true; the input reads as it did. -/
def crowdClosesSpec : ChangeSpec := { name := "crowdCloses", fn := fun _ => fun
  | [d1, d2, d3] => { results := [.lit (.bool true)], args := [d1, d2, d3] }
  | _ => none }
def crowdClosesRow : OpenClaim := { program := "ytacoakfppjiomaa", sum := "7e2fdbac85fed467a1374e556f46140de119da98a29270571597fcc699d86cdb", func := "bateria/baterialaw06.CrowdCloses", spec := "crowdCloses", unfollowed := true, recurses := true, apart := false }
def CrowdClosesSaid : Prop := crowdClosesRow.holds Try.pinned (OpenSpec.ofChange crowdClosesSpec)

/-- ITS FALSE NEIGHBOUR: 'it returns false'. Refute it at one input. -/
def crowdClosesWrong : ChangeSpec := { name := "crowdCloses", fn := fun _ => fun
  | [d1, d2, d3] => { results := [.lit (.bool false)], args := [d1, d2, d3] }
  | _ => none }
def CrowdClosesWrongFalsely : Prop := crowdClosesRow.holds Try.pinned (OpenSpec.ofChange crowdClosesWrong)

/-- 'baterialaw06.CrowdRoom': WHATEVER THE INPUT: true; the input reads as it did. -/
def crowdRoomSpec : ChangeSpec := { name := "crowdRoom", fn := fun _ => fun
  | [d] => { results := [.lit (.bool true)], args := [d] }
  | _ => none }
def crowdRoomRow : OpenClaim := { program := "ytacoakfppjiomaa", sum := "7e2fdbac85fed467a1374e556f46140de119da98a29270571597fcc699d86cdb", func := "bateria/baterialaw06.CrowdRoom", spec := "crowdRoom", unfollowed := true, recurses := true, apart := false }
def CrowdRoomSaid : Prop := crowdRoomRow.holds Try.pinned (OpenSpec.ofChange crowdRoomSpec)

/-- ITS FALSE NEIGHBOUR: 'it returns false'. Refute it at one input. -/
def crowdRoomWrong : ChangeSpec := { name := "crowdRoom", fn := fun _ => fun
  | [d] => { results := [.lit (.bool false)], args := [d] }
  | _ => none }
def CrowdRoomWrongFalsely : Prop := crowdRoomRow.holds Try.pinned (OpenSpec.ofChange crowdRoomWrong)

/-- 'bateriatop.TopDressed': WHATEVER THE INPUT: true; the input reads as it did. -/
def topDressedSpec : ChangeSpec := { name := "topDressed", fn := fun _ => fun
  | [d] => { results := [.lit (.bool true)], args := [d] }
  | _ => none }
def topDressedRow : OpenClaim := { program := "ytacoakfppjiomaa", sum := "7e2fdbac85fed467a1374e556f46140de119da98a29270571597fcc699d86cdb", func := "bateria/bateriatop.TopDressed", spec := "topDressed", unfollowed := true, recurses := true, apart := false }
def TopDressedSaid : Prop := topDressedRow.holds Try.pinned (OpenSpec.ofChange topDressedSpec)

/-- ITS FALSE NEIGHBOUR: 'it returns false'. Refute it at one input. -/
def topDressedWrong : ChangeSpec := { name := "topDressed", fn := fun _ => fun
  | [d] => { results := [.lit (.bool false)], args := [d] }
  | _ => none }
def TopDressedWrongFalsely : Prop := topDressedRow.holds Try.pinned (OpenSpec.ofChange topDressedWrong)

/- THE SECOND FORM. 'bulk': how many values and letters a reading holds, each counted each time it is reached (what is shared counts as often as it is met; a slice's spare places count too). A statement '..UptoSaid' is the law's where the arguments, and the package variables that the reading takes, are together of bulk at most 1048576: NARROWER than '..Said'. Prove '..Said' where nothing that the law and all that it calls make is longer than what came in: it says more and counts as full. Else prove '..UptoSaid'. A law counts once. -/
mutual
def uptoBulk {H : Type} : DataW H → Nat
  | .lit (.string bytes) => bytes.length + 1
  | .lit _ => 1
  | .nil => 1
  | .ptr d => uptoBulk d + 1
  | .slice elems spare => uptoBulkAll elems + uptoBulkAll spare + 1
  | .agg parts => uptoBulkAll parts + 1
  | .iface _ d => uptoBulk d + 1
  | .map entries => uptoBulkEntries entries + 1
  | .held _ => 1
def uptoBulkAll {H : Type} : List (DataW H) → Nat
  | [] => 0
  | d :: r => uptoBulk d + uptoBulkAll r
def uptoBulkEntries {H : Type} : List (Lit × DataW H) → Nat
  | [] => 0
  | x :: r => uptoBulkEntry x + uptoBulkEntries r
def uptoBulkEntry {H : Type} : Lit × DataW H → Nat
  | (.string bytes, d) => bytes.length + uptoBulk d + 1
  | (_, d) => uptoBulk d + 1
 end
def uptoSmall : (H : Type) → List (DataW H) → Bool := fun _ ds => decide (uptoBulkAll ds ≤ 1048576)
def OpenSpec.upto (s : _root_.Go.ChangeSpec) : _root_.Go.OpenSpec := { _root_.Go.OpenSpec.ofChange s with cond := some uptoSmall }

/-- 'baterialaw06.CrowdCloses', WHERE WHAT IT READS IS OF BULK AT MOST 1048576: true; the input reads as it did. -/
def crowdClosesUptoRow : OpenClaim := { program := "ytacoakfppjiomaa", sum := "7e2fdbac85fed467a1374e556f46140de119da98a29270571597fcc699d86cdb", func := "bateria/baterialaw06.CrowdCloses", spec := "crowdCloses", unfollowed := true, recurses := true, apart := false, narrowed := true }
def CrowdClosesUptoSaid : Prop := crowdClosesUptoRow.holds Try.pinned (OpenSpec.upto crowdClosesSpec)

/-- 'baterialaw06.CrowdRoom', WHERE WHAT IT READS IS OF BULK AT MOST 1048576: true; the input reads as it did. -/
def crowdRoomUptoRow : OpenClaim := { program := "ytacoakfppjiomaa", sum := "7e2fdbac85fed467a1374e556f46140de119da98a29270571597fcc699d86cdb", func := "bateria/baterialaw06.CrowdRoom", spec := "crowdRoom", unfollowed := true, recurses := true, apart := false, narrowed := true }
def CrowdRoomUptoSaid : Prop := crowdRoomUptoRow.holds Try.pinned (OpenSpec.upto crowdRoomSpec)

/-- 'bateriatop.TopDressed', WHERE WHAT IT READS IS OF BULK AT MOST 1048576: true; the input reads as it did. -/
def topDressedUptoRow : OpenClaim := { program := "ytacoakfppjiomaa", sum := "7e2fdbac85fed467a1374e556f46140de119da98a29270571597fcc699d86cdb", func := "bateria/bateriatop.TopDressed", spec := "topDressed", unfollowed := true, recurses := true, apart := false, narrowed := true }
def TopDressedUptoSaid : Prop := topDressedUptoRow.holds Try.pinned (OpenSpec.upto topDressedSpec)

end Rows
end Go.Proofs.Ytacoakfppjiomaa
