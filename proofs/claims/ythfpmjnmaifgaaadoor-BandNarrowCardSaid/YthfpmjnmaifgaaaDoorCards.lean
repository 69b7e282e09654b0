/-
  DERIVED. GIVEN WITH THE SEED: THE CARDS: each row of YthfpmjnmaifgaaaDoorRows.lean that lists a variable, with what it lists TIED to the program's text (the seventh form; the later family's looks); each row that meets fmt, with fmt's text TOLD by the authors' own Lean function (tested against real Go, not proved from fmt's source: count such statements apart). THE CARD IS WHAT COUNTS. Prove the row's statement (the work); the ties are given (YthfpmjnmaifgaaaDoorTie.lean); close each card by the builder's one call (the guide's Derived/Test/ToyasCard.lean, 'card_holds'). Laid BY PROGRAM, IN A SANDBOX (cutbox-door.mjs). By AI agents, Wed Nov 11 2026. No macro, syntax, notation, axiom, sorry.
-/
import Derived.Test.YthfpmjnmaifgaaaDoorRows
import GoSem.ClaimSeven
namespace Go.Proofs.YthfpmjnmaifgaaaDoor
namespace Rows

/-- THE TIED CARD OF 'baterialaw07.BandNarrow'. -/
def bandNarrowCard : Claim7 := { stood := { row := bandNarrowRow, standIns := [], harness := (true, "f5769cdaea909a30e319c171f4fd22533211c07023089ab5601e95942390f1b9"), looks := false }, kinds := [], alts := [], laidByText := true, laidKinds := [.data, .data], laidTests := true, laidLooks := .later }
def BandNarrowCardSaid : Prop := Claim7.holds Tryd.pinned (.plain (OpenSpec.ofChange bandNarrowSpec)) bandNarrowCard

/-- THE SECOND FORM's CARD OF 'baterialaw07.BandNarrow'. -/
def bandNarrowUptoCard : Claim7 := { stood := { row := bandNarrowUptoRow, standIns := [], harness := (true, "f5769cdaea909a30e319c171f4fd22533211c07023089ab5601e95942390f1b9"), looks := false }, kinds := [], alts := [], laidByText := true, laidKinds := [.data, .data], laidTests := true, laidLooks := .later }
def BandNarrowUptoCardSaid : Prop := Claim7.holds Tryd.pinned (.plain (OpenSpec.upto bandNarrowSpec)) bandNarrowUptoCard
end Rows
end Go.Proofs.YthfpmjnmaifgaaaDoor
