/-
  DERIVED. GIVEN WITH THE SEED: THE CARDS: each row of YtkchfjblcfbajaaDoorRows.lean that lists a variable, with what it lists TIED to the program's text (the seventh form; the later family's looks); each row that meets fmt, with fmt's text TOLD by the authors' own Lean function (tested against real Go, not proved from fmt's source: count such statements apart). THE CARD IS WHAT COUNTS. Prove the row's statement (the work); the ties are given (YtkchfjblcfbajaaDoorTie.lean); close each card by the builder's one call (the guide's Derived/Test/ToyasCard.lean, 'card_holds'). Laid BY PROGRAM, IN A SANDBOX (cutbox-door.mjs). By AI agents, Wed Nov 11 2026. No macro, syntax, notation, axiom, sorry.
-/
import Derived.Test.YtkchfjblcfbajaaDoorRows
import GoSem.ClaimSeven
namespace Go.Proofs.YtkchfjblcfbajaaDoor
namespace Rows

/-- THE TIED CARD OF 'baterialaw07.BandChecks'. -/
def bandChecksCard : Claim7 := { stood := { row := bandChecksRow, standIns := [], harness := (true, "fe01ec05f56da0775188e805bb2e3c6250aca9f9ad23cd6dd3bc488253c3c85e"), looks := false }, kinds := [], alts := [], laidByText := true, laidKinds := [.data, .data], laidTests := true, laidLooks := .later }
def BandChecksCardSaid : Prop := Claim7.holds Tryd.pinned (.plain (OpenSpec.ofChange bandChecksSpec)) bandChecksCard

/-- THE TIED CARD OF 'baterialaw07.BandCrosses'. -/
def bandCrossesCard : Claim7 := { stood := { row := bandCrossesRow, standIns := [], harness := (true, "fe01ec05f56da0775188e805bb2e3c6250aca9f9ad23cd6dd3bc488253c3c85e"), looks := false }, kinds := [], alts := [], laidByText := true, laidKinds := [.data, .data], laidTests := true, laidLooks := .later }
def BandCrossesCardSaid : Prop := Claim7.holds Tryd.pinned (.plain (OpenSpec.ofChange bandCrossesSpec)) bandCrossesCard

/-- THE TIED CARD OF 'baterialaw07.BandTrue'. -/
def bandTrueCard : Claim7 := { stood := { row := bandTrueRow, standIns := [], harness := (true, "fe01ec05f56da0775188e805bb2e3c6250aca9f9ad23cd6dd3bc488253c3c85e"), looks := false }, kinds := [], alts := [], laidByText := true, laidKinds := [.data, .data], laidTests := true, laidLooks := .later }
def BandTrueCardSaid : Prop := Claim7.holds Tryd.pinned (.plain (OpenSpec.ofChange bandTrueSpec)) bandTrueCard

/-- THE TIED CARD OF 'baterialaw07.BandMeets'. -/
def bandMeetsCard : Claim7 := { stood := { row := bandMeetsRow, standIns := [], harness := (true, "fe01ec05f56da0775188e805bb2e3c6250aca9f9ad23cd6dd3bc488253c3c85e"), looks := false }, kinds := [], alts := [], laidByText := true, laidKinds := [.data, .data], laidTests := true, laidLooks := .later }
def BandMeetsCardSaid : Prop := Claim7.holds Tryd.pinned (.plain (OpenSpec.ofChange bandMeetsSpec)) bandMeetsCard

/-- THE TIED CARD OF 'baterialaw07.BandNever'. -/
def bandNeverCard : Claim7 := { stood := { row := bandNeverRow, standIns := [], harness := (true, "fe01ec05f56da0775188e805bb2e3c6250aca9f9ad23cd6dd3bc488253c3c85e"), looks := false }, kinds := [], alts := [], laidByText := true, laidKinds := [.data, .data], laidTests := true, laidLooks := .later }
def BandNeverCardSaid : Prop := Claim7.holds Tryd.pinned (.plain (OpenSpec.ofChange bandNeverSpec)) bandNeverCard

/-- THE TIED CARD OF 'baterialaw07.BandAsleep'. -/
def bandAsleepCard : Claim7 := { stood := { row := bandAsleepRow, standIns := [], harness := (true, "fe01ec05f56da0775188e805bb2e3c6250aca9f9ad23cd6dd3bc488253c3c85e"), looks := false }, kinds := [], alts := [], laidByText := true, laidKinds := [.data, .data], laidTests := true, laidLooks := .later }
def BandAsleepCardSaid : Prop := Claim7.holds Tryd.pinned (.plain (OpenSpec.ofChange bandAsleepSpec)) bandAsleepCard

/-- THE TIED CARD OF 'baterialaw07.BandTurn'. -/
def bandTurnCard : Claim7 := { stood := { row := bandTurnRow, standIns := [], harness := (true, "fe01ec05f56da0775188e805bb2e3c6250aca9f9ad23cd6dd3bc488253c3c85e"), looks := false }, kinds := [], alts := [], laidByText := true, laidKinds := [.data, .data], laidTests := true, laidLooks := .later }
def BandTurnCardSaid : Prop := Claim7.holds Tryd.pinned (.plain (OpenSpec.ofChange bandTurnSpec)) bandTurnCard

/-- THE TIED CARD OF 'baterialaw07.BandBest'. -/
def bandBestCard : Claim7 := { stood := { row := bandBestRow, standIns := [], harness := (true, "fe01ec05f56da0775188e805bb2e3c6250aca9f9ad23cd6dd3bc488253c3c85e"), looks := false }, kinds := [], alts := [], laidByText := true, laidKinds := [.data, .data], laidTests := true, laidLooks := .later }
def BandBestCardSaid : Prop := Claim7.holds Tryd.pinned (.plain (OpenSpec.ofChange bandBestSpec)) bandBestCard

/-- THE TIED CARD OF 'baterialaw07.BandNarrow'. -/
def bandNarrowCard : Claim7 := { stood := { row := bandNarrowRow, standIns := [], harness := (true, "fe01ec05f56da0775188e805bb2e3c6250aca9f9ad23cd6dd3bc488253c3c85e"), looks := false }, kinds := [], alts := [], laidByText := true, laidKinds := [.data, .data], laidTests := true, laidLooks := .later }
def BandNarrowCardSaid : Prop := Claim7.holds Tryd.pinned (.plain (OpenSpec.ofChange bandNarrowSpec)) bandNarrowCard

/-- THE SECOND FORM's CARD OF 'baterialaw07.BandChecks'. -/
def bandChecksUptoCard : Claim7 := { stood := { row := bandChecksUptoRow, standIns := [], harness := (true, "fe01ec05f56da0775188e805bb2e3c6250aca9f9ad23cd6dd3bc488253c3c85e"), looks := false }, kinds := [], alts := [], laidByText := true, laidKinds := [.data, .data], laidTests := true, laidLooks := .later }
def BandChecksUptoCardSaid : Prop := Claim7.holds Tryd.pinned (.plain (OpenSpec.upto bandChecksSpec)) bandChecksUptoCard

/-- THE SECOND FORM's CARD OF 'baterialaw07.BandCrosses'. -/
def bandCrossesUptoCard : Claim7 := { stood := { row := bandCrossesUptoRow, standIns := [], harness := (true, "fe01ec05f56da0775188e805bb2e3c6250aca9f9ad23cd6dd3bc488253c3c85e"), looks := false }, kinds := [], alts := [], laidByText := true, laidKinds := [.data, .data], laidTests := true, laidLooks := .later }
def BandCrossesUptoCardSaid : Prop := Claim7.holds Tryd.pinned (.plain (OpenSpec.upto bandCrossesSpec)) bandCrossesUptoCard

/-- THE SECOND FORM's CARD OF 'baterialaw07.BandTrue'. -/
def bandTrueUptoCard : Claim7 := { stood := { row := bandTrueUptoRow, standIns := [], harness := (true, "fe01ec05f56da0775188e805bb2e3c6250aca9f9ad23cd6dd3bc488253c3c85e"), looks := false }, kinds := [], alts := [], laidByText := true, laidKinds := [.data, .data], laidTests := true, laidLooks := .later }
def BandTrueUptoCardSaid : Prop := Claim7.holds Tryd.pinned (.plain (OpenSpec.upto bandTrueSpec)) bandTrueUptoCard

/-- THE SECOND FORM's CARD OF 'baterialaw07.BandMeets'. -/
def bandMeetsUptoCard : Claim7 := { stood := { row := bandMeetsUptoRow, standIns := [], harness := (true, "fe01ec05f56da0775188e805bb2e3c6250aca9f9ad23cd6dd3bc488253c3c85e"), looks := false }, kinds := [], alts := [], laidByText := true, laidKinds := [.data, .data], laidTests := true, laidLooks := .later }
def BandMeetsUptoCardSaid : Prop := Claim7.holds Tryd.pinned (.plain (OpenSpec.upto bandMeetsSpec)) bandMeetsUptoCard

/-- THE SECOND FORM's CARD OF 'baterialaw07.BandNever'. -/
def bandNeverUptoCard : Claim7 := { stood := { row := bandNeverUptoRow, standIns := [], harness := (true, "fe01ec05f56da0775188e805bb2e3c6250aca9f9ad23cd6dd3bc488253c3c85e"), looks := false }, kinds := [], alts := [], laidByText := true, laidKinds := [.data, .data], laidTests := true, laidLooks := .later }
def BandNeverUptoCardSaid : Prop := Claim7.holds Tryd.pinned (.plain (OpenSpec.upto bandNeverSpec)) bandNeverUptoCard

/-- THE SECOND FORM's CARD OF 'baterialaw07.BandAsleep'. -/
def bandAsleepUptoCard : Claim7 := { stood := { row := bandAsleepUptoRow, standIns := [], harness := (true, "fe01ec05f56da0775188e805bb2e3c6250aca9f9ad23cd6dd3bc488253c3c85e"), looks := false }, kinds := [], alts := [], laidByText := true, laidKinds := [.data, .data], laidTests := true, laidLooks := .later }
def BandAsleepUptoCardSaid : Prop := Claim7.holds Tryd.pinned (.plain (OpenSpec.upto bandAsleepSpec)) bandAsleepUptoCard

/-- THE SECOND FORM's CARD OF 'baterialaw07.BandTurn'. -/
def bandTurnUptoCard : Claim7 := { stood := { row := bandTurnUptoRow, standIns := [], harness := (true, "fe01ec05f56da0775188e805bb2e3c6250aca9f9ad23cd6dd3bc488253c3c85e"), looks := false }, kinds := [], alts := [], laidByText := true, laidKinds := [.data, .data], laidTests := true, laidLooks := .later }
def BandTurnUptoCardSaid : Prop := Claim7.holds Tryd.pinned (.plain (OpenSpec.upto bandTurnSpec)) bandTurnUptoCard

/-- THE SECOND FORM's CARD OF 'baterialaw07.BandBest'. -/
def bandBestUptoCard : Claim7 := { stood := { row := bandBestUptoRow, standIns := [], harness := (true, "fe01ec05f56da0775188e805bb2e3c6250aca9f9ad23cd6dd3bc488253c3c85e"), looks := false }, kinds := [], alts := [], laidByText := true, laidKinds := [.data, .data], laidTests := true, laidLooks := .later }
def BandBestUptoCardSaid : Prop := Claim7.holds Tryd.pinned (.plain (OpenSpec.upto bandBestSpec)) bandBestUptoCard

/-- THE SECOND FORM's CARD OF 'baterialaw07.BandNarrow'. -/
def bandNarrowUptoCard : Claim7 := { stood := { row := bandNarrowUptoRow, standIns := [], harness := (true, "fe01ec05f56da0775188e805bb2e3c6250aca9f9ad23cd6dd3bc488253c3c85e"), looks := false }, kinds := [], alts := [], laidByText := true, laidKinds := [.data, .data], laidTests := true, laidLooks := .later }
def BandNarrowUptoCardSaid : Prop := Claim7.holds Tryd.pinned (.plain (OpenSpec.upto bandNarrowSpec)) bandNarrowUptoCard
end Rows
end Go.Proofs.YtkchfjblcfbajaaDoor
