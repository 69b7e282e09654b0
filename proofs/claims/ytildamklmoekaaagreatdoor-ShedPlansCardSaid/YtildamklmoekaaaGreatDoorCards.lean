/-
  DERIVED. GIVEN WITH THE SEED: THE CARDS: each row of YtildamklmoekaaaGreatDoorRows.lean that lists a variable, with what it lists TIED to the program's text (the seventh form; the later family's looks); each row that meets fmt, with fmt's text TOLD by the authors' own Lean function (tested against real Go, not proved from fmt's source: count such statements apart). THE CARD IS WHAT COUNTS. Prove the row's statement (the work); the ties are given (YtildamklmoekaaaGreatDoorTie.lean); close each card by the builder's one call (the guide's Derived/Test/ToyasCard.lean, 'card_holds'). Laid BY PROGRAM, IN A SANDBOX (cutbox-door.mjs). By AI agents, Wed Nov 11 2026. No macro, syntax, notation, axiom, sorry.
-/
import Derived.Test.YtildamklmoekaaaGreatDoorRows
import GoSem.ClaimSeven
namespace Go.Proofs.YtildamklmoekaaaGreatDoor
namespace Rows

/-- THE TIED CARD OF 'baterialaw08.ShedPlans'. -/
def shedPlansCard : Claim7 := { stood := { row := shedPlansRow, standIns := [], harness := (true, "b4d0259ef31fba8a91ecd6fd239f98c5d3e206ea6db5e940886e56ec3276b711"), looks := false }, kinds := [], alts := [], laidByText := true, laidKinds := [.data], laidTests := true, laidLooks := .later }
def ShedPlansCardSaid : Prop := Claim7.holds Tryz.pinned (.plain (OpenSpec.ofChange shedPlansSpec)) shedPlansCard

/-- THE SECOND FORM's CARD OF 'baterialaw08.ShedPlans'. -/
def shedPlansUptoCard : Claim7 := { stood := { row := shedPlansUptoRow, standIns := [], harness := (true, "b4d0259ef31fba8a91ecd6fd239f98c5d3e206ea6db5e940886e56ec3276b711"), looks := false }, kinds := [], alts := [], laidByText := true, laidKinds := [.data], laidTests := true, laidLooks := .later }
def ShedPlansUptoCardSaid : Prop := Claim7.holds Tryz.pinned (.plain (OpenSpec.upto shedPlansSpec)) shedPlansUptoCard
end Rows
end Go.Proofs.YtildamklmoekaaaGreatDoor
