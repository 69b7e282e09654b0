/-
  DERIVED. GIVEN WITH THE SEED: THE CARDS: each row of YtjjmhjmkdihmnaaGreatDoorRows.lean that lists a variable, with what it lists TIED to the program's text (the seventh form; the later family's looks); each row that meets fmt, with fmt's text TOLD by the authors' own Lean function (tested against real Go, not proved from fmt's source: count such statements apart). THE CARD IS WHAT COUNTS. Prove the row's statement (the work); the ties are given (YtjjmhjmkdihmnaaGreatDoorTie.lean); close each card by the builder's one call (the guide's Derived/Test/ToyasCard.lean, 'card_holds'). Laid BY PROGRAM, IN A SANDBOX (cutbox-door.mjs). By AI agents, Wed Nov 11 2026. No macro, syntax, notation, axiom, sorry.
-/
import Derived.Test.YtjjmhjmkdihmnaaGreatDoorRows
import GoSem.ClaimSeven
namespace Go.Proofs.YtjjmhjmkdihmnaaGreatDoor
namespace Rows

/-- THE TIED CARD OF 'baterialaw08.ShedCarries'. -/
def shedCarriesCard : Claim7 := { stood := { row := shedCarriesRow, standIns := [], harness := (true, "b3fded3a67afa865d36bc59f57d365191d1fc101e0dca674230707b3974d87a0"), looks := false }, kinds := [], alts := [], laidByText := true, laidKinds := [.data], laidTests := true, laidLooks := .later }
def ShedCarriesCardSaid : Prop := Claim7.holds Tryz.pinned (.plain (OpenSpec.ofChange shedCarriesSpec)) shedCarriesCard

/-- THE TIED CARD OF 'baterialaw08.ShedMatch'. -/
def shedMatchCard : Claim7 := { stood := { row := shedMatchRow, standIns := [], harness := (true, "b3fded3a67afa865d36bc59f57d365191d1fc101e0dca674230707b3974d87a0"), looks := false }, kinds := [], alts := [], laidByText := true, laidKinds := [.data], laidTests := true, laidLooks := .later }
def ShedMatchCardSaid : Prop := Claim7.holds Tryz.pinned (.plain (OpenSpec.ofChange shedMatchSpec)) shedMatchCard

/-- THE TIED CARD OF 'baterialaw08.ShedFewest'. -/
def shedFewestCard : Claim7 := { stood := { row := shedFewestRow, standIns := [], harness := (true, "b3fded3a67afa865d36bc59f57d365191d1fc101e0dca674230707b3974d87a0"), looks := false }, kinds := [], alts := [], laidByText := true, laidKinds := [.data], laidTests := true, laidLooks := .later }
def ShedFewestCardSaid : Prop := Claim7.holds Tryz.pinned (.plain (OpenSpec.ofChange shedFewestSpec)) shedFewestCard

/-- THE TIED CARD OF 'baterialaw08.ShedBound'. -/
def shedBoundCard : Claim7 := { stood := { row := shedBoundRow, standIns := [], harness := (true, "b3fded3a67afa865d36bc59f57d365191d1fc101e0dca674230707b3974d87a0"), looks := false }, kinds := [], alts := [], laidByText := true, laidKinds := [.data], laidTests := true, laidLooks := .later }
def ShedBoundCardSaid : Prop := Claim7.holds Tryz.pinned (.plain (OpenSpec.ofChange shedBoundSpec)) shedBoundCard

/-- THE TIED CARD OF 'baterialaw08.ShedEarly'. -/
def shedEarlyCard : Claim7 := { stood := { row := shedEarlyRow, standIns := [], harness := (true, "b3fded3a67afa865d36bc59f57d365191d1fc101e0dca674230707b3974d87a0"), looks := false }, kinds := [], alts := [], laidByText := true, laidKinds := [.data], laidTests := true, laidLooks := .later }
def ShedEarlyCardSaid : Prop := Claim7.holds Tryz.pinned (.plain (OpenSpec.ofChange shedEarlySpec)) shedEarlyCard

/-- THE SECOND FORM's CARD OF 'baterialaw08.ShedCarries'. -/
def shedCarriesUptoCard : Claim7 := { stood := { row := shedCarriesUptoRow, standIns := [], harness := (true, "b3fded3a67afa865d36bc59f57d365191d1fc101e0dca674230707b3974d87a0"), looks := false }, kinds := [], alts := [], laidByText := true, laidKinds := [.data], laidTests := true, laidLooks := .later }
def ShedCarriesUptoCardSaid : Prop := Claim7.holds Tryz.pinned (.plain (OpenSpec.upto shedCarriesSpec)) shedCarriesUptoCard

/-- THE SECOND FORM's CARD OF 'baterialaw08.ShedMatch'. -/
def shedMatchUptoCard : Claim7 := { stood := { row := shedMatchUptoRow, standIns := [], harness := (true, "b3fded3a67afa865d36bc59f57d365191d1fc101e0dca674230707b3974d87a0"), looks := false }, kinds := [], alts := [], laidByText := true, laidKinds := [.data], laidTests := true, laidLooks := .later }
def ShedMatchUptoCardSaid : Prop := Claim7.holds Tryz.pinned (.plain (OpenSpec.upto shedMatchSpec)) shedMatchUptoCard

/-- THE SECOND FORM's CARD OF 'baterialaw08.ShedFewest'. -/
def shedFewestUptoCard : Claim7 := { stood := { row := shedFewestUptoRow, standIns := [], harness := (true, "b3fded3a67afa865d36bc59f57d365191d1fc101e0dca674230707b3974d87a0"), looks := false }, kinds := [], alts := [], laidByText := true, laidKinds := [.data], laidTests := true, laidLooks := .later }
def ShedFewestUptoCardSaid : Prop := Claim7.holds Tryz.pinned (.plain (OpenSpec.upto shedFewestSpec)) shedFewestUptoCard

/-- THE SECOND FORM's CARD OF 'baterialaw08.ShedBound'. -/
def shedBoundUptoCard : Claim7 := { stood := { row := shedBoundUptoRow, standIns := [], harness := (true, "b3fded3a67afa865d36bc59f57d365191d1fc101e0dca674230707b3974d87a0"), looks := false }, kinds := [], alts := [], laidByText := true, laidKinds := [.data], laidTests := true, laidLooks := .later }
def ShedBoundUptoCardSaid : Prop := Claim7.holds Tryz.pinned (.plain (OpenSpec.upto shedBoundSpec)) shedBoundUptoCard

/-- THE SECOND FORM's CARD OF 'baterialaw08.ShedEarly'. -/
def shedEarlyUptoCard : Claim7 := { stood := { row := shedEarlyUptoRow, standIns := [], harness := (true, "b3fded3a67afa865d36bc59f57d365191d1fc101e0dca674230707b3974d87a0"), looks := false }, kinds := [], alts := [], laidByText := true, laidKinds := [.data], laidTests := true, laidLooks := .later }
def ShedEarlyUptoCardSaid : Prop := Claim7.holds Tryz.pinned (.plain (OpenSpec.upto shedEarlySpec)) shedEarlyUptoCard
end Rows
end Go.Proofs.YtjjmhjmkdihmnaaGreatDoor
