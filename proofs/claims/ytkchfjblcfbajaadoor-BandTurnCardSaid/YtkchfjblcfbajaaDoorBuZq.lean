/- BandTurn is proved, as a tied card: for every list of numbers from which a city and up to five bands are made, Grant answers the first bands of a row as it answers them in the whole row, and grants all of those that it granted when they alone ask; where math/bits' two tables hold what the program's text lays in them, as the card says. No condition beyond those of the statement. Own work. -/
import Derived.Test.YtkchfjblcfbajaaDoorBuZq5
set_option linter.unusedVariables false
set_option linter.unusedSimpArgs false
namespace Go.Proofs.YtkchfjblcfbajaaDoor
namespace bandTurn
theorem proved : Rows.BandTurnCardSaid := bandTurn_card (frame fun zs _ h => bandTurn_m zs awake_c (by unfold maxLen at h; omega))
end bandTurn
end Go.Proofs.YtkchfjblcfbajaaDoor
