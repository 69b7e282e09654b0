/- BandMeets is proved, as a tied card: for every list of numbers from which a city and two bands are made, Cross says of the two bands what a count over all their true starts says, minute by minute, and says the same with the two turned; where math/bits' two tables hold what the program's text lays in them, as the card says. No condition beyond those of the statement. Own work. -/
import Derived.Test.YtkchfjblcfbajaaDoorBmZq6
set_option linter.unusedVariables false
set_option linter.unusedSimpArgs false
namespace Go.Proofs.YtkchfjblcfbajaaDoor
namespace bandMeets
theorem proved : Rows.BandMeetsCardSaid := bandMeets_card (frame fun zs _ h => bandMeets_m zs awake_c (by unfold maxLen at h; omega))
end bandMeets
end Go.Proofs.YtkchfjblcfbajaaDoor
