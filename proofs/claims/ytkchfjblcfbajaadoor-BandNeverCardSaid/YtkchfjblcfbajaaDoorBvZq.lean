/- BandNever is proved, as a tied card: for every list of numbers from which a city and up to five bands are made, a band gets the answer 10 just when it crosses one that was granted before it, two that are granted never meet whatever their true starts are, and no granted band is greater than a room on its way; where math/bits' two tables hold what the program's text lays in them, as the card says. No condition beyond those of the statement. Own work. -/
import Derived.Test.YtkchfjblcfbajaaDoorBvZq6
set_option linter.unusedVariables false
set_option linter.unusedSimpArgs false
namespace Go.Proofs.YtkchfjblcfbajaaDoor
namespace bandNever
theorem proved : Rows.BandNeverCardSaid := bandNever_card (frame fun zs _ h => bandNever_m zs awake_c (by unfold maxLen at h; omega))
end bandNever
end Go.Proofs.YtkchfjblcfbajaaDoor
