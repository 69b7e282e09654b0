/- BandBest is proved, as a tied card: for every list of numbers from which a city and up to four bands are made, the choice of Best can be granted, no choice that can be granted has more bands, nor as many with more people, nor such ones that come before it, and Grant never grants more; where math/bits' two tables hold what the program's text lays in them, as the card says. No condition beyond those of the statement. Own work. -/
import Derived.Test.YtkchfjblcfbajaaDoorByZq6
set_option linter.unusedVariables false
set_option linter.unusedSimpArgs false
namespace Go.Proofs.YtkchfjblcfbajaaDoor
namespace bandBest
theorem proved : Rows.BandBestCardSaid := bandBest_card (frame fun zs _ h => bandBest_m zs awake_c (by unfold maxLen at h; omega))
end bandBest
end Go.Proofs.YtkchfjblcfbajaaDoor
