/- BandTrue is proved, as a tied card: for every list of numbers from which a city, a band and a minute are made, whatever its true start is the band is in a square of Where, or away if it may be, each of these may be, and the law answers true; where math/bits' two tables hold what the program's text lays in them, as the card says. No condition beyond those of the statement. Own work. -/
import Derived.Test.YtkchfjblcfbajaaDoorBtZq5
set_option linter.unusedVariables false
set_option linter.unusedSimpArgs false
namespace Go.Proofs.YtkchfjblcfbajaaDoor
namespace bandTrue
theorem proved : Rows.BandTrueCardSaid := bandTrue_card (frame fun zs _ h => bandTrue_m zs awake_c (by unfold maxLen at h; omega))
end bandTrue
end Go.Proofs.YtkchfjblcfbajaaDoor
