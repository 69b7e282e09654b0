/- BandAsleep is proved, as a tied card: for every list of numbers from which a city and up to four bands are made, the granted bands leave every square the sleep it is owed, no fewer bands leave less sleep, and the sleep that is answered is the first one of the longest runs of minutes without a band, minute by minute; where math/bits' two tables hold what the program's text lays in them, as the card says. No condition beyond those of the statement. Own work. -/
import Derived.Test.YtkchfjblcfbajaaDoorBsZq6
set_option linter.unusedVariables false
set_option linter.unusedSimpArgs false
namespace Go.Proofs.YtkchfjblcfbajaaDoor
namespace bandAsleep
theorem proved : Rows.BandAsleepCardSaid := bandAsleep_card (frame fun zs _ h => bandAsleep_m zs awake_c (by unfold maxLen at h; omega))
end bandAsleep
end Go.Proofs.YtkchfjblcfbajaaDoor
