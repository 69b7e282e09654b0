/- BandNarrow is proved, as1 a tied card: for every list of numbers from which a city, up to four bands and narrower starts are made, a verdict on two bands that is sure or never stays so with the narrower starts, and no square's longest sleep is shorter; where math/bits' two tables hold what the program's text lays in them, as1 the card says. No condition beyond those of the statement. Own work. -/
import Derived.Test.YthfpmjnmaifgaaaDoorBwZq5
set_option linter.unusedVariables false
set_option linter.unusedSimpArgs false
namespace Go.Proofs.YthfpmjnmaifgaaaDoor
namespace bandNarrow
theorem proved : Rows.BandNarrowCardSaid:=bandNarrow_card (frame fun zs _ h => bandNarrow_m zs awake_c (by unfold maxLen at h; omega))
end bandNarrow
end Go.Proofs.YthfpmjnmaifgaaaDoor
