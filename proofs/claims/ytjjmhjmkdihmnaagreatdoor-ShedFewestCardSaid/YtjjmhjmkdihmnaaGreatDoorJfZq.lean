/- ShedFewest is proved, as a tied card: for every list of numbers from which a shop is made, its best plan is valid and takes as many days as said, and none of all plans takes fewer, nor as many and comes before it; where the shop's table of skills holds what the program's text lays in it, as the card says. No condition beyond those of the statement. Own work. -/
import Derived.Test.YtjjmhjmkdihmnaaGreatDoorJfZq7
set_option linter.unusedVariables false
set_option linter.unusedSimpArgs false
namespace Go.Proofs.YtjjmhjmkdihmnaaGreatDoor
namespace shedFewest
theorem proved : Rows.ShedFewestCardSaid:=wV (frame fun zs _ h => aAD zs aGf (by unfold maxLen at h; omega) (by unfold maxLen at h; omega))
end shedFewest
end Go.Proofs.YtjjmhjmkdihmnaaGreatDoor
