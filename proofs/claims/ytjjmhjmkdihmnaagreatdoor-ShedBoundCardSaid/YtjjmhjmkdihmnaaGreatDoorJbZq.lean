/- ShedBound is proved, as a tied card: for every list of numbers from which a shop and a plan are made, no valid plan takes fewer days than the best one, and none fewer than the bound, and one worker who can do all needs just the days of all jobs; where the shop's table of skills holds what the program's text lays in it, as the card says. No condition beyond those of the statement. Own work. -/
import Derived.Test.YtjjmhjmkdihmnaaGreatDoorJbZq6
set_option linter.unusedVariables false
set_option linter.unusedSimpArgs false
namespace Go.Proofs.YtjjmhjmkdihmnaaGreatDoor
namespace shedBound
theorem proved : Rows.ShedBoundCardSaid:=wU (frame fun zs _ h => aBp zs aFJ (by unfold maxLen at h; omega) (by unfold maxLen at h; omega))
end shedBound
end Go.Proofs.YtjjmhjmkdihmnaaGreatDoor
