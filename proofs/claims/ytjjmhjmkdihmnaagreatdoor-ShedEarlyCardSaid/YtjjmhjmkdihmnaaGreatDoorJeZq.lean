/- ShedEarly is proved, as a tied card: for every list of numbers from which a shop is made, no job of its best plan can be begun on an earlier day, by any worker, if all others stay; where the shop's table of skills holds what the program's text lays in it, as the card says. No condition beyond those of the statement. Own work. -/
import Derived.Test.YtjjmhjmkdihmnaaGreatDoorJeZq6
set_option linter.unusedVariables false
set_option linter.unusedSimpArgs false
namespace Go.Proofs.YtjjmhjmkdihmnaaGreatDoor
namespace shedEarly
theorem proved : Rows.ShedEarlyCardSaid:=shedEarly_card (frame fun zs _ h => shedEarly_m zs awake_c (by unfold maxLen at h; omega) (by unfold maxLen at h; omega))
end shedEarly
end Go.Proofs.YtjjmhjmkdihmnaaGreatDoor
