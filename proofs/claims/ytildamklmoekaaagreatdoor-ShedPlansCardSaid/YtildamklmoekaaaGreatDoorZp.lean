/- ShedPlans is proved, as a tied card: Check, Takes and Bound answer for any shop and plan as the reference does, and change nothing; where the shop's table of skills holds what the program's text lays in it, as the card says. No condition beyond those of the statement. Own work. -/
import Derived.Test.YtildamklmoekaaaGreatDoorZp8
set_option linter.unusedVariables false
set_option linter.unusedSimpArgs false
namespace Go.Proofs.YtildamklmoekaaaGreatDoor
namespace shedPlans
theorem proved : Rows.ShedPlansCardSaid:=xX (frame fun s _ plan _ j zs _ h => aBO s plan j zs aGz (by unfold maxLen at h; omega) (by unfold maxLen at h; omega))
end shedPlans
end Go.Proofs.YtildamklmoekaaaGreatDoor
