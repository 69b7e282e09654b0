/- FloatEnds is proved: for every list of numbers from which a small float and a route are made, the ends of the total, the height and the axles belong to truths, and each verdict is what all truths say. No condition beyond those of the statement. Own work. -/
import Derived.Test.YtodhdfkefkkdnaaZq6
set_option linter.unusedVariables false
set_option linter.unusedSimpArgs false
namespace Go.Proofs.Ytodhdfkefkkdnaa
namespace floatEnds
theorem proved : Rows.FloatEndsSaid := frame fun zs _ h => ends_m zs (by unfold maxLen at h; omega)
end floatEnds
end Go.Proofs.Ytodhdfkefkkdnaa
