/- FloatNarrows is proved: for every list of numbers, nothing that is said of the float that is made of it is wider when its loads are known better, what is Sure or Never of it and of its route stays, and the law answers true. No condition beyond those of the statement. Own work. -/
import Derived.Test.YtoefpcpijolofaaFloatNar6
namespace Go.Proofs.Ytoefpcpijolofaa
namespace floatNarrows
theorem proved : Rows.FloatNarrowsSaid := frame fun zs _ h => narrows_m zs (by unfold maxLen at h; omega)
end floatNarrows
end Go.Proofs.Ytoefpcpijolofaa
