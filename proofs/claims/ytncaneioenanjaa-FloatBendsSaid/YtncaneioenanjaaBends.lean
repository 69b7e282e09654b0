/- FloatBends is proved: for every list of numbers, the float, the bend and the wider bend that are made of it pass as all radii say, and the law answers true. No condition beyond those of the statement. Own work. -/
import Derived.Test.YtncaneioenanjaaEla
import Derived.Test.YtncaneioenanjaaBendsFrame
namespace Go.Proofs.Ytncaneioenanjaa
namespace floatBends
theorem proved : Rows.FloatBendsSaid := frame fun zs _ h => law_m zs (by unfold maxLen at h; omega)
end floatBends
end Go.Proofs.Ytncaneioenanjaa
