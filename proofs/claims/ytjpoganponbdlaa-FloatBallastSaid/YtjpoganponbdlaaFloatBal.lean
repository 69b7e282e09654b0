/- FloatBallast is proved: for every list of numbers, the float, the route and the place that are made of it get the ballast that they may bear, and the law answers true. No condition beyond those of the statement. Own work. -/
import Derived.Test.YtjpoganponbdlaaFloatBal5
namespace Go.Proofs.Ytjpoganponbdlaa
namespace floatBallast
theorem proved : Rows.FloatBallastSaid := frame fun zs _ h => ballast_m zs (by unfold maxLen at h; omega)
end floatBallast
end Go.Proofs.Ytjpoganponbdlaa
