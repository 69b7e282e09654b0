/- FloatBalance is proved: for every list of numbers, both axles of the float that is made of it carry its total, and the float that is turned round carries the same on its axles, the other way round, weighs as much and is as high, and the law answers true. No condition beyond those of the statement. Own work. -/
import Derived.Test.YtoefpcpijolofaaFloatBal5
namespace Go.Proofs.Ytoefpcpijolofaa
namespace floatBalance
theorem proved : Rows.FloatBalanceSaid := frame fun zs _ h => balance_m zs (by unfold maxLen at h; omega)
end floatBalance
end Go.Proofs.Ytoefpcpijolofaa
