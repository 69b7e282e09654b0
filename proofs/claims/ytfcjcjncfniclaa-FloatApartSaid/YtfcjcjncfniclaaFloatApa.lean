/- FloatApart is proved: for every list of numbers, the law answers true. No condition beyond those of the statement. Own work. -/
import Derived.Test.YtfcjcjncfniclaaFloatApa3
namespace Go.Proofs.Ytfcjcjncfniclaa
namespace floatApart
theorem proved : Rows.FloatApartSaid := frame fun zs _ h => apart_m zs (by unfold maxLen at h; omega)
end floatApart
end Go.Proofs.Ytfcjcjncfniclaa
