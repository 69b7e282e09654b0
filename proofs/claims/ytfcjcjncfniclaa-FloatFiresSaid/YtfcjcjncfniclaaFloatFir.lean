/- FloatFires is proved: for every float, distance and list of numbers the program and the reference answer alike, and the law answers true. No condition beyond those of the statement. Own work. -/
import Derived.Test.YtfcjcjncfniclaaFloatFir4
namespace Go.Proofs.Ytfcjcjncfniclaa
namespace floatFires
theorem proved : Rows.FloatFiresSaid := frame fun x _ ap _ zs _ h => fires_m x ap zs (by unfold maxLen at h; omega)
end floatFires
end Go.Proofs.Ytfcjcjncfniclaa
