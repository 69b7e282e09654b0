/- FloatCarries is proved: for every float, load, place and list of numbers the program and the reference answer alike, and the law answers true. No condition beyond those of the statement. Own work. -/
import Derived.Test.YtdmfnhamipmmnaaFloatCar5
namespace Go.Proofs.Ytdmfnhamipmmnaa
namespace floatCarries
theorem proved : Rows.FloatCarriesSaid := frame fun x _ l q _ zs _ h => carries_m x l q zs (by unfold maxLen at h; omega)
end floatCarries
end Go.Proofs.Ytdmfnhamipmmnaa
