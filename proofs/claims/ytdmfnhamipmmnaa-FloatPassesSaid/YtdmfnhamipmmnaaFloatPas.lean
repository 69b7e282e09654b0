/- FloatPasses is proved: for every float, route, hurdle, place and list of numbers the program and the reference answer alike, and the law answers true. No condition beyond those of the statement. Own work. -/
import Derived.Test.YtdmfnhamipmmnaaFloatPas6
namespace Go.Proofs.Ytdmfnhamipmmnaa
namespace floatPasses
theorem proved : Rows.FloatPassesSaid := frame fun x _ rs _ r q _ zs _ h => passes_m x rs r q zs (by unfold maxLen at h; omega)
end floatPasses
end Go.Proofs.Ytdmfnhamipmmnaa
