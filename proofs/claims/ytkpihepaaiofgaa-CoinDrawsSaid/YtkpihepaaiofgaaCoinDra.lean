/- CoinDraws is proved: for every two lists of numbers, and every list from which others are made, the program's Draw answers as the reference's, changes nothing, and the law answers true. No condition beyond those of the statement. Own work. -/
import Derived.Test.YtkpihepaaiofgaaCoinDra5
namespace Go.Proofs.Ytkpihepaaiofgaa
namespace coinDraws
theorem proved : Rows.CoinDrawsSaid := frame fun x _ _ y _ _ zs _ h => draws_m x y zs (by unfold maxLen at h; omega)
end coinDraws
end Go.Proofs.Ytkpihepaaiofgaa
