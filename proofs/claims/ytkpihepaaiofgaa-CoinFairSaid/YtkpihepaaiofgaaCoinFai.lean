/- CoinFair is proved: for every list of numbers from which tickets, secrets and a holder are made, each ticket wins for one secret of a row, and the law answers true. No condition beyond those of the statement. Own work. -/
import Derived.Test.YtkpihepaaiofgaaCoinFai5
namespace Go.Proofs.Ytkpihepaaiofgaa
namespace coinFair
theorem proved : Rows.CoinFairSaid := frame fun zs _ h => fair_m zs (by unfold maxLen at h; omega)
end coinFair
end Go.Proofs.Ytkpihepaaiofgaa
