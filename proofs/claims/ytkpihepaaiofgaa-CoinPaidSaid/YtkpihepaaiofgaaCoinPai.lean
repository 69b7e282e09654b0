/- CoinPaid is proved: for every list of numbers from which a ledger is made, each coin of a bill comes from a fund that can pay it, no fund gives more than it has, no coin can be moved ahead, and the law answers true. No condition beyond those of the statement. Own work. -/
import Derived.Test.YtkpihepaaiofgaaCoinPai5
namespace Go.Proofs.Ytkpihepaaiofgaa
namespace coinPaid
theorem proved : Rows.CoinPaidSaid := frame fun zs _ h => paid_m zs (by unfold maxLen at h; omega)
end coinPaid
end Go.Proofs.Ytkpihepaaiofgaa
