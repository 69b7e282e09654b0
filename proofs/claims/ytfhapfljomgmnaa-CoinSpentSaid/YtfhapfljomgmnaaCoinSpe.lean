/- CoinSpent is proved: for every list of numbers from which a ledger is made, each trace takes a number within Spent from a fund, both ends belong to a trace, and the law answers true. No condition beyond those of the statement. Own work. -/
import Derived.Test.YtfhapfljomgmnaaCoinSpe5
namespace Go.Proofs.Ytfhapfljomgmnaa
namespace coinSpent
theorem proved : Rows.CoinSpentSaid := frame fun zs _ h => spent_m zs (by unfold maxLen at h; omega)
end coinSpent
end Go.Proofs.Ytfhapfljomgmnaa
