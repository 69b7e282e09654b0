/- CoinBalance is proved: for every list of numbers from which a ledger is made, no balance is below 0 if there is a trace, each day changes it by what comes and what is paid on it, and the law answers true. No condition beyond those of the statement. Own work. -/
import Derived.Test.YtkpihepaaiofgaaCoinBal5
namespace Go.Proofs.Ytkpihepaaiofgaa
namespace coinBalance
theorem proved : Rows.CoinBalanceSaid := frame fun zs _ h => balance_m zs (by unfold maxLen at h; omega)
end coinBalance
end Go.Proofs.Ytkpihepaaiofgaa
