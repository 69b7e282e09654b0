/- CoinShort is proved: for every list of numbers from which a ledger is made, the bills of Short are the first of the smallest sets that are more than what could pay them, there are such bills just if there is no trace, and the law answers true. No condition beyond those of the statement. Own work. -/
import Derived.Test.YtkpihepaaiofgaaCoinSho5
namespace Go.Proofs.Ytkpihepaaiofgaa
namespace coinShort
theorem proved : Rows.CoinShortSaid := frame fun zs _ h => short_m zs (by unfold maxLen at h; omega)
end coinShort
end Go.Proofs.Ytkpihepaaiofgaa
