/- CoinTraced is proved: for every list of numbers from which a ledger is made, an audit finds nothing in the trace of Trace, it is the last one of all traces, and there is one just if Trace finds one; the law answers true. No condition beyond those of the statement. Own work. -/
import Derived.Test.YtfhapfljomgmnaaCoinTra6
set_option linter.unusedVariables false
set_option linter.unusedSimpArgs false
namespace Go.Proofs.Ytfhapfljomgmnaa
namespace coinTraced
theorem proved : Rows.CoinTracedSaid := frame fun zs _ h => traced_m zs (by unfold maxLen at h; omega)
end coinTraced
end Go.Proofs.Ytfhapfljomgmnaa
