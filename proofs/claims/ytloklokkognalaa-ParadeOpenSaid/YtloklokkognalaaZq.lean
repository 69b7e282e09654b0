/- ParadeOpen is proved: for every list of numbers from which a school of up to 3 wings of few paces, starts and rules are made, what Opens says of a wing is so for all true paces, and no gap that is watched is wider than the one of Widest, which there may be. No condition beyond those of the statement. Own work. -/
import Derived.Test.YtloklokkognalaaZq5
set_option linter.unusedVariables false
set_option linter.unusedSimpArgs false
namespace Go.Proofs.Ytloklokkognalaa
namespace paradeOpen
theorem proved : Rows.ParadeOpenSaid := frame fun zs _ h => open_m zs (by unfold maxLen at h; omega)
end paradeOpen
end Go.Proofs.Ytloklokkognalaa
