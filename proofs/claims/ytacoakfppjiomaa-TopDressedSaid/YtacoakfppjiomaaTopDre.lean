/- TopDressed is proved: for every list of numbers from which a school, starts, persons in wings and true paces are made, a valid plot whose parts are a person's wings leaves nobody in two wings in one second, and time to change from wing to wing; the law answers true. No condition beyond those of the statement. Own work. -/
import Derived.Test.YtacoakfppjiomaaTopDre4
set_option linter.unusedVariables false
set_option linter.unusedSimpArgs false
namespace Go.Proofs.Ytacoakfppjiomaa
namespace topDressed
theorem proved : Rows.TopDressedSaid := frame fun zs _ h => dressed_m zs (by unfold maxLen at h; omega)
end topDressed
end Go.Proofs.Ytacoakfppjiomaa
