/- FloatRoutes is proved: for every list of numbers from which a float, a route and another order are made, the hurdles have the same verdicts in any order, and what stops the float is the first one that it does not surely pass. No condition beyond those of the statement. Own work. -/
import Derived.Test.YthfpmjnmaifgaaaZq6
set_option linter.unusedVariables false
set_option linter.unusedSimpArgs false
namespace Go.Proofs.Ythfpmjnmaifgaaa
namespace floatRoutes
theorem proved : Rows.FloatRoutesSaid:=frame fun zs _ h => routes_m zs (by unfold maxLen at h; omega)
end floatRoutes
end Go.Proofs.Ythfpmjnmaifgaaa
