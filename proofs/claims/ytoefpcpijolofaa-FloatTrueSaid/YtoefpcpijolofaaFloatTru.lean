/- FloatTrue is proved: for every list of numbers, each truth of the float that is made of it lies within what is said of the float, and what is said of its route agrees with what the truth does; the law answers true. No condition beyond those of the statement. Own work. -/
import Derived.Test.YtoefpcpijolofaaFloatTru6
namespace Go.Proofs.Ytoefpcpijolofaa
namespace floatTrue
theorem proved : Rows.FloatTrueSaid := frame fun zs _ h => true_m zs (by unfold maxLen at h; omega)
end floatTrue
end Go.Proofs.Ytoefpcpijolofaa
