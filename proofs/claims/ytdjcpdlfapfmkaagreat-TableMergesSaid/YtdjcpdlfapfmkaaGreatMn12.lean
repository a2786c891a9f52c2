/- A tree's nodes in memory. -/
import Derived.Test.YtdjcpdlfapfmkaaGreatMm12
namespace Go.Proofs.YtdjcpdlfapfmkaaGreat
open Go.RowKit Go.Lib
set_option maxRecDepth 100000

end Go.Proofs.YtdjcpdlfapfmkaaGreat
