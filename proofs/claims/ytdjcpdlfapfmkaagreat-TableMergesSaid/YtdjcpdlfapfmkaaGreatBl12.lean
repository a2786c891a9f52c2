/- The tree of an entry between two sides of which one may be higher by two. -/
import Derived.Test.YtdjcpdlfapfmkaaGreatMn12
namespace Go.Proofs.YtdjcpdlfapfmkaaGreat
open Go.RowKit Go.Lib
set_option maxRecDepth 100000

theorem EnB.t {w w' : World} {b : Nat} {e : En} (H : EnB w b e) (t : Touch [] w w') : EnB w' b e := touch_other t H (by simp)

end Go.Proofs.YtdjcpdlfapfmkaaGreat
