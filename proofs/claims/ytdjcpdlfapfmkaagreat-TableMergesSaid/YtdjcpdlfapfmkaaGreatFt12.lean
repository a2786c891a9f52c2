/- Going through a tab: what the iterator promises. -/
import Derived.Test.YtdjcpdlfapfmkaaGreatFs12
namespace Go.Proofs.YtdjcpdlfapfmkaaGreat
open Go.RowKit Go.Lib Go.Shelf
set_option maxRecDepth 100000

end Go.Proofs.YtdjcpdlfapfmkaaGreat
