/- Going through a tree: every tree. -/
import Derived.Test.YtdjcpdlfapfmkaaGreatFr12
namespace Go.Proofs.YtdjcpdlfapfmkaaGreat
open Go.RowKit Go.Lib Go.Shelf
set_option maxRecDepth 100000
attribute [local go_sem] Oper.semAt_some

end Go.Proofs.YtdjcpdlfapfmkaaGreat
