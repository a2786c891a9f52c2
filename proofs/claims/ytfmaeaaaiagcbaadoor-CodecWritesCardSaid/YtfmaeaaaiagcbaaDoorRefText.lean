/- What the laws' own reader's Text returns and leaves; their test of the steps. -/
import Derived.Test.YtfmaeaaaiagcbaaDoorRefIn
namespace Go.Proofs.YtfmaeaaaiagcbaaDoor
open Go.RowKit Go.Lib

end Go.Proofs.YtfmaeaaaiagcbaaDoor
