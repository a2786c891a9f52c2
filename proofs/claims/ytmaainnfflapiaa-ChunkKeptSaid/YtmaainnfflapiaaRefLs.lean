/- The laws' own Last. -/
import Derived.Test.YtmaainnfflapiaaRefFs
namespace Go.Proofs.Ytmaainnfflapiaa
open Go.RowKit Go.Lib
set_option maxRecDepth 100000

def LastV (b : ByteArray) : Value := .tuple #[.string (bytesT (lastOf b.data.toList).1), .int .i64 ((lastOf b.data.toList).2.1 : Int), .int .i64 (lastOf b.data.toList).2.2]
end Go.Proofs.Ytmaainnfflapiaa
