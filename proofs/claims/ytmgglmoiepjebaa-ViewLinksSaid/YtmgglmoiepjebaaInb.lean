/- codec.In: 'Text'; codec.Out: 'Done', 'Len'; codec.Digits. -/
import Derived.Test.YtmgglmoiepjebaaIn
import Derived.Test.YtmgglmoiepjebaaShelf
namespace Go.Proofs.Ytmgglmoiepjebaa
set_option maxRecDepth 100000
open Go.RowKit Go.Lib

/-- Text(most). -/
def iText (st : List UInt8 × Int) (most : Int) : List UInt8 × (List UInt8 × Int) :=
  if (iTake st 4).2.2 = 0 ∧ most < (val (iTake st 4).1 : Int) then ([], ([], 2)) else iTake (iTake st 4).2 (val (iTake st 4).1)

/-! ### Out: Done, Len -/
/-- What Done tells. -/
def pDone (st : List UInt8 × Int) : Value := .tuple #[.string ⟨(if st.2 = 0 then st.1 else []).toArray⟩, .int .i64 st.2]

end Go.Proofs.Ytmgglmoiepjebaa
