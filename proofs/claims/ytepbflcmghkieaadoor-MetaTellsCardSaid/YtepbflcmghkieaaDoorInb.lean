/- codec.In: 'Text'; codec.Out: 'Done', 'Len'; codec.Digits. -/
import Derived.Test.YtepbflcmghkieaaDoorIn
import Derived.Test.YtepbflcmghkieaaDoorShelf
namespace Go.Proofs.YtepbflcmghkieaaDoor
open Go.RowKit Go.Lib

/-- Text(most). -/
def iText (st : List UInt8 × Int) (most : Int) : List UInt8 × (List UInt8 × Int) :=
  if (iTake st 4).2.2 = 0 ∧ most < (val (iTake st 4).1 : Int) then ([], ([], 2)) else iTake (iTake st 4).2 (val (iTake st 4).1)

/-! ### Out: Done, Len -/
/-- What Done tells. -/
def pDone (st : List UInt8 × Int) : Value := .tuple #[.string ⟨(if st.2 = 0 then st.1 else []).toArray⟩, .int .i64 st.2]

/-! ### Digits -/
theorem grow_below (w : World) (k : Nat) (os : Array Obj) : Below w.heap.size w (Go.Sort.grow (w.drewN k) os) := by
  have h := (Touch.refl [] w).drewN k
  refine ⟨h.os, h.tape, h.output, ?_, fun j hj => ?_⟩
  · show _ ≤ ((w.drewN k).heap ++ os).size
    rw [drewN_heap]; simp
  · show ((w.drewN k).heap ++ os)[j]? = _
    rw [drewN_heap, Array.getElem?_append_left hj]
theorem digits_any (v : Int) (w : World) (h0 : -9223372036854775808 ≤ v) (h1 : v ≤ 9223372036854775807) (htab : TabIs Tryd.prog w "internal/strconv.uint64pow10" .u64 pow10Tab) :
    Calls Tryd.prog 18 #[.int .i64 v] w fun e w' => e = .returned (.string ⟨(itoa v).toArray⟩) ∧ Touch [] w w' := by
  have C := hid (Tryd.strconv_Itoa v h0 h1 w htab)
  clear h0 h1 htab
  go_enter Tryd.func18, Tryd.ntmps18
  go_wp2_with (go_at_call 29; refine C.out.mono ?_; rintro e w1 ⟨rfl, k, os, rfl⟩)
  go_ret
  exact ⟨rfl, Touch.of_below (grow_below _ _ _)⟩
end Go.Proofs.YtepbflcmghkieaaDoor
