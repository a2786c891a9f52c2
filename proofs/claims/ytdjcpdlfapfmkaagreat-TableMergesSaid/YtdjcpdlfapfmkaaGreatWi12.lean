/- The tree of an entry between two sides, further. The tree of an entry between two sides, further. The tree of an entry between two sides, further. The tree of an entry between two sides, further. An entry put into a tree. -/
import Derived.Test.YtdjcpdlfapfmkaaGreatBl12
namespace Go.Proofs.YtdjcpdlfapfmkaaGreat
open Go.RowKit Go.Lib
set_option maxRecDepth 100000

end Go.Proofs.YtdjcpdlfapfmkaaGreat

namespace Go.Proofs.YtdjcpdlfapfmkaaGreat
open Go.RowKit Go.Lib
set_option maxRecDepth 100000

end Go.Proofs.YtdjcpdlfapfmkaaGreat

namespace Go.Proofs.YtdjcpdlfapfmkaaGreat
open Go.RowKit Go.Lib
set_option maxRecDepth 100000

end Go.Proofs.YtdjcpdlfapfmkaaGreat

namespace Go.Proofs.YtdjcpdlfapfmkaaGreat
open Go.RowKit Go.Lib
set_option maxRecDepth 100000

end Go.Proofs.YtdjcpdlfapfmkaaGreat

namespace Go.Proofs.YtdjcpdlfapfmkaaGreat
open Go.RowKit Go.Lib
set_option maxRecDepth 100000

theorem en_ne {x e : En} (h : x ≠ e) (W : World) : (if x.1 = e.1 then
  if x.2.1 = e.2.1 then
    if x.2.2 = e.2.2 then Result.ok (Next.value (Value.bool true)) W
    else Result.ok (Next.value (Value.bool false)) W
  else Result.ok (Next.value (Value.bool false)) W
else Result.ok (Next.value (Value.bool false)) W) = Result.ok (Next.value (Value.bool false)) W := by
  obtain ⟨x1, x2, x3⟩ := x
  obtain ⟨e1, e2, e3⟩ := e
  simp only [ne_eq, Prod.mk.injEq] at h
  dsimp only
  repeat' split
  all_goals first
    | rfl
    | (exfalso; apply h; refine ⟨?_, ?_, ?_⟩ <;> assumption)
end Go.Proofs.YtdjcpdlfapfmkaaGreat
