/- All entries of a tab. -/
import Derived.Test.YtdjcpdlfapfmkaaGreatBk12
import Derived.RangeFuncCalls
import Derived.LoopNIn
import Derived.LoopIn
namespace Go.Proofs.YtdjcpdlfapfmkaaGreat
open Go.RowKit Go.Lib Go.Shelf
set_option maxRecDepth 100000
attribute [local go_sem] Oper.semAt_some

abbrev TEn : TypeId := 53
abbrev TEns : TypeId := 22
theorem infoEn : (Tryz.prog.info? TEn).map (fun i => (i.zero, i.size, i.bytes)) = some (some (.agg #[.int .i64 0, .int .i64 0, .int .i64 0]), 3, 24) := by kernel_rfl
/-- Entries as cells. -/
def enc3 (e : En) : List Value := [.int .i64 e.1, .int .i64 e.2.1, .int .i64 e.2.2]
def envals : List En → List Value
  | [] => []
  | e :: l => enc3 e ++ envals l
theorem envals_append (l m : List En) : envals (l ++ m) = envals l ++ envals m := by
  induction l with
  | nil => rfl
  | cons e l ih => simp [envals, ih]
theorem envals_len (l : List En) : (envals l).length = l.length * 3 := by
  induction l with
  | nil => rfl
  | cons e l ih => simp [envals, enc3, ih]; omega

theorem Grew.grown {w w' : World} {base : Nat} {e : TypeId} {size : Nat} {v v' : Value} {n m : Nat} {xs news : List Value} (h : Grew w w' base e size v v' n m xs news) : w.grownBy w' v.ownBlock := by
  rcases h.at' with ⟨_, hg, _⟩ | ⟨_, hg⟩
  · exact hg
  · exact ⟨hg.os, hg.tape, hg.output, hg.size, fun k hk _ => hg.block k hk (by simp)⟩
theorem enc3_cell (W : World) (x : En) : ∀ j u, (enc3 x)[j]? = some u → (W.alloc (.cells #[.int .i64 x.1, .int .i64 x.2.1, .int .i64 x.2.2] TEn)).cell? ((⟨W.heap.size, 0, none⟩ : Addr).add j) = some u := by
  intro j u hj
  have hb := heap_alloc_new W (.cells #[.int .i64 x.1, .int .i64 x.2.1, .int .i64 x.2.2] TEn)
  match j, hj with
  | 0, hj => cases hj; exact cell_of hb 0
  | 1, hj => cases hj; exact cell_of hb 1
  | 2, hj => cases hj; exact cell_of hb 2
  | k + 3, hj => simp [enc3] at hj
end Go.Proofs.YtdjcpdlfapfmkaaGreat
