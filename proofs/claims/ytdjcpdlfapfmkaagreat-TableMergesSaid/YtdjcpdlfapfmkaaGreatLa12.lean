/- The last entry of a hash; how many there are; a new tab. -/
import Derived.Test.YtdjcpdlfapfmkaaGreatFt12
namespace Go.Proofs.YtdjcpdlfapfmkaaGreat
open Go.RowKit Go.Lib
set_option maxRecDepth 100000

def lu : Tr → Int → Option En → Option En
  | .nil, _, acc => acc
  | .node l x r, h, acc => if h < x.1 then lu l h acc else lu r h (some x)
theorem lu_io (t : Tr) (h : Int) : ∀ acc, SortedE t.io → lu t h acc = ((t.io.filter fun e => decide (e.1 ≤ h)).getLast?).or acc := by
  induction t with
  | nil => intro acc _; simp [lu, Tr.io]
  | node l x r hl hr =>
    intro acc hs
    have hp := List.pairwise_append.1 hs
    have hq := List.pairwise_cons.1 hp.2.1
    unfold lu
    have hio : (Tr.node l x r).io = l.io ++ x :: r.io := rfl
    rw [hio, List.filter_append]
    split
    · next hx =>
      have h1 : (x :: r.io).filter (fun e => decide (e.1 ≤ h)) = [] := by
        rw [List.filter_eq_nil_iff]
        intro y hy
        have : x.1 ≤ y.1 := by
          rcases List.mem_cons.1 hy with rfl | hy
          · omega
          · have := hq.1 y hy; unfold ltE at this; omega
        simp; omega
      rw [h1, List.append_nil, hl acc hp.1]
    · next hx =>
      have hx' : x.1 ≤ h := by omega
      rw [hr (some x) hq.2, List.filter_cons, if_pos (by simpa using hx'), List.getLast?_append, List.getLast?_cons]
      cases hg : (r.io.filter fun e => decide (e.1 ≤ h)).getLast? <;> simp [hg]
/-- The last entry of a hash. -/
def lastE (l : List En) (h : Int) : Option En := ((l.filter fun e => decide (e.1 ≤ h)).getLast?).filter fun e => decide (e.1 = h)
/-- What Last tells. -/
def lastV (o : Option En) : Value := .tuple #[enV (o.getD (0, 0, 0)), .bool o.isSome]
theorem en_set {w : World} {x : Nat} {e : En} (h : EnB w x e) (f : En) : EnB (((w.setCell ⟨x, 0, none⟩ (.int .i64 f.1)).setCell ⟨x, 1, none⟩ (.int .i64 f.2.1)).setCell ⟨x, 2, none⟩ (.int .i64 f.2.2)) x f := by
  have h1 := heap_set (i := 0) h (.int .i64 f.1)
  have h2 := heap_set (i := 1) h1 (.int .i64 f.2.1)
  exact heap_set (i := 2) h2 (.int .i64 f.2.2)
end Go.Proofs.YtdjcpdlfapfmkaaGreat
