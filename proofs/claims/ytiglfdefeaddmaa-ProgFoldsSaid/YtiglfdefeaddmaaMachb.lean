/- pop. -/
import Derived.Test.YtiglfdefeaddmaaMach
namespace Go.Proofs.Ytiglfdefeaddmaa
open Go.RowKit Go.Lib

theorem pop_close {E : EnvD} {g gr cap : Nat} {s : List Nat} {x : Nat} {W : World} (hg : W.heap[g]? = some (.cells (E.cells (.slice (some ⟨gr, 0, none⟩) (s.length + 1) cap)) TMach (0, 0))) (hrow : W.ownsRow (g + 1) TFlt 1 (.slice (some ⟨gr, 0, none⟩) (s.length + 1) cap) (s.length + 1) (fvals (x :: s).reverse)) (hw : ∀ y ∈ x :: s, Wd y) :
    Pops E g x s W (.returned (.float .f64 x)) (W.setCell ⟨g, 6, none⟩ (.slice (some ⟨gr, 0, none⟩) s.length cap)) := by
  refine ⟨rfl, ⟨_, heap_set hg _, ?_, fun y hy => hw y (by simp [hy])⟩, (Touch.refl _ _).setCell (.inl (by simp)) _⟩
  rw [List.reverse_cons, ← fvals_snoc] at hrow
  exact ownsRow_setCell_below (ownsRow_pop (by simp [fvals]) hrow) (by show g < g + 1; omega) _
theorem pop_some (E : EnvD) (g : Nat) (s : List Nat) (x : Nat) (W : World) (h : Mach E g (x :: s) W) (hs : s.length ≤ 100000) :
    Calls Try.prog 55 #[.pointer (some ⟨g, 0, none⟩)] W (Pops E g x s W) := by
  obtain ⟨v, hg, hrow, hw⟩ := h
  obtain ⟨gr, cap, hv⟩ : ∃ gr cap, v = .slice (some ⟨gr, 0, none⟩) (s.length + 1) cap := by
    rcases hrow.2 with ⟨_, h0⟩ | ⟨gr, cap, _, rfl, _⟩
    · cases h0
    · exact ⟨gr, cap, rfl⟩
  subst hv
  rw [List.length_cons] at hrow
  have hcap : s.length + 1 ≤ cap ∧ g + 1 ≤ gr := by
    rcases hrow.2 with ⟨h0, _⟩ | ⟨g', cap', cur, hv, hb, _, hc, _⟩
    · cases h0
    · cases hv; exact ⟨hc, hb⟩
  have c6 : W.cell? ⟨g, 6, none⟩ = some (.slice (some ⟨gr, 0, none⟩) (s.length + 1) cap) := cell_of hg 6
  have f6 : W.frozen? ⟨g, 6, none⟩ = false := free_of hg 6
  have cl : W.cell? ⟨gr, s.length, none⟩ = some (.float .f64 x) := by
    have := hrow.cells (g := gr) rfl s.length (.float .f64 x) (by simp [fvals])
    rwa [show (⟨gr, 0, none⟩ : Addr).add s.length = ⟨gr, s.length, none⟩ from by unfold Addr.add; split <;> simp_all] at this
  have hcI : (s.length : Int) + 1 ≤ cap := by omega
  have HG := hid hg
  have HR := hid hrow
  have HW := hid hw
  have HC := hid hcap
  clear hg hrow hw hcap
  go_enter Try.func55, Try.ntmps55
  go_wp2
  go_ret
  exact pop_close HG.out HR.out HW.out

theorem owns_touch {base : Nat} {e : TypeId} {size : Nat} {v : Value} {n : Nat} {xs : List Value} {W W' : World} (h : W.ownsRow base e size v n xs) (ht : Touch [] W W') : W'.ownsRow base e size v n xs := by
  refine ⟨h.1, ?_⟩
  rcases h.2 with h2 | ⟨b, cap, cur, hv, hb, hh, r⟩
  · exact .inl h2
  · exact .inr ⟨b, cap, cur, hv, hb, (ht.block b (lt_of_block hh) (by simp)).trans hh, r⟩
theorem Mach.touch {E : EnvD} {g : Nat} {s : List Nat} {W W' : World} (h : Mach E g s W) (ht : Touch [] W W') : Mach E g s W' := by
  obtain ⟨v, hg, hrow, hw⟩ := h
  exact ⟨v, (ht.block g (lt_of_block hg) (by simp)).trans hg, owns_touch hrow ht, hw⟩
theorem Mach.lt {E : EnvD} {g : Nat} {s : List Nat} {W : World} (h : Mach E g s W) : g < W.heap.size := by
  obtain ⟨v, hg, _⟩ := h
  exact lt_of_block hg
theorem Mach.wd {E : EnvD} {g : Nat} {s : List Nat} {W : World} (h : Mach E g s W) : ∀ x ∈ s, Wd x := h.choose_spec.2.2
theorem below_pop {g : Nat} {W W1 : World} (h : Touch [g] W W1) (hg : g < W.heap.size) : ∀ B, B ≤ g → Below B W W1 := fun B hB => h.below (by omega) (by simpa using hB)
theorem Goes.after {E : EnvD} {g : Nat} {s : List Nat} {W W1 W2 : World} {e : Ending} (h : Goes E g s W1 e W2) (hb : ∀ B, B ≤ g → Below B W W1) : Goes E g s W e W2 :=
  ⟨h.1, h.2.1, fun B hB => (hb B hB).trans (h.2.2 B hB)⟩
/-- What can't be done: it panics with what tells f. -/
def Faults (f : FltD) (g : Nat) (W : World) (e : Ending) (W' : World) : Prop := (∃ v, e = .panicked [{ v := v, recovered := false }] ∧ Tells v f) ∧ ∀ B, B ≤ g → Below B W W'
theorem Faults.after {f : FltD} {g : Nat} {W W1 W2 : World} {e : Ending} (h : Faults f g W1 e W2) (hb : ∀ B, B ≤ g → Below B W W1) : Faults f g W e W2 :=
  ⟨h.1, fun B hB => (hb B hB).trans (h.2 B hB)⟩
abbrev runtimeF : FltD := ⟨21, 1, none8⟩
theorem touch_below {W W' : World} (h : Touch [] W W') : ∀ B, B ≤ W.heap.size → Below B W W' := fun B hB => h.below hB (by simp)
theorem pop_none (E : EnvD) (g : Nat) (W : World) (h : Mach E g [] W) :
    Calls Try.prog 55 #[.pointer (some ⟨g, 0, none⟩)] W (Faults runtimeF g W) := by
  obtain ⟨v, hg, hrow, hw⟩ := h
  obtain ⟨a0, cap, hv, hn⟩ : ∃ a0 cap, v = .slice a0 0 cap ∧ (a0 = none → (0 : Nat) = 0) := by
    rcases hrow.2 with ⟨rfl, h0⟩ | ⟨gr, cap, _, rfl, _⟩
    · exact ⟨_, _, rfl, fun _ => rfl⟩
    · exact ⟨_, _, rfl, fun _ => rfl⟩
  subst hv
  have c6 : W.cell? ⟨g, 6, none⟩ = some (.slice a0 0 cap) := cell_of hg 6
  obtain ⟨vf, wf, hd, ht⟩ := index_dies 53 (by kernel_rfl) a0 0 cap (-1) hn (by omega)
  have HT := hid ht
  have hlt := lt_of_block hg
  clear hg hrow hw hn ht
  go_enter Try.func55, Try.ntmps55
  go_wp2
  exact ⟨rfl, ⟨_, rfl, tells_run run_bounds _⟩, fun B hB => touch_below (HT.out _) B (by omega)⟩
end Go.Proofs.Ytiglfdefeaddmaa
