/- What the book's contracts want of other texts. -/
import Derived.Test.YtepbflcmghkieaaDoorLists
import Derived.Laws.AppendOwnNone
import Derived.Deep.AppendLies
import Derived.Deep.RegionLaw
namespace Go.Proofs.YtepbflcmghkieaaDoor
open Go.RowKit Go.Lib Go.ChangeShapes
set_option maxRecDepth 100000

abbrev TStr : TypeId := 9
def svals (l : List ByteArray) : List Value := l.map fun s => Value.string s
theorem svals_snoc (l : List ByteArray) (s : ByteArray) : svals l ++ [Value.string s] = svals (l ++ [s]) := by simp [svals]
theorem texts_own {w : World} {base n : Nat} {v : Value} {l : List ByteArray} (h : w.ownsRow base TStr 1 v n (svals l)) (hn : n = l.length) (hw : ∀ s ∈ l, s.size ≤ maxLen) :
    ∃ x c, v = .slice x l.length c ∧ l.length ≤ c ∧ c ≤ maxLen ∧ TextsX w x l := by
  subst hn
  rcases h.2 with ⟨rfl, h0⟩ | ⟨g, cap, cur, rfl, hb, _, hc, hm, _⟩
  · have hl : l = [] := List.eq_nil_of_length_eq_zero h0
    subst hl
    exact ⟨none, 0, rfl, Nat.le_refl _, Nat.zero_le _, fun i hi => absurd hi (Nat.not_lt_zero i)⟩
  · refine ⟨_, cap, rfl, hc, hm, fun i hi => ⟨g, 0, rfl, ?_, hw _ (List.getElem_mem hi)⟩⟩
    have := h.cells (g := g) rfl i (.string l[i]) (by simp [svals, hi])
    rw [show (⟨g, 0, none⟩ : Addr).add i = ⟨g, i, none⟩ from by unfold Addr.add; split <;> simp_all] at this
    rw [Nat.zero_add]
    exact this
theorem infoStrP : (Tryd.prog.info? TStr).map (fun i => (i.zero, i.size, i.bytes)) = some (some (.string ⟨#[]⟩), 1, 16) := by kernel_rfl
theorem drewN_touch' (W : World) (n : Nat) : Touch [] W (W.drewN n) := (Touch.refl _ _).drewN n
theorem own_touch_f {base : Nat} {e : TypeId} {size : Nat} {v : Value} {n : Nat} {xs : List Value} {F : List Nat} {W W' : World} (h : W.ownsRow base e size v n xs) (ht : Touch F W W') (hF : ∀ f ∈ F, f < base) : W'.ownsRow base e size v n xs := by
  refine ⟨h.1, ?_⟩
  rcases h.2 with h2 | ⟨b, cap, cur, hv, hb, hh, r⟩
  · exact .inl h2
  · exact .inr ⟨b, cap, cur, hv, hb, (ht.block b (lt_of_block hh) (fun e => by have := hF b e; omega)).trans hh, r⟩
theorem owns_touch {base : Nat} {e : TypeId} {size : Nat} {v : Value} {n : Nat} {xs : List Value} {W W' : World} (h : W.ownsRow base e size v n xs) (ht : Touch [] W W') : W'.ownsRow base e size v n xs := by
  refine ⟨h.1, ?_⟩
  rcases h.2 with h2 | ⟨b, cap, cur, hv, hb, hh, r⟩
  · exact .inl h2
  · exact .inr ⟨b, cap, cur, hv, hb, (ht.block b (lt_of_block hh) (by simp)).trans hh, r⟩
theorem touch_other {F : List Nat} {w w' : World} (h : Touch F w w') {k : Nat} {o : Obj} (hk : w.heap[k]? = some o) (hF : k ∉ F) : w'.heap[k]? = some o := (h.block k (lt_of_block hk) hF).trans hk
theorem heap_alloc_keep {w : World} {b : Nat} {x : Obj} (h : w.heap[b]? = some x) (o : Obj) : (w.alloc o).heap[b]? = some x := (Below.heap_alloc w o b (lt_of_block h)).trans h
theorem cell_alloc {w : World} {b : Nat} {cs : Array Value} {t : TypeId} {fz : Nat × Nat} (h : w.heap[b]? = some (.cells cs t fz)) (i : Nat) (o : Obj) : (w.alloc o).cell? ⟨b, i, none⟩ = cs[i]? := cell_of (heap_alloc_keep h o) i
theorem cell_one {w : World} {b : Nat} {x : Value} {t : TypeId} {fz : Nat × Nat} (h : w.heap[b]? = some (.cells #[x] t fz)) : w.cell? ⟨b, 0, none⟩ = some x ∧ ∀ o : Obj, (w.alloc o).cell? ⟨b, 0, none⟩ = some x := ⟨cell_of h 0, fun o => cell_alloc h 0 o⟩
theorem cell_three {w : World} {b : Nat} {x y z : Value} {t : TypeId} {fz : Nat × Nat} (h : w.heap[b]? = some (.cells #[x, y, z] t fz)) :
    (w.cell? ⟨b, 0, none⟩ = some x ∧ w.cell? ⟨b, 1, none⟩ = some y ∧ w.cell? ⟨b, 2, none⟩ = some z) ∧
      (∀ o : Obj, (w.alloc o).cell? ⟨b, 0, none⟩ = some x) ∧ (∀ o : Obj, (w.alloc o).cell? ⟨b, 1, none⟩ = some y) ∧ (∀ o : Obj, (w.alloc o).cell? ⟨b, 2, none⟩ = some z) :=
  ⟨⟨cell_of h 0, cell_of h 1, cell_of h 2⟩, fun o => cell_alloc h 0 o, fun o => cell_alloc h 1 o, fun o => cell_alloc h 2 o⟩
theorem own_row {W : World} {base : Nat} {e : TypeId} {size : Nat} {v : Value} {n : Nat} {xs : List Value} (h : W.ownsRow base e size v n xs) : ∀ k, v.ownBlock = some k → base ≤ k := fun k hk => by
  rcases h.2 with ⟨rfl, _⟩ | ⟨b, cap, cur, rfl, hb, _⟩
  · simp [Value.ownBlock] at hk
  · simp [Value.ownBlock] at hk; omega
theorem own_base {base base' : Nat} {e : TypeId} {size : Nat} {v : Value} {n : Nat} {xs : List Value} {W : World} (h : W.ownsRow base e size v n xs) (hb : base' ≤ base) : W.ownsRow base' e size v n xs := by
  refine ⟨h.1, ?_⟩
  rcases h.2 with h2 | ⟨b, cap, cur, hv, hb', r⟩
  · exact .inl h2
  · exact .inr ⟨b, cap, cur, hv, by omega, r⟩
end Go.Proofs.YtepbflcmghkieaaDoor
