/- A region that draws its order, whose operations read and whose callees leave what is read as it is: one walk, over a class of worlds that is given by a name. -/
import Derived.Test.YtmgglmoiepjebaaBase
import Derived.Deep.QuietTactic
import Derived.BigQuiet
import Derived.Lib.Hide
namespace Go.Proofs.Ytmgglmoiepjebaa
open Go.RowKit Go.Lib
set_option maxRecDepth 100000

theorem wp_region_held {P : Program} {ι : Type} (f : ι → World) (c0 : ι) {id : Nat} {Q : Exit → Act → World → Prop} {a : Act} {w : World} {l : List Oper} (hm : P.follows .mixedOrders = true) (hB : Region.lexB .any l.toArray = true) (hC : f c0 = w.drew)
    (h : wpQuiet P l.toArray (fun w' => ∃ c, w' = f c) (fun a' => ∀ w', (∃ c, w' = f c) → Q .normal a' w') l a) : (Code.region id l.toArray true).wp P Q a w :=
  wp_region_quiet (C := fun w' => ∃ c, w' = f c) hm hB ⟨c0, hC.symm⟩ (by simpa using h)
/-- The worlds behind a touch, as a class for wp_region_held. -/
theorem held_class (W : World) : ∃ (ι : Type) (f : ι → World), (∃ θ, f θ = W.drew) ∧ Nonempty ι ∧ Hid (∀ θ, Touch [] W (f θ)) ∧ Hid (∀ w'', Touch [] W w'' → ∃ θ, w'' = f θ) :=
  ⟨{wx // Touch [] W wx}, Subtype.val, ⟨⟨_, (Touch.refl [] W).drewN 1⟩, rfl⟩, ⟨⟨_, Touch.refl [] W⟩⟩, hid fun θ => θ.2, hid fun w'' h => ⟨⟨w'', h⟩, rfl⟩⟩
end Go.Proofs.Ytmgglmoiepjebaa
