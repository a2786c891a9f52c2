/- Lists of numbers: what real.Sum, Least and Most return. -/
import Derived.Test.YtiglfdefeaddmaaRealb
import Derived.Laws.FloatArith
import Derived.Laws.NewFold
namespace Go.Proofs.Ytiglfdefeaddmaa
open Go.RowKit Go.Lib Ieee

/-- The numbers of a slice value's elements, from x on. -/
def Flts (w : World) (x : Option Addr) (l : List Nat) : Prop := ∀ i (h : i < l.length), ∃ b off, x = some ⟨b, off, none⟩ ∧ w.cell? ⟨b, off + i, none⟩ = some (.float .f64 l[i]) ∧ Wd l[i]
theorem Flts.touch {w w' : World} {x : Option Addr} {l : List Nat} (h : Flts w x l) (ht : Touch [] w w') : Flts w' x l := fun i hi => by
  obtain ⟨b, off, h1, h2, h3⟩ := h i hi
  exact ⟨b, off, h1, ht.cell h2, h3⟩

/-- What a sum of two comes to; of what has none the one NaN. -/
def padd (a b : Nat) : Nat := (DD.add a b).getD oneNan
theorem add_nan {a b : Nat} (ha : Wd a) (hb : Wd b) (h : isNan a = true ∨ isNan b = true) : DD.add a b = none := by
  have hr : ∀ x, Wd x → isNan x = true → ∃ s t, DD.read x = .nan s t := fun x hx hn => by
    rw [isNan_iff] at hn
    rw [read_eq x hx.lt, if_neg (by omega), if_neg (by omega)]
    exact ⟨_, _, rfl⟩
  unfold Format.add
  rcases h with h | h
  · obtain ⟨s, t, e⟩ := hr a ha h
    rw [e]
    cases DD.read b <;> rfl
  · obtain ⟨s, t, e⟩ := hr b hb h
    rw [e]
    cases DD.read a <;> rfl
theorem padd_nan {a b : Nat} (ha : Wd a) (hb : Wd b) (h : isNan a = true ∨ isNan b = true) : padd a b = oneNan := by
  unfold padd
  rw [add_nan ha hb h]; rfl
theorem padd_wd (a b : Nat) : Wd (padd a b) := by
  unfold padd
  cases h : DD.add a b with
  | none => exact (by decide : Wd oneNan)
  | some r => exact DD.add_lt h
theorem can_eq_nan {a b : Nat} (h : can a = can b) : isNan a = isNan b := by rw [← can_isNan a, h, can_isNan]
/-- Which NaN it is that is added does not show. -/
theorem padd_can {a b c : Nat} (ha : Wd a) (hb : Wd b) (hc : Wd c) (h : can a = can b) : can (padd a c) = can (padd b c) := by
  have hn := can_eq_nan h
  by_cases h1 : isNan a = true
  · rw [padd_nan ha hc (.inl h1), padd_nan hb hc (.inl (by rw [← hn]; exact h1))]
  · rw [can_num (isNan_false a h1), can_num (by rw [← hn]; exact isNan_false a h1)] at h
    rw [h]

theorem nan_cut (q : Nat) : Wd ((q % 2) * 2 ^ 63 + 0x7ff0000000000000 + 1 + (q / 2) % (2 ^ 52 - 1)) ∧ isNan ((q % 2) * 2 ^ 63 + 0x7ff0000000000000 + 1 + (q / 2) % (2 ^ 52 - 1)) = true := by
  have h2 : (q / 2) % (2 ^ 52 - 1) < 2 ^ 52 - 1 := Nat.mod_lt _ (by decide)
  have h1 : q % 2 < 2 := Nat.mod_lt _ (by decide)
  generalize (q / 2) % (2 ^ 52 - 1) = y at *
  generalize q % 2 = z at *
  unfold Wd
  rw [isNan_iff]
  unfold rung
  constructor <;> omega
theorem run_add (a b : Nat) (w : World) (_ha : Wd a) (_hb : Wd b) : ∃ r w', (∀ t, (binOp .add t (.float .f64 a) (.float .f64 b)).run Try.prog w = .ok (.float .f64 r) w') ∧ Wd r ∧ can r = can (padd a b) ∧ Touch [] w w' := by
  cases h : DD.add a b with
  | some r =>
    refine ⟨r, w, fun t => run_float_arith w .add t .f64 a b r h, DD.add_lt h, ?_, Touch.refl _ _⟩
    unfold padd
    rw [h]; rfl
  | none =>
    have hq := nan_cut (w.tape w.drawn (.nanBits .f64 a b))
    refine ⟨_, w.drew, fun t => ?_, hq.1, ?_, (Touch.refl _ w).drew⟩
    · have h' : FloatKind.f64.format.add a b = none := h
      simp [binOp, Op.floatArith, h', Question.forced, Question.cut]
    · rw [can_nan hq.2]
      unfold padd
      rw [h]; rfl

/-- What Sum tells. -/
def sumOf : List Nat → Nat
  | [] => 0
  | a :: t => can (t.foldl padd a)
theorem fold_take (l : List Nat) (a k : Nat) (h : k < l.length) : (l.take (k + 1)).foldl padd a = padd ((l.take k).foldl padd a) l[k] := by
  rw [List.take_succ_eq_append_getElem h, List.foldl_append]; rfl
theorem fold_wd (l : List Nat) (a : Nat) (ha : Wd a) : Wd (l.foldl padd a) := by
  induction l generalizing a with
  | nil => exact ha
  | cons c t ih => exact ih _ (padd_wd a c)

/-- A list that is built at once. -/
theorem flts_new (w : World) (t : TypeId) (l : List Nat) (h : ∀ x ∈ l, Wd x) : Flts (w.alloc (.cells (l.map fun b => Value.float .f64 b).toArray t)) (some ⟨w.heap.size, 0, none⟩) l := fun i hi => by
  refine ⟨_, _, rfl, ?_, h _ (List.getElem_mem hi)⟩
  rw [Nat.zero_add]
  have h1 : (w.alloc (.cells (l.map fun b => Value.float .f64 b).toArray t)).heap[w.heap.size]? = some (.cells (l.map fun b => Value.float .f64 b).toArray t (0, 0)) := heap_alloc_new w _
  rw [cell_of h1]
  simp [hi]
end Go.Proofs.Ytiglfdefeaddmaa
