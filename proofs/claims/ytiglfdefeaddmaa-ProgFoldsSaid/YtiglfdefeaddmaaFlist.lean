/- Lists of words that came in, and the laws' 'floats' of them. -/
import Derived.Test.YtiglfdefeaddmaaSum
import Derived.Test.YtiglfdefeaddmaaLists
import Derived.Laws.AppendOwnNone
namespace Go.Proofs.Ytiglfdefeaddmaa
open Go.RowKit Go.Lib Go.ChangeShapes Go.WideShapes

theorem Try.infoFlt : (Try.prog.info? 30).map (fun i => (i.zero, i.size, i.bytes)) = some (some (.float .f64 0), 1, 8) := by kernel_rfl
theorem cellsU64L : Try.prog.cellsOf 23 = 1 := by kernel_rfl

/-- The slice value v is the list l of words. -/
def U64s (W : World) (v : Value) (l : List Nat) : Prop :=
  ∃ (x : Option Addr) (c : Nat), v = .slice x l.length c ∧ l.length ≤ 9223372036854775807 ∧ ∀ i (h : i < l.length), ∃ b off, x = some ⟨b, off, none⟩ ∧ W.cell? ⟨b, off + i, none⟩ = some (.int .u64 (l[i] : Int)) ∧ Wd l[i]
def fvals (l : List Nat) : List Value := l.map fun b => Value.float .f64 b
theorem fvals_snoc (l : List Nat) (b : Nat) : fvals l ++ [Value.float .f64 b] = fvals (l ++ [b]) := by simp [fvals]
theorem fvals_one (l : List Nat) : ∀ u ∈ fvals l, u.oneCell' = true := by
  intro u hu
  simp [fvals] at hu
  obtain ⟨t, _, rfl⟩ := hu
  rfl
/-- A list that is one's own: the numbers of a slice value. -/
theorem flts_own {w : World} {base n : Nat} {v : Value} {l : List Nat} (h : w.ownsRow base 30 1 v n (fvals l)) (hn : n = l.length) (hw : ∀ x ∈ l, Wd x) :
    ∃ x c, v = .slice x l.length c ∧ l.length ≤ c ∧ c ≤ maxLen ∧ Flts w x l ∧ (x = none → l = [] ∧ c = 0) := by
  subst hn
  rcases h.2 with ⟨rfl, h0⟩ | ⟨g, cap, cur, rfl, hb, _, hc, hm, _⟩
  · have hl : l = [] := List.eq_nil_of_length_eq_zero h0
    subst hl
    exact ⟨none, 0, rfl, Nat.le_refl _, Nat.zero_le _, fun i hi => absurd hi (Nat.not_lt_zero i), fun _ => ⟨rfl, rfl⟩⟩
  · refine ⟨_, cap, rfl, hc, hm, fun i hi => ⟨g, 0, rfl, ?_, hw _ (List.getElem_mem hi)⟩, fun e => by cases e⟩
    have := h.cells (g := g) rfl i (.float .f64 l[i]) (by simp [fvals, hi])
    rw [show (⟨g, 0, none⟩ : Addr).add i = ⟨g, i, none⟩ from by unfold Addr.add; split <;> simp_all] at this
    rw [Nat.zero_add]
    exact this

/-- What 'floats' leaves. -/
def FloatsPost (l : List Nat) (w : World) (e : Ending) (w' : World) : Prop := ∃ v, e = .returned v ∧ w'.ownsRow w.heap.size 30 1 v l.length (fvals l) ∧ Touch [] w w'

end Go.Proofs.Ytiglfdefeaddmaa
