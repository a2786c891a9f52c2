/- Lists of ints that came in. -/
import Derived.Test.YtnkflmimnpolcaaEn12
import Derived.OpenShut
import Derived.ChangeSlices
import Derived.Deep.Slices
namespace Go.Proofs.Ytnkflmimnpolcaa
set_option maxRecDepth 100000
open Go.RowKit Go.Lib Go.ChangeShapes Go.WideShapes

theorem cellsIntL : Try.prog.cellsOf 3 = 1 := by kernel_rfl
/-- The slice value v is the list l of ints. -/
def Ints (W : World) (v : Value) (l : List Int) : Prop :=
  ∃ (x : Option Addr) (c : Nat), v = .slice x l.length c ∧ l.length ≤ 9223372036854775807 ∧ ∀ i (h : i < l.length), ∃ b off, x = some ⟨b, off, none⟩ ∧ W.cell? ⟨b, off + i, none⟩ = some (.int .i64 l[i])
theorem spot_none {w : World} {a : Addr} {i : Nat} {v v0 : Value} (h0 : w.cell? (a.add 0) = some v0) (h : w.cell? (a.add i) = some v) : ∃ b off, a = ⟨b, off, none⟩ ∧ w.cell? ⟨b, off + i, none⟩ = some v := by
  obtain ⟨b, off, spot⟩ := a
  have hs : spot = none := by simpa [Addr.add] using World.cell?_spot h0
  subst hs
  exact ⟨b, off, rfl, by rw [show (⟨b, off, none⟩ : Addr).add i = ⟨b, off + i, none⟩ from by unfold Addr.add; split <;> simp_all] at h; exact h⟩

theorem ints_of {H : Type} {enc : TypeId × Value → H} {W : World} {a0 : Option Addr} {len0 cap0 fuel : Nat} {x : DataW H × List MemPlace} {cs : List Value} (hv : cs = [.slice a0 len0 cap0])
    (hf : DataW.trod enc Try.prog W 0 (fun _ => true) true fuel 23 cs = some x) : ∃ l, Ints W (.slice a0 len0 cap0) l := by
  rcases open_ints Try.underlying23 Try.underlying3 cellsIntL hf with ⟨hcs, _⟩ | ⟨a, len, cap, zs, hcs, _, hl, hm, hz, _, hc, _⟩
  · rw [hv] at hcs
    simp at hcs
    obtain ⟨rfl, rfl, rfl⟩ := hcs
    exact ⟨[], none, 0, rfl, by simp, fun i hi => absurd hi (Nat.not_lt_zero i)⟩
  · rw [hv] at hcs
    simp at hcs
    obtain ⟨rfl, rfl, rfl⟩ := hcs
    have hz2 : len0 ≤ zs.length := by rw [hz]; simp; omega
    have hlen : (zs.take len0).length = len0 := by rw [List.length_take]; omega
    refine ⟨zs.take len0, some a, cap0, by rw [hlen], by rw [hlen]; unfold maxLen at hm; omega, fun i hi => ?_⟩
    rw [hlen] at hi
    obtain ⟨b, off, rfl, h2⟩ := spot_none (hc 0 (by omega)) (hc i (by omega))
    refine ⟨b, off, rfl, ?_⟩
    rw [h2, List.getElem_take, List.getD_eq_getElem?_getD, List.getElem?_eq_getElem (by omega)]
    rfl
/-- The same, and a nil one has no room. -/
def EntsC (W : World) (v : Value) (l : List En) : Prop := Ents W v l ∧ ∀ n c, v = .slice none n c → c = 0
theorem entsc_of {H : Type} {enc : TypeId × Value → H} {W : World} {a0 : Option Addr} {len0 cap0 fuel : Nat} {x : DataW H × List MemPlace} {cs : List Value} (hv : cs = [.slice a0 len0 cap0])
    (hf : DataW.trod enc Try.prog W 0 (fun _ => true) true fuel 22 cs = some x) : ∃ js, EntsC W (.slice a0 len0 cap0) js := by
  obtain ⟨js, hj⟩ := ents_of hv hf
  refine ⟨js, hj, ?_⟩
  intro n c e
  cases e
  rcases Deep.open_slice Try.underlying22 hf with ⟨hcs, _⟩ | ⟨a, len, cap, m, n, D, Pl, hcs, _⟩
  · rw [hv] at hcs
    simp at hcs
    exact hcs.2
  · rw [hv] at hcs
    simp at hcs
end Go.Proofs.Ytnkflmimnpolcaa
