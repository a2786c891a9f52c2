/- A list of steps as an argument: what its reading tells of the cells. -/
import Derived.Test.YtfmaeaaaiagcbaaDoorLight
import Derived.Deep.Slices
import Derived.OpenShut
namespace Go.Proofs.YtfmaeaaaiagcbaaDoor
open Go.RowKit Go.Lib Go.ChangeShapes Go.WideShapes

theorem trod_four {H : Type} {enc : TypeId × Value → H} {P : Program} {w : World} {base : Nat} {spare : Nat → Bool} {held : Bool} {t : TypeId} {f0 f1 f2 f3 : Field} {fuel : Nat} {cs : List Value} {x : DataW H × List MemPlace}
    (ht : P.underlying t = some (.struct #[f0, f1, f2, f3])) (h : DataW.trod enc P w base spare held fuel t cs = some x) :
    ∃ y0 y1 y2 y3 n, cs.length = P.cellsOf t ∧ DataW.trod enc P w base spare held n f0.type ((cs.drop f0.offset).take (P.cellsOf f0.type)) = some y0 ∧ DataW.trod enc P w base spare held n f1.type ((cs.drop f1.offset).take (P.cellsOf f1.type)) = some y1 ∧
      DataW.trod enc P w base spare held n f2.type ((cs.drop f2.offset).take (P.cellsOf f2.type)) = some y2 ∧ DataW.trod enc P w base spare held n f3.type ((cs.drop f3.offset).take (P.cellsOf f3.type)) = some y3 := by
  obtain ⟨xs, n, _, _, hl, hlen, hf⟩ := DataW.trod_struct ht h
  match xs, hlen with
  | [y0, y1, y2, y3], _ => exact ⟨y0, y1, y2, y3, n, hl, by simpa using hf 0 f0 rfl, by simpa using hf 1 f1 rfl, by simpa using hf 2 f2 rfl, by simpa using hf 3 f3 rfl⟩

theorem cellsOp : Tryd.prog.cellsOf 36 = 4 := by kernel_rfl
theorem cellsInt : Tryd.prog.cellsOf 3 = 1 := by kernel_rfl
theorem cellsU64 : Tryd.prog.cellsOf 34 = 1 := by kernel_rfl
theorem cellsStr : Tryd.prog.cellsOf 9 = 1 := by kernel_rfl

def OpAt (W : World) (b off i : Nat) (o : OpD) : Prop :=
  W.cell? ⟨b, off + i * 4, none⟩ = some (.int .i64 o.kind) ∧ W.cell? ⟨b, off + i * 4 + 1, none⟩ = some (.int .i64 o.n) ∧ W.cell? ⟨b, off + i * 4 + 2, none⟩ = some (.int .u64 o.bits) ∧
    W.cell? ⟨b, off + i * 4 + 3, none⟩ = some (.string o.s) ∧ -9223372036854775808 ≤ o.kind ∧ o.kind ≤ 9223372036854775807 ∧ -9223372036854775808 ≤ o.n ∧ o.n ≤ 9223372036854775807 ∧ o.bits < 18446744073709551616 ∧ o.s.size ≤ 9223372036854775807

theorem op_at {H : Type} {enc : TypeId × Value → H} {W : World} {b off i n : Nat} {cs : List Value} {x : DataW H × List MemPlace} (hc : W.cells? 0 ⟨b, off + i * 4, none⟩ 4 = some cs)
    (h : DataW.trod enc Tryd.prog W 0 (fun _ => true) true n 36 cs = some x) : ∃ o : OpD, OpAt W b off i o := by
  obtain ⟨y0, y1, y2, y3, n', hl, g0, g1, g2, g3⟩ := trod_four Tryd.underlying36 h
  obtain ⟨z0, e0, _, w0⟩ := DataW.trod_int (t := 3) Tryd.underlying3 g0
  obtain ⟨z1, e1, _, w1⟩ := DataW.trod_int (t := 3) Tryd.underlying3 g1
  obtain ⟨z2, e2, _, w2⟩ := DataW.trod_int (t := 34) Tryd.underlying34 g2
  obtain ⟨z3, e3, _, w3⟩ := DataW.trod_string (t := 9) Tryd.underlying9 g3
  obtain ⟨_, hlen, hcell⟩ := World.cells?_some hc
  clear g0 g1 g2 g3 hl h hc
  match cs, hlen with
  | [a0, a1, a2, a3], _ =>
    have e0 : [a0] = [Value.int .i64 z0] := e0
    have e1 : [a1] = [Value.int .i64 z1] := e1
    have e2 : [a2] = [Value.int .u64 z2] := e2
    have e3 : [a3] = [Value.string z3] := e3
    obtain rfl : a0 = _ := List.head_eq_of_cons_eq e0
    obtain rfl : a1 = _ := List.head_eq_of_cons_eq e1
    obtain rfl : a2 = _ := List.head_eq_of_cons_eq e2
    obtain rfl : a3 = _ := List.head_eq_of_cons_eq e3
    have q0 := hcell 0 (by omega); have q1 := hcell 1 (by omega); have q2 := hcell 2 (by omega); have q3 := hcell 3 (by omega)
    clear hcell e0 e1 e2 e3
    obtain ⟨b0, b1⟩ := bounds_i64 w0; obtain ⟨b2, b3⟩ := bounds_i64 w1; obtain ⟨b4, b5⟩ := bounds_u64 w2
    obtain ⟨u, rfl⟩ : ∃ u : Nat, z2 = u := ⟨z2.toNat, by omega⟩
    refine ⟨⟨z0, z1, u, z3⟩, q0, q1, q2, q3, ?_, ?_, ?_, ?_, ?_, ?_⟩
    all_goals (simp only []; first | omega | exact w3)

theorem light_zero (x : Option Addr) (c : Nat) (w : World) :
    Calls Tryd.prog 4 #[.slice x 0 c] w fun e w' => e = .returned (.bool true) ∧ w = w' := by
  go_enter Tryd.func4, Tryd.ntmps4
  go_wp2
  refine wp_loop_rounds 1 ?_
  rw [rounds_succ]
  go_wp2
  go_ret
  exact ⟨rfl, rfl⟩

/-- The slice value v is the list ops of steps. -/
def Steps (W : World) (v : Value) (ops : List OpD) : Prop :=
  (∃ x c, v = .slice x 0 c ∧ ops = []) ∨ ∃ b off cap, v = .slice (some ⟨b, off, none⟩) ops.length cap ∧ ops.length ≤ 9223372036854775807 ∧ ∀ i (h : i < ops.length), OpAt W b off i ops[i]

theorem light_steps (v : Value) (ops : List OpD) (w : World) (h : Steps w v ops) :
    Calls Tryd.prog 4 #[v] w fun e w' => e = .returned (.bool (decide (IsLight ops))) ∧ w = w' := by
  rcases h with ⟨x, c, rfl, rfl⟩ | ⟨b, off, cap, rfl, hl, hc⟩
  · have e : decide (IsLight []) = true := by decide
    rw [e]
    exact light_zero x c w
  · exact light_some b off cap ops _ w rfl hl (fun i hi => (hc i hi).2.2.2.1)

theorem ops_of {H : Type} {enc : TypeId × Value → H} {W : World} {a0 : Option Addr} {len0 cap0 fuel : Nat} {x : DataW H × List MemPlace} {cs : List Value} (hv : cs = [.slice a0 len0 cap0])
    (hf : DataW.trod enc Tryd.prog W 0 (fun _ => true) true fuel 22 cs = some x) : ∃ ops, Steps W (.slice a0 len0 cap0) ops := by
  rcases Deep.open_slice Tryd.underlying22 hf with ⟨hcs, _⟩ | ⟨a, len, cap, m, n, D, Pl, hcs, _, hl, hm, hmm, _, hx⟩
  · rw [hv] at hcs
    simp at hcs
    obtain ⟨rfl, rfl, rfl⟩ := hcs
    exact ⟨[], .inl ⟨_, _, rfl, rfl⟩⟩
  · rw [hv] at hcs
    simp at hcs
    obtain ⟨rfl, rfl, rfl⟩ := hcs
    by_cases h0 : len0 = 0
    · subst h0
      exact ⟨[], .inl ⟨_, _, rfl, rfl⟩⟩
    · rw [cellsOp] at hx
      obtain ⟨b, off, spot⟩ := a
      have hs : spot = none := by
        obtain ⟨cs', h1, h2⟩ := hx 0 (by simp at hmm; omega)
        have hc := (World.cells?_some h1).2.2 0 (by omega)
        have hl4 := (World.cells?_some h1).2.1
        rw [List.getElem?_eq_getElem (by omega)] at hc
        simpa [Addr.add] using World.cell?_spot hc
      subst hs
      have key : ∀ i, i < len0 → ∃ o : OpD, OpAt W b off i o := fun i hi => by
        obtain ⟨cs', h1, h2⟩ := hx i (by simp at hmm; omega)
        rw [show (⟨b, off, none⟩ : Addr).add (i * 4) = ⟨b, off + i * 4, none⟩ from by unfold Addr.add; split <;> simp_all] at h1
        exact op_at h1 h2
      obtain ⟨f, hf⟩ := Deep.choose_lt (p := fun i o => OpAt W b off i o) (fun i hi => key i hi)
      have hml : maxLen = 9223372036854775807 := rfl
      refine ⟨(List.range len0).map f, .inr ⟨b, off, cap0, by simp, by simp; omega, fun i hi => ?_⟩⟩
      have := hf i (by simpa using hi)
      simpa using this
end Go.Proofs.YtfmaeaaaiagcbaaDoor
