/- Stored events that came in, read. -/
import Derived.Test.YtmgglmoiepjebaaSto16
import Derived.Deep.Slices
import Derived.OpenShut
import Derived.WideShapes
import Derived.ChangeShapes
namespace Go.Proofs.Ytmgglmoiepjebaa
set_option maxRecDepth 100000
open Go.RowKit Go.Lib Go.ChangeShapes Go.WideShapes

theorem trod_flt {H : Type} {enc : TypeId × Value → H} {P : Program} {w : World} {base : Nat} {spare : Nat → Bool} {held : Bool} {t : TypeId} {fuel : Nat} {cs : List Value} {x : DataW H × List MemPlace} {k : FloatKind}
    (ht : P.underlying t = some (.float k)) (h : DataW.trod enc P w base spare held fuel t cs = some x) : ∃ b, cs = [.float k b] ∧ (Lit.float k b).wf = true := by
  cases fuel with
  | zero => simp [DataW.trod] at h
  | succ n =>
    unfold DataW.trod at h
    rw [ht] at h
    split at h <;> simp_all

theorem trod_four {H : Type} {enc : TypeId × Value → H} {P : Program} {w : World} {base : Nat} {spare : Nat → Bool} {held : Bool} {t : TypeId} {f0 f1 f2 f3 : Field} {fuel : Nat} {cs : List Value} {x : DataW H × List MemPlace}
    (ht : P.underlying t = some (.struct #[f0, f1, f2, f3])) (h : DataW.trod enc P w base spare held fuel t cs = some x) :
    ∃ y0 y1 y2 y3 n, cs.length = P.cellsOf t ∧ DataW.trod enc P w base spare held n f0.type ((cs.drop f0.offset).take (P.cellsOf f0.type)) = some y0 ∧ DataW.trod enc P w base spare held n f1.type ((cs.drop f1.offset).take (P.cellsOf f1.type)) = some y1 ∧
      DataW.trod enc P w base spare held n f2.type ((cs.drop f2.offset).take (P.cellsOf f2.type)) = some y2 ∧ DataW.trod enc P w base spare held n f3.type ((cs.drop f3.offset).take (P.cellsOf f3.type)) = some y3 := by
  obtain ⟨xs, n, _, _, hl, hlen, hf⟩ := DataW.trod_struct ht h
  match xs, hlen with
  | [y0, y1, y2, y3], _ => exact ⟨y0, y1, y2, y3, n, hl, by simpa using hf 0 f0 rfl, by simpa using hf 1 f1 rfl, by simpa using hf 2 f2 rfl, by simpa using hf 3 f3 rfl⟩

theorem trod_five {H : Type} {enc : TypeId × Value → H} {P : Program} {w : World} {base : Nat} {spare : Nat → Bool} {held : Bool} {t : TypeId} {f0 f1 f2 f3 f4 : Field} {fuel : Nat} {cs : List Value} {x : DataW H × List MemPlace}
    (ht : P.underlying t = some (.struct #[f0, f1, f2, f3, f4])) (h : DataW.trod enc P w base spare held fuel t cs = some x) :
    ∃ y0 y1 y2 y3 y4 n, cs.length = P.cellsOf t ∧ DataW.trod enc P w base spare held n f0.type ((cs.drop f0.offset).take (P.cellsOf f0.type)) = some y0 ∧ DataW.trod enc P w base spare held n f1.type ((cs.drop f1.offset).take (P.cellsOf f1.type)) = some y1 ∧
      DataW.trod enc P w base spare held n f2.type ((cs.drop f2.offset).take (P.cellsOf f2.type)) = some y2 ∧ DataW.trod enc P w base spare held n f3.type ((cs.drop f3.offset).take (P.cellsOf f3.type)) = some y3 ∧
      DataW.trod enc P w base spare held n f4.type ((cs.drop f4.offset).take (P.cellsOf f4.type)) = some y4 := by
  obtain ⟨xs, n, _, _, hl, hlen, hf⟩ := DataW.trod_struct ht h
  match xs, hlen with
  | [y0, y1, y2, y3, y4], _ => exact ⟨y0, y1, y2, y3, y4, n, hl, by simpa using hf 0 f0 rfl, by simpa using hf 1 f1 rfl, by simpa using hf 2 f2 rfl, by simpa using hf 3 f3 rfl, by simpa using hf 4 f4 rfl⟩

theorem cellsSto : Try.prog.cellsOf 29 = 8 := by kernel_rfl

theorem flt_lt {b : Nat} (h : (Lit.float .f64 b).wf = true) : b < 18446744073709551616 := by
  simp only [Lit.wf, decide_eq_true_eq] at h
  exact h
theorem sto_cells {H : Type} {enc : TypeId × Value → H} {W : World} {n : Nat} {cs : List Value} {x : DataW H × List MemPlace} (hlen : cs.length = 8)
    (h : DataW.trod enc Try.prog W 0 (fun _ => true) true n 29 cs = some x) : ∃ o : StoD, cs = o.list ∧ o.Ok := by
  obtain ⟨y0, y1, y2, y3, y4, n', hl, g0, g1, g2, g3, g4⟩ := trod_five Try.underlying29 h
  obtain ⟨u0, u1, u2, u3, n2, hl2, k0, k1, k2, k3⟩ := trod_four Try.underlying27 g0
  obtain ⟨z0, e0, _, w0⟩ := DataW.trod_int (t := 3) Try.underlying3 k0
  obtain ⟨z1, e1, _, w1⟩ := DataW.trod_string (t := 9) Try.underlying9 k1
  obtain ⟨z2, e2, _, w2⟩ := DataW.trod_string (t := 9) Try.underlying9 k2
  obtain ⟨z3, e3, w3⟩ := trod_flt (t := 25) Try.underlying25 k3
  obtain ⟨z4, e4, _, w4⟩ := DataW.trod_string (t := 9) Try.underlying9 g1
  obtain ⟨z5, e5, _, w5⟩ := DataW.trod_int (t := 3) Try.underlying3 g2
  obtain ⟨z6, e6, _, w6⟩ := DataW.trod_int (t := 3) Try.underlying3 g3
  obtain ⟨z7, e7, _, w7⟩ := DataW.trod_int (t := 3) Try.underlying3 g4
  clear g0 g1 g2 g3 g4 k0 k1 k2 k3 hl hl2 h
  match cs, hlen with
  | [a0, a1, a2, a3, a4, a5, a6, a7], _ =>
    have e0 : [a0] = [Value.int .i64 z0] := e0
    have e1 : [a1] = [Value.string z1] := e1
    have e2 : [a2] = [Value.string z2] := e2
    have e3 : [a3] = [Value.float .f64 z3] := e3
    have e4 : [a4] = [Value.string z4] := e4
    have e5 : [a5] = [Value.int .i64 z5] := e5
    have e6 : [a6] = [Value.int .i64 z6] := e6
    have e7 : [a7] = [Value.int .i64 z7] := e7
    obtain rfl : a0 = _ := List.head_eq_of_cons_eq e0
    obtain rfl : a1 = _ := List.head_eq_of_cons_eq e1
    obtain rfl : a2 = _ := List.head_eq_of_cons_eq e2
    obtain rfl : a3 = _ := List.head_eq_of_cons_eq e3
    obtain rfl : a4 = _ := List.head_eq_of_cons_eq e4
    obtain rfl : a5 = _ := List.head_eq_of_cons_eq e5
    obtain rfl : a6 = _ := List.head_eq_of_cons_eq e6
    obtain rfl : a7 = _ := List.head_eq_of_cons_eq e7
    obtain ⟨b2, b3⟩ := bounds_i64 w5
    obtain ⟨i2, i3⟩ := bounds_i64 w0
    obtain ⟨p2, p3⟩ := bounds_i64 w6
    obtain ⟨m2, m3⟩ := bounds_i64 w7
    exact ⟨⟨z0, z1, z2, z3, z4, z5, z6, z7⟩, rfl, ⟨flt_lt w3, i2, i3, b2, b3, p2, p3, m2, m3, w1, w2, w4⟩⟩
theorem sto_at {H : Type} {enc : TypeId × Value → H} {W : World} {b off i n : Nat} {cs : List Value} {x : DataW H × List MemPlace} (hc : W.cells? 0 ⟨b, off + i * 8, none⟩ 8 = some cs)
    (h : DataW.trod enc Try.prog W 0 (fun _ => true) true n 29 cs = some x) : ∃ o : StoD, StoAt W b off i o ∧ o.Ok := by
  obtain ⟨_, hlen, hcell⟩ := World.cells?_some hc
  obtain ⟨o, rfl, ok⟩ := sto_cells hlen h
  exact ⟨o, ⟨hcell 0 (by omega), hcell 1 (by omega), hcell 2 (by omega), hcell 3 (by omega), hcell 4 (by omega), hcell 5 (by omega), hcell 6 (by omega), hcell 7 (by omega)⟩, ok⟩
theorem sto_of {H : Type} {enc : TypeId × Value → H} {W : World} {base : Nat} {v : Value} {d : DataW H} {p : List MemPlace} (hval : Value.okWide Try.prog W .any base 29 v)
    (h : DataW.Trod enc Try.prog W 0 (fun _ => true) true 29 v d p) : ∃ s : StoD, v = s.val ∧ s.Ok := by
  obtain ⟨cs, rfl, hsz⟩ := okWide_struct Try.underlying29 hval
  obtain ⟨fuel, hf⟩ := h
  rw [cellsSto] at hsz
  obtain ⟨l⟩ := cs
  have hlen : l.length = 8 := by simpa using hsz
  have hf : DataW.trod enc Try.prog W 0 (fun _ => true) true fuel 29 l = some (d, p) := by simpa [Value.cells] using hf
  obtain ⟨o, rfl, ok⟩ := sto_cells hlen hf
  exact ⟨o, rfl, ok⟩
/-- The slice value v is the list l of stored events. -/
def Stos (W : World) (v : Value) (l : List StoD) : Prop :=
  ∃ (x : Option Addr) (c : Nat), v = .slice x l.length c ∧ l.length ≤ c ∧ c ≤ 9223372036854775807 ∧ StoX W x l ∧ (x = none → c = 0 ∧ l = [])
instance : Inhabited StoD := ⟨⟨0, ⟨#[]⟩, ⟨#[]⟩, 0, ⟨#[]⟩, 0, 0, 0⟩⟩

set_option maxRecDepth 100000 in
theorem stos_of {H : Type} {enc : TypeId × Value → H} {W : World} {a0 : Option Addr} {len0 cap0 fuel : Nat} {x : DataW H × List MemPlace} {cs : List Value} (hv : cs = [.slice a0 len0 cap0])
    (hf : DataW.trod enc Try.prog W 0 (fun _ => true) true fuel 22 cs = some x) : ∃ js, Stos W (.slice a0 len0 cap0) js := by
  have hml : maxLen = 9223372036854775807 := rfl
  rcases Deep.open_slice Try.underlying22 hf with ⟨hcs, _⟩ | ⟨a, len, cap, m, n, D, Pl, hcs, _, hl, hm, hmm, _, hx⟩
  · rw [hv] at hcs
    simp at hcs
    obtain ⟨rfl, rfl, rfl⟩ := hcs
    exact ⟨[], none, 0, rfl, by simp, by omega, fun i hi => absurd hi (Nat.not_lt_zero i), fun _ => ⟨rfl, rfl⟩⟩
  · rw [hv] at hcs
    simp at hcs
    obtain ⟨rfl, rfl, rfl⟩ := hcs
    by_cases h0 : len0 = 0
    · subst h0
      exact ⟨[], some a, cap0, rfl, by simp, by omega, fun i hi => absurd hi (Nat.not_lt_zero i), fun e => by cases e⟩
    · rw [cellsSto] at hx
      obtain ⟨b, off, spot⟩ := a
      have hspot : spot = none := by
        obtain ⟨cs', h1, h2⟩ := hx 0 (by simp at hmm; omega)
        have hc := (World.cells?_some h1).2.2 0 (by omega)
        have hl4 := (World.cells?_some h1).2.1
        rw [List.getElem?_eq_getElem (by omega)] at hc
        simpa [Addr.add] using World.cell?_spot hc
      subst hspot
      have key : ∀ i, i < len0 → ∃ o : StoD, StoAt W b off i o ∧ o.Ok := fun i hi => by
        obtain ⟨cs', h1, h2⟩ := hx i (by simp at hmm; omega)
        rw [show (⟨b, off, none⟩ : Addr).add (i * 8) = ⟨b, off + i * 8, none⟩ from by unfold Addr.add; split <;> simp_all] at h1
        exact sto_at h1 h2
      obtain ⟨f, hf⟩ := Deep.choose_lt (p := fun i o => StoAt W b off i o ∧ o.Ok) (fun i hi => key i hi)
      refine ⟨(List.range len0).map f, some ⟨b, off, none⟩, cap0, by simp, by simpa using hl, by omega, fun i hi => ⟨b, off, rfl, ?_⟩, fun e => by cases e⟩
      have := hf i (by simpa using hi)
      simpa using this

end Go.Proofs.Ytmgglmoiepjebaa
