/- What is done to a tab: lists of it that came in. -/
import Derived.Test.YtdjcpdlfapfmkaaEn12
namespace Go.Proofs.Ytdjcpdlfapfmkaa
open Go.RowKit Go.Lib Go.ChangeShapes Go.WideShapes
set_option maxRecDepth 100000

/-- Something that is done: 1 add, 2 cut. -/
structure OpT where
  kind : Int
  n : Int
  x : Option Addr
  c : Nat
  l : List En
instance : Inhabited OpT := ⟨⟨0, 0, none, 0, []⟩⟩
/-- Its entries, as they came in. -/
def EnsX (W : World) (x : Option Addr) (c : Nat) (l : List En) : Prop := l.length ≤ 9223372036854775807 ∧ EntX W x l ∧ (x = none → c = 0 ∧ l = [])
def OpTAt (W : World) (b off i : Nat) (o : OpT) : Prop := W.cell? ⟨b, off + i * 3, none⟩ = some (.int .i64 o.kind) ∧ W.cell? ⟨b, off + i * 3 + 1, none⟩ = some (.int .i64 o.n) ∧ W.cell? ⟨b, off + i * 3 + 2, none⟩ = some (.slice o.x o.l.length o.c)
def OpsTX (W : World) (x : Option Addr) (l : List OpT) : Prop := ∀ (i : Nat) (h : i < l.length), ∃ b off, x = some ⟨b, off, none⟩ ∧ OpTAt W b off i (l[i]'h) ∧ EnsX W (l[i]'h).x (l[i]'h).c (l[i]'h).l
def Ops12 (W : World) (v : Value) (l : List OpT) : Prop := ∃ (x : Option Addr) (c : Nat), v = .slice x l.length c ∧ l.length ≤ 9223372036854775807 ∧ OpsTX W x l
theorem cellsOpT : Try.prog.cellsOf 38 = 3 := by kernel_rfl

set_option maxRecDepth 100000 in
theorem ensx_of {H : Type} {enc : TypeId × Value → H} {W : World} {fuel : Nat} {x : DataW H × List MemPlace} {cs : List Value}
    (hf : DataW.trod enc Try.prog W 0 (fun _ => true) true fuel 36 cs = some x) : ∃ y cap l, cs = [.slice y l.length cap] ∧ EnsX W y cap l := by
  have hml : maxLen = 9223372036854775807 := rfl
  rcases Deep.open_slice Try.underlying36 hf with ⟨hcs, _⟩ | ⟨a, len, cap, m, n, D, Pl, hcs, _, hl, hm, hmm, _, hx⟩
  · exact ⟨none, 0, [], hcs, by simp, fun i hi => absurd hi (Nat.not_lt_zero i), fun _ => ⟨rfl, rfl⟩⟩
  · by_cases h0 : len = 0
    · subst h0
      exact ⟨some a, cap, [], hcs, by simp, fun i hi => absurd hi (Nat.not_lt_zero i), fun e => by cases e⟩
    · rw [cellsEn] at hx
      obtain ⟨b, off, spot⟩ := a
      have hspot : spot = none := by
        obtain ⟨cs', h1, h2⟩ := hx 0 (by simp at hmm; omega)
        have hc := (World.cells?_some h1).2.2 0 (by omega)
        have hl4 := (World.cells?_some h1).2.1
        rw [List.getElem?_eq_getElem (by omega)] at hc
        simpa [Addr.add] using World.cell?_spot hc
      subst hspot
      have key : ∀ i, i < len → ∃ e : En, W.cell? ⟨b, off + i * 3, none⟩ = some (.int .i64 e.1) ∧ W.cell? ⟨b, off + i * 3 + 1, none⟩ = some (.int .i64 e.2.1) ∧ W.cell? ⟨b, off + i * 3 + 2, none⟩ = some (.int .i64 e.2.2) := fun i hi => by
        obtain ⟨cs', h1, h2⟩ := hx i (by simp at hmm; omega)
        rw [show (⟨b, off, none⟩ : Addr).add (i * 3) = ⟨b, off + i * 3, none⟩ from by unfold Addr.add; split <;> simp_all] at h1
        obtain ⟨_, hlen, hcell⟩ := World.cells?_some h1
        obtain ⟨o, rfl⟩ := en_cells hlen h2
        exact ⟨o, hcell 0 (by omega), hcell 1 (by omega), hcell 2 (by omega)⟩
      obtain ⟨f, hf⟩ := Deep.choose_lt (p := fun i (e : En) => W.cell? ⟨b, off + i * 3, none⟩ = some (.int .i64 e.1) ∧ W.cell? ⟨b, off + i * 3 + 1, none⟩ = some (.int .i64 e.2.1) ∧ W.cell? ⟨b, off + i * 3 + 2, none⟩ = some (.int .i64 e.2.2)) (fun i hi => key i hi)
      refine ⟨some ⟨b, off, none⟩, cap, (List.range len).map f, by simpa using hcs, by simp; omega, fun i hi => ⟨b, off, rfl, ?_⟩, fun e => by cases e⟩
      have := hf i (by simpa using hi)
      simpa using this
set_option maxRecDepth 100000 in
theorem opt_cells {H : Type} {enc : TypeId × Value → H} {W : World} {fuel : Nat} {x : DataW H × List MemPlace} {cs : List Value} (hlen : cs.length = 3)
    (hf : DataW.trod enc Try.prog W 0 (fun _ => true) true fuel 38 cs = some x) :
    ∃ o : OpT, cs = [.int .i64 o.kind, .int .i64 o.n, .slice o.x o.l.length o.c] ∧ EnsX W o.x o.c o.l := by
  obtain ⟨xs, n', _, _, hl, hxs, hg⟩ := DataW.trod_struct Try.underlying38 hf
  match xs, hxs with
  | [y0, y1, y2], _ =>
    have k0 := hg 0 _ rfl; have k1 := hg 1 _ rfl; have k2 := hg 2 _ rfl
    obtain ⟨z0, e0, _, w0⟩ := DataW.trod_int (t := 3) Try.underlying3 k0
    obtain ⟨z1, e1, _, w1⟩ := DataW.trod_int (t := 3) Try.underlying3 k1
    obtain ⟨ka, kc, ks, e2, kr⟩ := ensx_of k2
    clear k0 k1 k2 hg hl hf
    match cs, hlen with
    | [a0, a1, a2], _ =>
      have e0 : [a0] = [Value.int .i64 z0] := e0
      have e1 : [a1] = [Value.int .i64 z1] := e1
      have e2 : [a2] = [Value.slice ka ks.length kc] := e2
      obtain rfl : a0 = _ := List.head_eq_of_cons_eq e0
      obtain rfl : a1 = _ := List.head_eq_of_cons_eq e1
      obtain rfl : a2 = _ := List.head_eq_of_cons_eq e2
      exact ⟨⟨z0, z1, ka, kc, ks⟩, rfl, kr⟩
set_option maxRecDepth 100000 in
theorem ops12_of {H : Type} {enc : TypeId × Value → H} {W : World} {a0 : Option Addr} {len0 cap0 fuel : Nat} {x : DataW H × List MemPlace} {cs : List Value} (hv : cs = [.slice a0 len0 cap0])
    (hf : DataW.trod enc Try.prog W 0 (fun _ => true) true fuel 22 cs = some x) : ∃ js, Ops12 W (.slice a0 len0 cap0) js := by
  have hml : maxLen = 9223372036854775807 := rfl
  rcases Deep.open_slice Try.underlying22 hf with ⟨hcs, _⟩ | ⟨a, len, cap, m, n, D, Pl, hcs, _, hl, hm, hmm, _, hx⟩
  · rw [hv] at hcs
    simp at hcs
    obtain ⟨rfl, rfl, rfl⟩ := hcs
    exact ⟨[], none, 0, rfl, by simp, fun i hi => absurd hi (Nat.not_lt_zero i)⟩
  · rw [hv] at hcs
    simp at hcs
    obtain ⟨rfl, rfl, rfl⟩ := hcs
    by_cases h0 : len0 = 0
    · subst h0
      exact ⟨[], some a, cap0, rfl, by simp, fun i hi => absurd hi (Nat.not_lt_zero i)⟩
    · rw [cellsOpT] at hx
      obtain ⟨b, off, spot⟩ := a
      have hspot : spot = none := by
        obtain ⟨cs', h1, h2⟩ := hx 0 (by simp at hmm; omega)
        have hc := (World.cells?_some h1).2.2 0 (by omega)
        have hl4 := (World.cells?_some h1).2.1
        rw [List.getElem?_eq_getElem (by omega)] at hc
        simpa [Addr.add] using World.cell?_spot hc
      subst hspot
      have key : ∀ i, i < len0 → ∃ o : OpT, OpTAt W b off i o ∧ EnsX W o.x o.c o.l := fun i hi => by
        obtain ⟨cs', h1, h2⟩ := hx i (by simp at hmm; omega)
        rw [show (⟨b, off, none⟩ : Addr).add (i * 3) = ⟨b, off + i * 3, none⟩ from by unfold Addr.add; split <;> simp_all] at h1
        obtain ⟨_, hlen, hcell⟩ := World.cells?_some h1
        obtain ⟨o, rfl, ok⟩ := opt_cells hlen h2
        exact ⟨o, ⟨hcell 0 (by omega), hcell 1 (by omega), hcell 2 (by omega)⟩, ok⟩
      obtain ⟨f, hf⟩ := Deep.choose_lt (p := fun i o => OpTAt W b off i o ∧ EnsX W o.x o.c o.l) (fun i hi => key i hi)
      refine ⟨(List.range len0).map f, some ⟨b, off, none⟩, cap0, by simp, by simp; omega, fun i hi => ⟨b, off, rfl, ?_⟩⟩
      have := hf i (by simpa using hi)
      simpa using this
theorem OpsTX.t0 {w w' : World} {x : Option Addr} {l : List OpT} (h : OpsTX w x l) (t : Touch [] w w') : OpsTX w' x l := fun i hi => by
  obtain ⟨b, off, e, ⟨g0, g1, g2⟩, h1, h2, h3⟩ := h i hi
  exact ⟨b, off, e, ⟨t.cell g0, t.cell g1, t.cell g2⟩, h1, h2.t0 t, h3⟩
end Go.Proofs.Ytdjcpdlfapfmkaa
