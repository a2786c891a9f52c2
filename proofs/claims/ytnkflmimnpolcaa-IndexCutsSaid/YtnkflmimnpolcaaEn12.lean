/- Entries, and lists of entries, that came in. -/
import Derived.Test.YtnkflmimnpolcaaSe12
import Derived.Deep.Slices
import Derived.ProofKit
namespace Go.Proofs.Ytnkflmimnpolcaa
open Go.RowKit Go.Lib Go.ChangeShapes Go.WideShapes
set_option maxRecDepth 100000

theorem i64_range {x : Int} (h : (Lit.int .i64 x).wf = true) : -9223372036854775808 ≤ x ∧ x ≤ 9223372036854775807 := by
  have e1 : IntKind.i64.min = -9223372036854775808 := rfl
  have e2 : IntKind.i64.max = 9223372036854775807 := rfl
  simp only [Lit.wf, e1, e2, Bool.and_eq_true, decide_eq_true_eq] at h
  exact h
/-- Numbers that an int holds. -/
def wfE (e : En) : Prop := e.1 ≤ 9223372036854775807 ∧ e.2.1 ≤ 9223372036854775807 ∧ e.2.2 ≤ 9223372036854775807
/-- The slice value v is the list l of entries. -/
def Ents (W : World) (v : Value) (l : List En) : Prop := ∃ (x : Option Addr) (c : Nat), v = .slice x l.length c ∧ l.length ≤ 9223372036854775807 ∧ EntX W x l ∧ ∀ e ∈ l, wfE e
theorem cellsEn : Try.prog.cellsOf 32 = 3 := by kernel_rfl
set_option maxRecDepth 100000 in
theorem en_cells {H : Type} {enc : TypeId × Value → H} {W : World} {fuel : Nat} {x : DataW H × List MemPlace} {cs : List Value} (hlen : cs.length = 3)
    (hf : DataW.trod enc Try.prog W 0 (fun _ => true) true fuel 32 cs = some x) : ∃ e : En, cs = [.int .i64 e.1, .int .i64 e.2.1, .int .i64 e.2.2] ∧ wfE e := by
  obtain ⟨xs, n', _, _, hl, hxs, hg⟩ := DataW.trod_struct Try.underlying32 hf
  match xs, hxs with
  | [y0, y1, y2], _ =>
    have k0 := hg 0 _ rfl; have k1 := hg 1 _ rfl; have k2 := hg 2 _ rfl
    obtain ⟨z0, e0, _, w0⟩ := DataW.trod_int (t := 3) Try.underlying3 k0
    obtain ⟨z1, e1, _, w1⟩ := DataW.trod_int (t := 3) Try.underlying3 k1
    obtain ⟨z2, e2, _, w2⟩ := DataW.trod_int (t := 3) Try.underlying3 k2
    clear k0 k1 k2 hg hl hf
    match cs, hlen with
    | [a0, a1, a2], _ =>
      have e0 : [a0] = [Value.int .i64 z0] := e0
      have e1 : [a1] = [Value.int .i64 z1] := e1
      have e2 : [a2] = [Value.int .i64 z2] := e2
      obtain rfl : a0 = _ := List.head_eq_of_cons_eq e0
      obtain rfl : a1 = _ := List.head_eq_of_cons_eq e1
      obtain rfl : a2 = _ := List.head_eq_of_cons_eq e2
      exact ⟨(z0, z1, z2), rfl, (i64_range w0).2, (i64_range w1).2, (i64_range w2).2⟩
theorem en_of {H : Type} {enc : TypeId × Value → H} {W : World} {base : Nat} {v : Value} {d : DataW H} {p : List MemPlace} (hval : Value.okWide Try.prog W .any base 32 v)
    (h : DataW.Trod enc Try.prog W 0 (fun _ => true) true 32 v d p) : ∃ e : En, v = enV e ∧ wfE e := by
  obtain ⟨cs, rfl, hsz⟩ := okWide_struct Try.underlying32 hval
  obtain ⟨fuel, hf⟩ := h
  rw [cellsEn] at hsz
  obtain ⟨l⟩ := cs
  obtain ⟨e, he, hw⟩ := en_cells (cs := l) (by simpa using hsz) (by simpa [Value.cells] using hf)
  exact ⟨e, by rw [he], hw⟩
set_option maxRecDepth 100000 in
theorem ents_of {H : Type} {enc : TypeId × Value → H} {W : World} {a0 : Option Addr} {len0 cap0 fuel : Nat} {x : DataW H × List MemPlace} {cs : List Value} (hv : cs = [.slice a0 len0 cap0])
    (hf : DataW.trod enc Try.prog W 0 (fun _ => true) true fuel 22 cs = some x) : ∃ js, Ents W (.slice a0 len0 cap0) js := by
  have hml : maxLen = 9223372036854775807 := rfl
  rcases Deep.open_slice Try.underlying22 hf with ⟨hcs, _⟩ | ⟨a, len, cap, m, n, D, Pl, hcs, _, hl, hm, hmm, _, hx⟩
  · rw [hv] at hcs
    simp at hcs
    obtain ⟨rfl, rfl, rfl⟩ := hcs
    exact ⟨[], none, 0, rfl, by simp, fun i hi => absurd hi (Nat.not_lt_zero i), by simp⟩
  · rw [hv] at hcs
    simp at hcs
    obtain ⟨rfl, rfl, rfl⟩ := hcs
    by_cases h0 : len0 = 0
    · subst h0
      exact ⟨[], some a, cap0, rfl, by simp, fun i hi => absurd hi (Nat.not_lt_zero i), by simp⟩
    · rw [cellsEn] at hx
      obtain ⟨b, off, spot⟩ := a
      have hspot : spot = none := by
        obtain ⟨cs', h1, h2⟩ := hx 0 (by simp at hmm; omega)
        have hc := (World.cells?_some h1).2.2 0 (by omega)
        have hl4 := (World.cells?_some h1).2.1
        rw [List.getElem?_eq_getElem (by omega)] at hc
        simpa [Addr.add] using World.cell?_spot hc
      subst hspot
      have key : ∀ i, i < len0 → ∃ e : En, W.cell? ⟨b, off + i * 3, none⟩ = some (.int .i64 e.1) ∧ W.cell? ⟨b, off + i * 3 + 1, none⟩ = some (.int .i64 e.2.1) ∧ W.cell? ⟨b, off + i * 3 + 2, none⟩ = some (.int .i64 e.2.2) ∧ wfE e := fun i hi => by
        obtain ⟨cs', h1, h2⟩ := hx i (by simp at hmm; omega)
        rw [show (⟨b, off, none⟩ : Addr).add (i * 3) = ⟨b, off + i * 3, none⟩ from by unfold Addr.add; split <;> simp_all] at h1
        obtain ⟨_, hlen, hcell⟩ := World.cells?_some h1
        obtain ⟨o, rfl, hw⟩ := en_cells hlen h2
        exact ⟨o, hcell 0 (by omega), hcell 1 (by omega), hcell 2 (by omega), hw⟩
      obtain ⟨f, hf⟩ := Deep.choose_lt (p := fun i (e : En) => W.cell? ⟨b, off + i * 3, none⟩ = some (.int .i64 e.1) ∧ W.cell? ⟨b, off + i * 3 + 1, none⟩ = some (.int .i64 e.2.1) ∧ W.cell? ⟨b, off + i * 3 + 2, none⟩ = some (.int .i64 e.2.2) ∧ wfE e) (fun i hi => key i hi)
      refine ⟨(List.range len0).map f, some ⟨b, off, none⟩, cap0, by simp, by simp; omega, fun i hi => ⟨b, off, rfl, ?_⟩, fun e he => ?_⟩
      · have := hf i (by simpa using hi)
        simpa using ⟨this.1, this.2.1, this.2.2.1⟩
      · obtain ⟨i, hi, rfl⟩ := List.mem_map.1 he
        exact (hf i (by simpa using hi)).2.2.2
end Go.Proofs.Ytnkflmimnpolcaa
