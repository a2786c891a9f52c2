/- Metadata and ints that came in. -/
import Derived.Test.YtepbflcmghkieaaDoorWt15
import Derived.Test.YtepbflcmghkieaaDoorLn15
import Derived.OpenShut
namespace Go.Proofs.YtepbflcmghkieaaDoor
open Go.RowKit Go.Lib Go.ChangeShapes Go.WideShapes
set_option maxRecDepth 100000

theorem i64_range {x : Int} (h : (Lit.int .i64 x).wf = true) : -9223372036854775808 ≤ x ∧ x ≤ 9223372036854775807 := by
  have e1 : IntKind.i64.min = -9223372036854775808 := rfl
  have e2 : IntKind.i64.max = 9223372036854775807 := rfl
  simp only [Lit.wf, e1, e2, Bool.and_eq_true, decide_eq_true_eq] at h
  exact h
theorem cellsMeta : Tryd.prog.cellsOf 23 = 3 := by kernel_rfl
theorem meta_cells {H : Type} {enc : TypeId × Value → H} {W : World} {fuel : Nat} {x : DataW H × List MemPlace} {cs : List Value} (hlen : cs.length = 3)
    (hf : DataW.trod enc Tryd.prog W 0 (fun _ => true) true fuel 23 cs = some x) : ∃ e : MetaD, cs = [.int .i64 e.1, .int .i64 e.2.1, .int .i64 e.2.2] ∧ wfM e := by
  obtain ⟨xs, n', _, _, hl, hxs, hg⟩ := DataW.trod_struct Tryd.underlying23 hf
  match xs, hxs with
  | [y0, y1, y2], _ =>
    have k0 := hg 0 _ rfl; have k1 := hg 1 _ rfl; have k2 := hg 2 _ rfl
    obtain ⟨z0, e0, _, w0⟩ := DataW.trod_int (t := 3) Tryd.underlying3 k0
    obtain ⟨z1, e1, _, w1⟩ := DataW.trod_int (t := 3) Tryd.underlying3 k1
    obtain ⟨z2, e2, _, w2⟩ := DataW.trod_int (t := 3) Tryd.underlying3 k2
    clear k0 k1 k2 hg hl hf
    match cs, hlen with
    | [a0, a1, a2], _ =>
      have e0 : [a0] = [Value.int .i64 z0] := e0
      have e1 : [a1] = [Value.int .i64 z1] := e1
      have e2 : [a2] = [Value.int .i64 z2] := e2
      obtain rfl : a0 = _ := List.head_eq_of_cons_eq e0
      obtain rfl : a1 = _ := List.head_eq_of_cons_eq e1
      obtain rfl : a2 = _ := List.head_eq_of_cons_eq e2
      exact ⟨(z0, z1, z2), rfl, i64_range w0, i64_range w1, i64_range w2⟩
theorem meta_of {H : Type} {enc : TypeId × Value → H} {W : World} {base : Nat} {v : Value} {d : DataW H} {p : List MemPlace} (hval : Value.okWide Tryd.prog W .any base 23 v)
    (h : DataW.Trod enc Tryd.prog W 0 (fun _ => true) true 23 v d p) : ∃ e : MetaD, v = metaV e.1 e.2.1 e.2.2 ∧ wfM e := by
  obtain ⟨cs, rfl, hsz⟩ := okWide_struct Tryd.underlying23 hval
  obtain ⟨fuel, hf⟩ := h
  rw [cellsMeta] at hsz
  obtain ⟨l⟩ := cs
  obtain ⟨e, he, hw⟩ := meta_cells (cs := l) (by simpa using hsz) (by simpa [Value.cells] using hf)
  exact ⟨e, by rw [he]; rfl, hw⟩
/-- The slice value v is the list l of ints, each within an int's bounds; a nil one has no room. -/
def IntsW (W : World) (v : Value) (l : List Int) : Prop := ∃ (x : Option Addr) (c : Nat), v = .slice x l.length c ∧ (x = none → c = 0 ∧ l = []) ∧ IntX W x l ∧ l.length ≤ 9223372036854775807 ∧ ∀ i ∈ l, -9223372036854775808 ≤ i ∧ i ≤ 9223372036854775807
theorem intsw_of {H : Type} {enc : TypeId × Value → H} {W : World} {a0 : Option Addr} {len0 cap0 fuel : Nat} {x : DataW H × List MemPlace} {cs : List Value} (hv : cs = [.slice a0 len0 cap0])
    (hf : DataW.trod enc Tryd.prog W 0 (fun _ => true) true fuel 24 cs = some x) : ∃ l, IntsW W (.slice a0 len0 cap0) l := by
  rcases open_ints Tryd.underlying24 Tryd.underlying3 cellsIntL hf with ⟨hcs, _⟩ | ⟨a, len, cap, zs, hcs, _, hl, hm, hz, _, hc, hw⟩
  · rw [hv] at hcs
    simp at hcs
    obtain ⟨rfl, rfl, rfl⟩ := hcs
    exact ⟨[], none, 0, rfl, fun _ => ⟨rfl, rfl⟩, fun i hi => absurd hi (Nat.not_lt_zero i), by simp, by simp⟩
  · rw [hv] at hcs
    simp at hcs
    obtain ⟨rfl, rfl, rfl⟩ := hcs
    have hz2 : len0 ≤ zs.length := by rw [hz]; simp; omega
    have hlen : (zs.take len0).length = len0 := by rw [List.length_take]; omega
    refine ⟨zs.take len0, some a, cap0, by rw [hlen], (fun e => by cases e), fun i hi => ?_, by rw [hlen]; unfold maxLen at hm; omega, fun i hi => ?_⟩
    · rw [hlen] at hi
      obtain ⟨b, off, rfl, h2⟩ := spot_none (hc 0 (by omega)) (hc i (by omega))
      refine ⟨b, off, rfl, ?_⟩
      rw [h2, List.getElem_take, List.getD_eq_getElem?_getD, List.getElem?_eq_getElem (by omega)]
      rfl
    · exact i64_range (hw i (List.mem_of_mem_take hi))
end Go.Proofs.YtepbflcmghkieaaDoor
