/- EventTells, walked: where it asks nothing. -/
import Derived.Test.YtcihnfgfficmlaaAlive7
import Derived.Test.YtcihnfgfficmlaaArg7
import Derived.Deep.AppendLies
import Derived.Laws.AppendOwnNone
namespace Go.Proofs.Ytcihnfgfficmlaa
open Go.RowKit Go.Lib
set_option maxRecDepth 100000

theorem evX_rowT {W : World} {g : Nat} {cur : Array Value} {l : List EvD} (hh : W.heap[g]? = some (.cells cur tEv (0, 0))) (ht : cur.toList.take (l.length * 4) = evCells l) (hok : ∀ e ∈ l, e.Ok) : EvX W (some ⟨g, 0, none⟩) l := by
  intro i hi
  refine ⟨g, 0, rfl, ?_, hok _ (List.getElem_mem hi)⟩
  have hc : ∀ j, j < l.length * 4 → W.cell? ⟨g, j, none⟩ = (evCells l)[j]? := fun j hj => by
    rw [cell_of hh j, ← ht, List.getElem?_take, if_pos hj]
    simp
  obtain ⟨e0, e1, e2, e3⟩ := evCells_at l i hi
  refine ⟨?_, ?_, ?_, ?_⟩
  · rw [Nat.zero_add, hc _ (by omega)]; exact e0
  · rw [Nat.zero_add, hc _ (by omega)]; exact e1
  · rw [Nat.zero_add, hc _ (by omega)]; exact e2
  · rw [Nat.zero_add, hc _ (by omega)]; exact e3
/-- The row behind which one event more stands. -/
theorem row_more {W : World} {base g cap : Nat} {l : List EvD} (h : W.ownsRow base tEv 4 (.slice (some ⟨g, 0, none⟩) (l.length + 1) cap) (l.length + 1) (evCells l ++ [.int .i64 77, .string ⟨#[]⟩, .string ⟨#[]⟩, .float .f64 0])) :
    ∃ cur, W.heap[g]? = some (.cells cur tEv (0, 0)) ∧ cur.toList.take (l.length * 4) = evCells l ∧ cur[l.length * 4]? = some (.int .i64 77) ∧ base ≤ g := by
  obtain ⟨_, ⟨h0, _⟩ | ⟨g', cap', cur, hv, hg, hh, _, _, _, ht⟩⟩ := h
  · cases h0
  cases hv
  refine ⟨cur, hh, ?_, ?_, hg⟩
  · have h1 := congrArg (List.take (l.length * 4)) ht
    rw [List.take_take, show min (l.length * 4) ((l.length + 1) * 4) = l.length * 4 by omega, List.take_append_of_le_length (by rw [evCells_len]; omega)] at h1
    rw [h1, List.take_of_length_le (by rw [evCells_len]; omega)]
  · have h1 := congrArg (fun q => q[l.length * 4]?) ht
    rw [List.getElem?_take, if_pos (by omega), List.getElem?_append_right (by rw [evCells_len]; omega), evCells_len] at h1
    simpa using h1

theorem evs_news {W : World} {ad : Addr} {l : List EvD} (h : EvX W (some ad) l) : ∀ (j : Nat) (u : Value), (evCells l)[j]? = some u → W.cell? (ad.add j) = some u := by
  intro j u hu
  have hj : j < l.length * 4 := by
    rcases Nat.lt_or_ge j (evCells l).length with h | h
    · rw [evCells_len] at h; exact h
    · rw [List.getElem?_eq_none h] at hu; cases hu
  have hi : j / 4 < l.length := by omega
  obtain ⟨b, off, e, ha, _⟩ := h (j / 4) hi
  cases e
  rw [show (⟨b, off, none⟩ : Addr).add j = ⟨b, off + j, none⟩ from by unfold Addr.add; split <;> simp_all]
  obtain ⟨e0, e1, e2, e3⟩ := evCells_at l (j / 4) hi
  have hr : j % 4 = 0 ∨ j % 4 = 1 ∨ j % 4 = 2 ∨ j % 4 = 3 := by omega
  rcases hr with hr | hr | hr | hr
  · have e : j = j / 4 * 4 := by omega
    rw [e] at hu ⊢

    rw [e0] at hu
    rw [← hu]
    exact ha.c0
  · have e : j = j / 4 * 4 + 1 := by omega
    rw [e] at hu ⊢
    rw [e1] at hu
    rw [← hu]
    exact ha.c1
  · have e : j = j / 4 * 4 + 2 := by omega
    rw [e] at hu ⊢
    rw [e2] at hu
    rw [← hu]
    exact ha.c2
  · have e : j = j / 4 * 4 + 3 := by omega
    rw [e] at hu ⊢
    rw [e3] at hu
    rw [← hu]
    exact ha.c3
theorem evCells_one (l : List EvD) : ∀ u ∈ evCells l, u.oneCell' = true := by
  intro u hu
  obtain ⟨e, _, he⟩ := List.mem_flatMap.1 hu
  simp at he
  rcases he with rfl | rfl | rfl | rfl <;> rfl

/-- The append of a slice of events to nothing, at a step of a region that draws. -/
theorem step_append_first {w : World} {ops : Array Oper} {o : Oper} {a : Act} {K : Act → World → Prop} {Q : Exit → Act → World → Prop} {E : Prop} (hgd : o.guard = none) (s xo : Operand)
    (ho : o.op = .call { callee := .builtin .append, args := #[s, xo], argTypes := #[22, 22] }) (i : TypeInfo) (z : Value) (hi : Try.prog.info? tEv = some i) (hz : i.zero = some z)
    (hsize : i.size = 4) (hby : i.bytes = 48) (hzs : z.cells.size = 4) (x : Option Addr) (l : List EvD) (cx : Nat) (hs : a.eval s = .slice none 0 0) (hx : a.eval xo = .slice x l.length cx) (hev : EvX w x l) (hnil : x = none → cx = 0 ∧ l = [])
    (hl : l.length ≤ 12) (base : Nat) (hbase : base ≤ w.heap.size) (h : ∀ v' w', w'.ownsRow base tEv 4 v' l.length (evCells l) → Touch [] w w' → K (a.put o.dst v') w') :
    if Region.wanted o (yielded ops a.tmps) = true then Oper.wp Try.prog o a w K Q else E := by
  rw [if_pos (by simp [Region.wanted, hgd])]
  cases x with
  | none =>
    obtain ⟨rfl, rfl⟩ := hnil rfl
    have hr := run_append_owned_none (P := Try.prog) (w := w) base 22 o.type tEv i 4 Try.underlying22 hi (.slice none 0 0) 0 [] ⟨rfl, .inl ⟨rfl, rfl⟩⟩
    unfold Oper.wp execOp
    rw [List.length_nil] at hx
    simp only [ho, resolve, invoke, builtin, Sem.run_bind, Sem.run_pure, Result.andThen_ok, List.map_toArray, List.map_cons, List.map_nil, hs, hx, hr]
    exact h _ _ ⟨rfl, .inl ⟨rfl, rfl⟩⟩ (Touch.refl _ _)
  | some ad =>
    refine wp_append_own w s xo 22 ho base tEv i z 4 48 Try.underlying22 hi hz hsize hby hzs (by decide) (.slice none 0 0) 0 [] hs ⟨rfl, .inl ⟨rfl, rfl⟩⟩ ad l.length cx (evCells l) hx (evCells_len l) (evs_news hev) (evCells_one l) (by unfold maxLen; omega) (by omega) hbase ?_
    intro v' w' h1 h2 _
    rw [Nat.zero_add, List.nil_append] at h1
    exact h v' w' h1 ((Touch.refl [] w).grown h2 (fun b hb => by cases hb))

set_option maxHeartbeats 4000000 in
theorem tells_early (c : CmdD) (x : Option Addr) (cx : Nat) (okc : c.Ok) (d : CmdD) (y : Option Addr) (dx : Nat) (okd : d.Ok) (b : ByteArray) (w : World) (hc : EvX w x c.evs) (hd : EvX w y d.evs)
    (h : smallC c = false ∨ (smallC c = true ∧ smallC d = false) ∨ (smallC c = true ∧ smallC d = true ∧ (4000 : Int) < b.size)) :
    Calls Try.prog 3 #[c.agg x cx, d.agg y dx, .string b] w fun e w' => e = .returned (.bool true) ∧ Touch [] w w' := by
  have CA := hid alive_true
  have SC := hid (fun w' (t : Touch [] w w') => small_any c x cx w' (hc.touch t) okc.l)
  have SD := hid (fun w' (t : Touch [] w w') => small_any d y dx w' (hd.touch t) okd.l)
  clear hc hd okc okd
  unfold CmdD.agg at *
  generalize smallC c = mc at *
  generalize smallC d = md at *
  obtain ⟨W2, hW2⟩ : ∃ W2, W2 = (w.alloc (.cells #[.int .i64 c.kind, .int .i64 c.time, .string c.stream, .int .i64 c.exp, .slice x c.evs.length cx, .int .i64 c.cnt, .int .i64 c.age, .int .i64 c.bef] tCmd)).alloc (.cells #[.int .i64 d.kind, .int .i64 d.time, .string d.stream, .int .i64 d.exp, .slice y d.evs.length dx, .int .i64 d.cnt, .int .i64 d.age, .int .i64 d.bef] tCmd) := ⟨_, rfl⟩
  have Tw : Hid (Touch [] w W2) := by rw [hW2]; exact hid (((Touch.refl [] w).alloc _).alloc _)
  have BA : Hid (W2.heap[w.heap.size]? = some (.cells #[.int .i64 c.kind, .int .i64 c.time, .string c.stream, .int .i64 c.exp, .slice x c.evs.length cx, .int .i64 c.cnt, .int .i64 c.age, .int .i64 c.bef] tCmd (0, 0))) := by rw [hW2]; exact hid (touch_blk0 ((Touch.refl [] _).alloc _) (heap_alloc_new w _))
  have BB : Hid (W2.heap[w.heap.size + 1]? = some (.cells #[.int .i64 d.kind, .int .i64 d.time, .string d.stream, .int .i64 d.exp, .slice y d.evs.length dx, .int .i64 d.cnt, .int .i64 d.age, .int .i64 d.bef] tCmd (0, 0))) := by
    have h := heap_alloc_new (w.alloc (.cells #[.int .i64 c.kind, .int .i64 c.time, .string c.stream, .int .i64 c.exp, .slice x c.evs.length cx, .int .i64 c.cnt, .int .i64 c.age, .int .i64 c.bef] tCmd)) (.cells #[.int .i64 d.kind, .int .i64 d.time, .string d.stream, .int .i64 d.exp, .slice y d.evs.length dx, .int .i64 d.cnt, .int .i64 d.age, .int .i64 d.bef] tCmd)
    rw [show (w.alloc (.cells #[.int .i64 c.kind, .int .i64 c.time, .string c.stream, .int .i64 c.exp, .slice x c.evs.length cx, .int .i64 c.cnt, .int .i64 c.age, .int .i64 c.bef] tCmd)).heap.size = w.heap.size + 1 by simp] at h
    rw [hW2]; exact hid h
  simp only [tCmd] at hW2
  have BA0 := BA; have BB0 := BB
  clear BA BB
  have KA := hid (fun w' (h : Touch [] W2 w') => cells_of (touch_blk0 h BA0.out))
  have KB := hid (fun w' (h : Touch [] W2 w') => cells_of (touch_blk0 h BB0.out))
  have tt : Touch [] W2 W2 := Touch.refl _ _
  rcases h with rfl | ⟨rfl, rfl⟩ | ⟨rfl, rfl, h⟩
  all_goals
    go_enter Try.func3, Try.ntmps3
    go_upto_region 1 with fail
    rw [← hW2]
    clear hW2
    obtain ⟨a0, a1, a2, a3, a4, a5, a6, a7⟩ := KA.out _ tt; obtain ⟨b0, b1, b2, b3, b4, b5, b6, b7⟩ := KB.out _ tt
    go_wp2_with (first
      | (go_at_call 10; with_reducible refine (SC.out _ (Tw.out.trans tt (by simp))).mono ?_; rintro e v1 ⟨rfl, t1⟩; have tt := tt.trans t1 (by simp); clear SC; obtain ⟨a0, a1, a2, a3, a4, a5, a6, a7⟩ := KA.out _ tt; obtain ⟨b0, b1, b2, b3, b4, b5, b6, b7⟩ := KB.out _ tt)
      | (go_at_call 10; with_reducible refine (SD.out _ (Tw.out.trans tt (by simp))).mono ?_; rintro e v2 ⟨rfl, t2⟩; have tt := tt.trans t2 (by simp))
      | (go_at_call 11; refine (CA.out _).mono ?_; rintro e v3 ⟨rfl, t3⟩; have tt := tt.trans t3 (by simp)))
    go_ret
    exact ⟨rfl, Tw.out.trans tt (by simp)⟩
end Go.Proofs.Ytcihnfgfficmlaa
