/- Commands, events, stored events that came in as arguments. -/
import Derived.Test.YtcihnfgfficmlaaSmall7
import Derived.WideShapes
import Derived.ChangeShapes
import Derived.Deep.Slices
namespace Go.Proofs.Ytcihnfgfficmlaa
open Go.RowKit Go.Lib Go.ChangeShapes Go.WideShapes

theorem trod_flt {H : Type} {enc : TypeId × Value → H} {P : Program} {w : World} {base : Nat} {spare : Nat → Bool} {held : Bool} {t : TypeId} {fuel : Nat} {cs : List Value} {x : DataW H × List MemPlace} {k : FloatKind}
    (ht : P.underlying t = some (.float k)) (h : DataW.trod enc P w base spare held fuel t cs = some x) : ∃ b, cs = [.float k b] ∧ (Lit.float k b).wf = true := by
  cases fuel with
  | zero => simp [DataW.trod] at h
  | succ n =>
    unfold DataW.trod at h
    rw [ht] at h
    split at h <;> simp_all
theorem flt_lt {b : Nat} (h : (Lit.float .f64 b).wf = true) : b < 18446744073709551616 := by
  simp only [Lit.wf, decide_eq_true_eq] at h
  exact h
theorem bd_i64 {n : Int} (h : (Lit.int .i64 n).wf = true) : -9223372036854775808 ≤ n ∧ n ≤ 9223372036854775807 := bounds_i64 h
theorem cellsEv : Try.prog.cellsOf 32 = 4 := by kernel_rfl
theorem cellsSto7 : Try.prog.cellsOf 44 = 8 := by kernel_rfl
theorem cellsCmd : Try.prog.cellsOf 26 = 8 := by kernel_rfl

set_option maxRecDepth 100000 in
/-- Four cells that can be read as an event are one. -/
theorem ev_cells {H : Type} {enc : TypeId × Value → H} {W : World} {n : Nat} {cs : List Value} {x : DataW H × List MemPlace} (hlen : cs.length = 4)
    (h : DataW.trod enc Try.prog W 0 (fun _ => true) true n 32 cs = some x) : ∃ e : EvD, cs = [.int .i64 e.id, .string e.typ, .string e.data, .float .f64 e.val] ∧ e.Ok := by
  obtain ⟨xs, n', _, _, hl, hxs, hf⟩ := DataW.trod_struct Try.underlying32 h
  match xs, hxs with
  | [y0, y1, y2, y3], _ =>
    have k0 := hf 0 _ rfl; have k1 := hf 1 _ rfl; have k2 := hf 2 _ rfl; have k3 := hf 3 _ rfl
    obtain ⟨z0, e0, _, w0⟩ := DataW.trod_int (t := 3) Try.underlying3 k0
    obtain ⟨z1, e1, _, w1⟩ := DataW.trod_string (t := 9) Try.underlying9 k1
    obtain ⟨z2, e2, _, w2⟩ := DataW.trod_string (t := 9) Try.underlying9 k2
    obtain ⟨z3, e3, w3⟩ := trod_flt (t := 30) Try.underlying30 k3
    clear k0 k1 k2 k3 hf hl h
    match cs, hlen with
    | [a0, a1, a2, a3], _ =>
      have e0 : [a0] = [Value.int .i64 z0] := e0
      have e1 : [a1] = [Value.string z1] := e1
      have e2 : [a2] = [Value.string z2] := e2
      have e3 : [a3] = [Value.float .f64 z3] := e3
      obtain rfl : a0 = _ := List.head_eq_of_cons_eq e0
      obtain rfl : a1 = _ := List.head_eq_of_cons_eq e1
      obtain rfl : a2 = _ := List.head_eq_of_cons_eq e2
      obtain rfl : a3 = _ := List.head_eq_of_cons_eq e3
      exact ⟨⟨z0, z1, z2, z3⟩, rfl, ⟨(bd_i64 w0).1, (bd_i64 w0).2, w1, w2, flt_lt w3⟩⟩

/-- The slice of a command's events. -/
structure Evs (W : World) (x : Option Addr) (cap : Nat) (l : List EvD) : Prop where
  lc : l.length ≤ cap
  cm : cap ≤ 9223372036854775807
  ev : EvX W x l
  nil : x = none → cap = 0 ∧ l = []
instance : Inhabited EvD := ⟨⟨0, ⟨#[]⟩, ⟨#[]⟩, 0⟩⟩
set_option maxRecDepth 100000 in
theorem evs_of {H : Type} {enc : TypeId × Value → H} {W : World} {fuel : Nat} {x : DataW H × List MemPlace} {cs : List Value}
    (hf : DataW.trod enc Try.prog W 0 (fun _ => true) true fuel 22 cs = some x) : ∃ y cap l, cs = [.slice y l.length cap] ∧ Evs W y cap l := by
  have hml : maxLen = 9223372036854775807 := rfl
  rcases Deep.open_slice Try.underlying22 hf with ⟨hcs, _⟩ | ⟨a, len, cap, m, n, D, Pl, hcs, _, hl, hm, hmm, _, hx⟩
  · exact ⟨none, 0, [], hcs, by simp, by omega, fun i hi => absurd hi (Nat.not_lt_zero i), fun _ => ⟨rfl, rfl⟩⟩
  · by_cases h0 : len = 0
    · subst h0
      exact ⟨some a, cap, [], hcs, by simp, by omega, fun i hi => absurd hi (Nat.not_lt_zero i), fun e => by cases e⟩
    · rw [cellsEv] at hx
      obtain ⟨b, off, spot⟩ := a
      have hspot : spot = none := by
        obtain ⟨cs', h1, h2⟩ := hx 0 (by simp at hmm; omega)
        have hc := (World.cells?_some h1).2.2 0 (by omega)
        have hl4 := (World.cells?_some h1).2.1
        rw [List.getElem?_eq_getElem (by omega)] at hc
        simpa [Addr.add] using World.cell?_spot hc
      subst hspot
      have key : ∀ i, i < len → ∃ o : EvD, EvAt W b off i o ∧ o.Ok := fun i hi => by
        obtain ⟨cs', h1, h2⟩ := hx i (by simp at hmm; omega)
        rw [show (⟨b, off, none⟩ : Addr).add (i * 4) = ⟨b, off + i * 4, none⟩ from by unfold Addr.add; split <;> simp_all] at h1
        obtain ⟨_, hlen, hcell⟩ := World.cells?_some h1
        obtain ⟨e, rfl, ok⟩ := ev_cells hlen h2
        exact ⟨e, ⟨hcell 0 (by omega), hcell 1 (by omega), hcell 2 (by omega), hcell 3 (by omega)⟩, ok⟩
      obtain ⟨f, hf⟩ := Deep.choose_lt (p := fun i o => EvAt W b off i o ∧ o.Ok) (fun i hi => key i hi)
      refine ⟨some ⟨b, off, none⟩, cap, (List.range len).map f, by simpa using hcs, by simpa using hl, by omega, fun i hi => ⟨b, off, rfl, ?_⟩, fun e => by cases e⟩
      have := hf i (by simpa using hi)
      simpa using this

set_option maxRecDepth 100000 in
/-- An event that came in. -/
theorem ev_of {H : Type} {enc : TypeId × Value → H} {W : World} {base : Nat} {v : Value} {d : DataW H} {p : List MemPlace} (hval : Value.okWide Try.prog W .any base 32 v)
    (h : DataW.Trod enc Try.prog W 0 (fun _ => true) true 32 v d p) : ∃ e : EvD, v = e.agg ∧ e.Ok := by
  obtain ⟨cs, rfl, hsz⟩ := okWide_struct Try.underlying32 hval
  obtain ⟨fuel, hf⟩ := h
  rw [cellsEv] at hsz
  obtain ⟨l⟩ := cs
  obtain ⟨e, he, ok⟩ := ev_cells (cs := l) (by simpa using hsz) (by simpa [Value.cells] using hf)
  exact ⟨e, by unfold EvD.agg; rw [he], ok⟩

set_option maxRecDepth 100000 in
/-- A command that came in. -/
theorem cmd_of {H : Type} {enc : TypeId × Value → H} {W : World} {base : Nat} {v : Value} {d : DataW H} {p : List MemPlace} (hval : Value.okWide Try.prog W .any base 26 v)
    (h : DataW.Trod enc Try.prog W 0 (fun _ => true) true 26 v d p) : ∃ (c : CmdD) (x : Option Addr) (cap : Nat), v = c.agg x cap ∧ Evs W x cap c.evs ∧ c.Ok := by
  have hml : maxLen = 9223372036854775807 := rfl
  obtain ⟨cs, rfl, hsz⟩ := okWide_struct Try.underlying26 hval
  obtain ⟨fuel, hf⟩ := h
  rw [cellsCmd] at hsz
  obtain ⟨l⟩ := cs
  have hlen : l.length = 8 := by simpa using hsz
  have hf : DataW.trod enc Try.prog W 0 (fun _ => true) true fuel 26 l = some (d, p) := by simpa [Value.cells] using hf
  obtain ⟨xs, n', _, _, hl, hxs, hg⟩ := DataW.trod_struct Try.underlying26 hf
  match xs, hxs with
  | [y0, y1, y2, y3, y4, y5], _ =>
    have k0 := hg 0 _ rfl; have k1 := hg 1 _ rfl; have k2 := hg 2 _ rfl; have k3 := hg 3 _ rfl; have k4 := hg 4 _ rfl; have k5 := hg 5 _ rfl
    obtain ⟨z0, e0, _, w0⟩ := DataW.trod_int (t := 3) Try.underlying3 k0
    obtain ⟨z1, e1, _, w1⟩ := DataW.trod_int (t := 3) Try.underlying3 k1
    obtain ⟨z2, e2, _, w2⟩ := DataW.trod_string (t := 9) Try.underlying9 k2
    obtain ⟨z3, e3, _, w3⟩ := DataW.trod_int (t := 3) Try.underlying3 k3
    obtain ⟨y, cap, evs, e4, E⟩ := evs_of k4
    obtain ⟨xs5, n5, _, _, hl5, hxs5, hg5⟩ := DataW.trod_struct Try.underlying24 k5
    match xs5, hxs5 with
    | [m0, m1, m2], _ =>
      have j0 := hg5 0 _ rfl; have j1 := hg5 1 _ rfl; have j2 := hg5 2 _ rfl
      obtain ⟨z5, e5, _, w5⟩ := DataW.trod_int (t := 3) Try.underlying3 j0
      obtain ⟨z6, e6, _, w6⟩ := DataW.trod_int (t := 3) Try.underlying3 j1
      obtain ⟨z7, e7, _, w7⟩ := DataW.trod_int (t := 3) Try.underlying3 j2
      clear k0 k1 k2 k3 k4 k5 j0 j1 j2 hg hg5 hl hl5 hf hsz hval
      match l, hlen with
      | [a0, a1, a2, a3, a4, a5, a6, a7], _ =>
        have e0 : [a0] = [Value.int .i64 z0] := e0
        have e1 : [a1] = [Value.int .i64 z1] := e1
        have e2 : [a2] = [Value.string z2] := e2
        have e3 : [a3] = [Value.int .i64 z3] := e3
        have e4 : [a4] = [Value.slice y evs.length cap] := e4
        have e5 : [a5] = [Value.int .i64 z5] := e5
        have e6 : [a6] = [Value.int .i64 z6] := e6
        have e7 : [a7] = [Value.int .i64 z7] := e7
        obtain rfl : a0 = _ := List.head_eq_of_cons_eq e0
        obtain rfl : a1 = _ := List.head_eq_of_cons_eq e1
        obtain rfl : a2 = _ := List.head_eq_of_cons_eq e2
        obtain rfl : a3 = _ := List.head_eq_of_cons_eq e3
        obtain rfl : a4 = _ := List.head_eq_of_cons_eq e4
        obtain rfl : a5 = _ := List.head_eq_of_cons_eq e5
        obtain rfl : a6 = _ := List.head_eq_of_cons_eq e6
        obtain rfl : a7 = _ := List.head_eq_of_cons_eq e7
        have := E.lc; have := E.cm
        exact ⟨⟨z0, z1, z2, z3, evs, z5, z6, z7⟩, y, cap, rfl, E, ⟨(bd_i64 w0).1, (bd_i64 w0).2, (bd_i64 w1).1, (bd_i64 w1).2, w2, (bd_i64 w3).1, (bd_i64 w3).2, by simp only []; omega, (bd_i64 w5).1, (bd_i64 w5).2, (bd_i64 w6).1, (bd_i64 w6).2, (bd_i64 w7).1, (bd_i64 w7).2⟩⟩

/-- A stored event's parts are of their kinds. -/
structure StD.Ok (s : StD) : Prop where
  e : s.e.Ok
  st : s.stream.size ≤ 9223372036854775807
  v0 : -9223372036854775808 ≤ s.ver
  v1 : s.ver ≤ 9223372036854775807
  p0 : -9223372036854775808 ≤ s.pos
  p1 : s.pos ≤ 9223372036854775807
  t0 : -9223372036854775808 ≤ s.time
  t1 : s.time ≤ 9223372036854775807
set_option maxRecDepth 100000 in
/-- A stored event that came in. -/
theorem sto_of {H : Type} {enc : TypeId × Value → H} {W : World} {base : Nat} {v : Value} {d : DataW H} {p : List MemPlace} (hval : Value.okWide Try.prog W .any base 44 v)
    (h : DataW.Trod enc Try.prog W 0 (fun _ => true) true 44 v d p) : ∃ s : StD, v = s.agg ∧ s.Ok := by
  obtain ⟨cs, rfl, hsz⟩ := okWide_struct Try.underlying44 hval
  obtain ⟨fuel, hf⟩ := h
  rw [cellsSto7] at hsz
  obtain ⟨l⟩ := cs
  have hlen : l.length = 8 := by simpa using hsz
  have hf : DataW.trod enc Try.prog W 0 (fun _ => true) true fuel 44 l = some (d, p) := by simpa [Value.cells] using hf
  obtain ⟨xs, n', _, _, hl, hxs, hg⟩ := DataW.trod_struct Try.underlying44 hf
  match xs, hxs with
  | [y0, y1, y2, y3, y4], _ =>
    have k0 := hg 0 _ rfl; have k1 := hg 1 _ rfl; have k2 := hg 2 _ rfl; have k3 := hg 3 _ rfl; have k4 := hg 4 _ rfl
    have k0 : DataW.trod enc Try.prog W 0 (fun _ => true) true n' 32 ((l.drop 0).take (Try.prog.cellsOf 32)) = some y0 := k0
    rw [cellsEv] at k0
    obtain ⟨e, e0, ok⟩ := ev_cells (by simp [hlen]) k0
    obtain ⟨z4, e4, _, w4⟩ := DataW.trod_string (t := 9) Try.underlying9 k1
    obtain ⟨z5, e5, _, w5⟩ := DataW.trod_int (t := 3) Try.underlying3 k2
    obtain ⟨z6, e6, _, w6⟩ := DataW.trod_int (t := 3) Try.underlying3 k3
    obtain ⟨z7, e7, _, w7⟩ := DataW.trod_int (t := 3) Try.underlying3 k4
    clear k0 k1 k2 k3 k4 hg hl hf hsz hval
    match l, hlen with
    | [a0, a1, a2, a3, a4, a5, a6, a7], _ =>
      have e0 : [a0, a1, a2, a3] = [.int .i64 e.id, .string e.typ, .string e.data, .float .f64 e.val] := e0
      have e4 : [a4] = [Value.string z4] := e4
      have e5 : [a5] = [Value.int .i64 z5] := e5
      have e6 : [a6] = [Value.int .i64 z6] := e6
      have e7 : [a7] = [Value.int .i64 z7] := e7
      obtain rfl : a4 = _ := List.head_eq_of_cons_eq e4
      obtain rfl : a5 = _ := List.head_eq_of_cons_eq e5
      obtain rfl : a6 = _ := List.head_eq_of_cons_eq e6
      obtain rfl : a7 = _ := List.head_eq_of_cons_eq e7
      injection e0 with e0 f0
      injection f0 with e1 f1
      injection f1 with e2 f2
      injection f2 with e3 f3
      subst e0 e1 e2 e3
      exact ⟨⟨e, z4, z5, z6, z7⟩, rfl, ⟨ok, w4, (bd_i64 w5).1, (bd_i64 w5).2, (bd_i64 w6).1, (bd_i64 w6).2, (bd_i64 w7).1, (bd_i64 w7).2⟩⟩
end Go.Proofs.Ytcihnfgfficmlaa
