/- The book's Small and Few. -/
import Derived.Test.YtcihnfgfficmlaaSto7
namespace Go.Proofs.Ytcihnfgfficmlaa
open Go.RowKit Go.Lib

def smE (e : EvD) : Bool := !(decide (100 < e.typ.size) || decide (300 < e.data.size))
def smallC (c : CmdD) : Bool := (c.evs.take 20).all smE && (decide (c.evs.length ≤ 12) && decide (c.stream.size ≤ 100))
theorem small_parts {c : CmdD} (h : smallC c = true) : c.evs.length ≤ 12 ∧ c.stream.size ≤ 100 ∧ ∀ e ∈ c.evs, e.typ.size ≤ 100 ∧ e.data.size ≤ 300 := by
  unfold smallC at h
  rw [Bool.and_eq_true, Bool.and_eq_true, decide_eq_true_eq, decide_eq_true_eq, List.all_eq_true] at h
  refine ⟨h.2.1, h.2.2, fun e he => ?_⟩
  have := h.1 e (by rw [List.take_of_length_le (by omega)]; exact he)
  unfold smE at this
  simp at this
  omega

set_option maxRecDepth 100000 in
set_option maxHeartbeats 4000000 in
theorem small_any (c : CmdD) (x : Option Addr) (cap : Nat) (w : World) (hx : EvX w x c.evs) (hl : c.evs.length ≤ 9223372036854775807) :
    Calls Try.prog 10 #[c.agg x cap] w fun r w' => r = .returned (.bool (smallC c)) ∧ Touch [] w w' := by
  unfold CmdD.agg
  have hS : Hid (smallC c = ((c.evs.take 20).all smE && (decide (c.evs.length ≤ 12) && decide (c.stream.size ≤ 100)))) := rfl
  obtain ⟨k, t, s, e, l, p, q, r⟩ := c
  simp only [] at hx hl hS ⊢
  generalize smallC ⟨k, t, s, e, l, p, q, r⟩ = G at *
  have HX := hid hx
  have HL := hid hl
  clear hx hl
  obtain ⟨W1, hW⟩ : ∃ W1, W1 = w.alloc (.cells #[.int .i64 k, .int .i64 t, .string s, .int .i64 e, .slice x l.length cap, .int .i64 p, .int .i64 q, .int .i64 r] tCmd) := ⟨_, rfl⟩
  have T1 : Hid (Touch [] w W1) := by rw [hW]; exact hid ((Touch.refl _ _).alloc _)
  have B2 : Hid (W1.cell? ⟨w.heap.size, 2, none⟩ = some (.string s)) := by rw [hW]; exact hid (cell_of (heap_alloc_new w _) 2)
  have B4 : Hid (W1.cell? ⟨w.heap.size, 4, none⟩ = some (.slice x l.length cap)) := by rw [hW]; exact hid (cell_of (heap_alloc_new w _) 4)
  go_enter Try.func10, Try.ntmps10
  go_wp2_with fail
  simp only [tCmd] at hW
  rw [← hW]
  clear hW
  go_loop [3] (fun iv => ∃ j : Nat, j ≤ l.length ∧ j ≤ 20 ∧ iv = .int .i64 j ∧ (l.take j).all smE = true) (fun iv => l.length - (RowKit.intOf iv).toNat)
  case atStart => exact ⟨0, Nat.zero_le _, Nat.zero_le _, rfl, rfl⟩
  case round =>
    obtain ⟨j, hj, hjn, rfl, hall⟩ := hrel
    have HA := hid hall
    clear hall
    have c4 := B4.out
    by_cases hlt : j < l.length
    · by_cases hkf : j < 20
      · obtain ⟨b, off, rfl, g1, g2⟩ := (HX.out.touch T1.out) j hlt
        obtain ⟨a0, a1, a2, a3⟩ := g1
        have hjI : (j : Int) < l.length := by omega
        have hj2 : (j : Int) < 20 := by omega
        have hstep := hid (show (l.take (j + 1)).all smE = ((l.take j).all smE && smE l[j]) by rw [List.take_succ_eq_append_getElem hlt, List.all_append]; simp)
        have hbad := hid (fun (h : smE l[j] = false) => show G = false by
          rw [hS.out, Bool.and_eq_false_iff]
          left
          rw [← Bool.not_eq_true, List.all_eq_true]
          intro h2
          have := h2 l[j] (by rw [List.mem_iff_getElem]; exact ⟨j, by rw [List.length_take]; omega, by simp⟩)
          rw [h] at this; cases this)
        clear g2
        generalize l[j] = E at *
        obtain ⟨E0, E1, E2, E3⟩ := E
        simp only at a0 a1 a2 a3
        by_cases t2 : 100 < E1.size
        · have d2 : decide (100 < E1.size) = true := by simpa using t2
          have d2i : decide (100 < (E1.size : Int)) = true := by simp; omega
          have hf := hid (hbad.out (by unfold smE; simp [d2]))
          clear t2
          go_wp2
          go_ret
          exact ⟨by rw [hf.out]; rfl, T1.out⟩
        by_cases t3 : 300 < E2.size
        · have d2 : decide (100 < E1.size) = false := by simpa using t2
          have d2i : decide (100 < (E1.size : Int)) = false := by simp; omega
          have d3 : decide (300 < E2.size) = true := by simpa using t3
          have d3i : decide (300 < (E2.size : Int)) = true := by simp; omega
          have hf := hid (hbad.out (by unfold smE; simp [d3]))
          clear t2 t3
          go_wp2
          go_ret
          exact ⟨by rw [hf.out]; rfl, T1.out⟩
        have d2 : decide (100 < E1.size) = false := by simpa using t2
        have d2i : decide (100 < (E1.size : Int)) = false := by simp; omega
        have d3 : decide (300 < E2.size) = false := by simpa using t3
        have d3i : decide (300 < (E2.size : Int)) = false := by simp; omega
        have hs := hid (hstep.out.trans (show ((l.take j).all smE && smE ⟨E0, E1, E2, E3⟩) = true by rw [HA.out]; unfold smE; simp [d2, d3]))
        clear t2 t3 hstep hbad
        go_wp2
        go_round
        case rel => exact ⟨j + 1, by omega, by omega, by go_num, hs.out⟩
        case measure => simp [RowKit.intOf]; omega
      · obtain rfl : j = 20 := by omega
        have hjI : (20 : Int) < l.length := by omega
        have h12 : decide ((l.length : Int) ≤ 12) = false := by simp; omega
        have hf : Hid (G = false) := by rw [hS.out, show decide (l.length ≤ 12) = false by simp; omega]; exact hid (by simp)
        clear hlt hkf
        go_wp2
        go_ret
        exact ⟨by rw [hf.out]; rfl, T1.out⟩
    · obtain rfl : j = l.length := by omega
      have hf : Hid (G = (decide (l.length ≤ 12) && decide (s.size ≤ 100))) := by
        rw [hS.out, List.take_of_length_le hjn]
        have h3 := HA.out
        rw [List.take_of_length_le (Nat.le_refl _)] at h3
        rw [h3]; exact hid rfl
      have c2 := B2.out
      clear hlt
      by_cases h12 : l.length ≤ 12
      · have h12i : decide ((l.length : Int) ≤ 12) = true := by simp; omega
        have hf2 := hid (hf.out.trans (show (decide (l.length ≤ 12) && decide (s.size ≤ 100)) = decide ((s.size : Int) ≤ 100) by simp [h12]; omega))
        clear h12
        go_wp2
        go_ret
        exact ⟨by rw [hf2.out]; rfl, T1.out⟩
      · have h12i : decide ((l.length : Int) ≤ 12) = false := by simp; omega
        have hf2 := hid (hf.out.trans (show (decide (l.length ≤ 12) && decide (s.size ≤ 100)) = false by simp [h12]))
        clear h12
        go_wp2
        go_ret
        exact ⟨by rw [hf2.out]; rfl, T1.out⟩

/-! ### Few -/
/-- At place i of the row at b, off stands s. -/
structure StAt (W : World) (b off i : Nat) (s : StD) : Prop where
  c0 : W.cell? ⟨b, off + i * 8, none⟩ = some (.int .i64 s.e.id)
  c1 : W.cell? ⟨b, off + i * 8 + 1, none⟩ = some (.string s.e.typ)
  c2 : W.cell? ⟨b, off + i * 8 + 2, none⟩ = some (.string s.e.data)
  c3 : W.cell? ⟨b, off + i * 8 + 3, none⟩ = some (.float .f64 s.e.val)
  c4 : W.cell? ⟨b, off + i * 8 + 4, none⟩ = some (.string s.stream)
  c5 : W.cell? ⟨b, off + i * 8 + 5, none⟩ = some (.int .i64 s.ver)
  c6 : W.cell? ⟨b, off + i * 8 + 6, none⟩ = some (.int .i64 s.pos)
  c7 : W.cell? ⟨b, off + i * 8 + 7, none⟩ = some (.int .i64 s.time)
theorem StAt.touch {W W' : World} {b off i : Nat} {s : StD} (h : StAt W b off i s) (t : Touch [] W W') : StAt W' b off i s :=
  ⟨t.cell h.c0, t.cell h.c1, t.cell h.c2, t.cell h.c3, t.cell h.c4, t.cell h.c5, t.cell h.c6, t.cell h.c7⟩
def StX (W : World) (x : Option Addr) (l : List StD) : Prop := ∀ i (h : i < l.length), ∃ b off, x = some ⟨b, off, none⟩ ∧ StAt W b off i l[i] ∧ True
theorem StX.touch {W W' : World} {x : Option Addr} {l : List StD} (h : StX W x l) (t : Touch [] W W') : StX W' x l := fun i hi => by
  obtain ⟨b, off, h1, h2, h3⟩ := h i hi
  exact ⟨b, off, h1, h2.touch t, h3⟩
/-- A row of one. -/
theorem stX_one {W : World} {b : Nat} {s : StD} {ty : TypeId} {fz : Nat × Nat} (h : W.heap[b]? = some (.cells #[.int .i64 s.e.id, .string s.e.typ, .string s.e.data, .float .f64 s.e.val, .string s.stream, .int .i64 s.ver, .int .i64 s.pos, .int .i64 s.time] ty fz)) : StX W (some ⟨b, 0, none⟩) [s] := by
  intro i hi
  obtain rfl : i = 0 := by simp at hi; omega
  exact ⟨b, 0, rfl, ⟨cell_of h 0, cell_of h 1, cell_of h 2, cell_of h 3, cell_of h 4, cell_of h 5, cell_of h 6, cell_of h 7⟩, trivial⟩
def smallB (s : StD) : Bool := !(decide (100 < s.stream.size) || decide (100 < s.e.typ.size) || decide (300 < s.e.data.size))
def fewB (n : Nat) (l : List StD) : Bool := (l.take n).all smallB && decide (l.length ≤ n)

set_option maxHeartbeats 2000000 in
theorem few_any (n : Nat) (hn : n ≤ 1000) (x : Option Addr) (c : Nat) (l : List StD) (W : World) (hl : l.length ≤ 9223372036854775807) (hx : StX W x l) :
    Calls Try.prog 26 #[.int .i64 (n : Int), .slice x l.length c] W fun e w' => e = .returned (.bool (fewB n l)) ∧ W = w' := by
  have HX := hid hx
  have HL := hid hl
  have HN := hid hn
  clear hx hl hn
  go_enter Try.func26, Try.ntmps26
  go_wp2
  go_loop [5] (fun iv => ∃ k : Nat, k ≤ l.length ∧ k ≤ n ∧ iv = .int .i64 k ∧ (l.take k).all smallB = true) (fun iv => l.length - (RowKit.intOf iv).toNat)
  case atStart => exact ⟨0, Nat.zero_le _, Nat.zero_le _, rfl, rfl⟩
  case round =>
    obtain ⟨k, hk, hkn, rfl, hall⟩ := hrel
    have HA := hid hall
    clear hall
    by_cases hlt : k < l.length
    · by_cases hkf : k < n
      · obtain ⟨b, off, rfl, g1, g2⟩ := HX.out k hlt
        obtain ⟨a0, a1, a2, a3, a4, a5, a6, a7⟩ := g1
        have hl2 : decide (k < l.length) = true := by simpa using hlt
        have hl3 : decide (k < n) = true := by simpa using hkf
        have hkI : (k : Int) < l.length := by omega
        have hk1 : (k : Int) ≤ 1000 := by have := HN.out; omega
        have hstep := hid (show (l.take (k + 1)).all smallB = ((l.take k).all smallB && smallB l[k]) by rw [List.take_succ_eq_append_getElem hlt, List.all_append]; simp)
        have hbad := hid (fun (h : smallB l[k] = false) => show fewB n l = false by
          unfold fewB
          rw [Bool.and_eq_false_iff]
          left
          rw [← Bool.not_eq_true, List.all_eq_true]
          intro h2
          have := h2 l[k] (by rw [List.mem_iff_getElem]; exact ⟨k, by rw [List.length_take]; omega, by simp⟩)
          rw [h] at this; cases this)
        clear g2
        generalize l[k] = s at *
        obtain ⟨⟨sid, styp, sdata, svalue⟩, sstream, sversion, sposition, stime⟩ := s
        simp only at a0 a1 a2 a3 a4 a5 a6 a7
        by_cases t1 : 100 < sstream.size
        · have d1 : decide (100 < sstream.size) = true := by simpa using t1
          have d1i : decide (100 < (sstream.size : Int)) = true := by simp; omega
          have hf := hid (hbad.out (by unfold smallB; simp [d1]))
          clear t1
          go_wp2
          go_ret
          exact ⟨by rw [hf.out]; rfl, rfl⟩
        by_cases t2 : 100 < styp.size
        · have d1 : decide (100 < sstream.size) = false := by simpa using t1
          have d1i : decide (100 < (sstream.size : Int)) = false := by simp; omega
          have d2 : decide (100 < styp.size) = true := by simpa using t2
          have d2i : decide (100 < (styp.size : Int)) = true := by simp; omega
          have hf := hid (hbad.out (by unfold smallB; simp [d2]))
          clear t1 t2
          go_wp2
          go_ret
          exact ⟨by rw [hf.out]; rfl, rfl⟩
        by_cases t3 : 300 < sdata.size
        · have d1 : decide (100 < sstream.size) = false := by simpa using t1
          have d1i : decide (100 < (sstream.size : Int)) = false := by simp; omega
          have d2 : decide (100 < styp.size) = false := by simpa using t2
          have d2i : decide (100 < (styp.size : Int)) = false := by simp; omega
          have d3 : decide (300 < sdata.size) = true := by simpa using t3
          have d3i : decide (300 < (sdata.size : Int)) = true := by simp; omega
          have hf := hid (hbad.out (by unfold smallB; simp [d3]))
          clear t1 t2 t3
          go_wp2
          go_ret
          exact ⟨by rw [hf.out]; rfl, rfl⟩
        have d1 : decide (100 < sstream.size) = false := by simpa using t1
        have d1i : decide (100 < (sstream.size : Int)) = false := by simp; omega
        have d2 : decide (100 < styp.size) = false := by simpa using t2
        have d2i : decide (100 < (styp.size : Int)) = false := by simp; omega
        have d3 : decide (300 < sdata.size) = false := by simpa using t3
        have d3i : decide (300 < (sdata.size : Int)) = false := by simp; omega
        have hs := hid (hstep.out.trans (show ((l.take k).all smallB && smallB ⟨⟨sid, styp, sdata, svalue⟩, sstream, sversion, sposition, stime⟩) = true by rw [HA.out]; unfold smallB; simp [d1, d2, d3]))
        clear t1 t2 t3 hstep hbad
        go_wp2
        go_round
        case rel => exact ⟨k + 1, by omega, by omega, by go_num, hs.out⟩
        case measure => simp [RowKit.intOf]; omega
      · obtain rfl : k = n := by omega
        have hl2 : decide (k < l.length) = true := by simpa using hlt
        have hl3 : decide (k < k) = false := by simp
        have hf : Hid (fewB k l = decide (l.length ≤ k)) := by unfold Hid fewB; rw [HA.out]; rfl
        clear hlt hkf
        go_wp2
        go_ret
        exact ⟨by rw [hf.out]; simp, rfl⟩
    · obtain rfl : k = l.length := by omega
      have hl2 : decide (l.length < l.length) = false := by simp
      have hf : Hid (fewB n l = decide (l.length ≤ n)) := by
        unfold Hid fewB
        have h2 : l.take n = l := List.take_of_length_le hkn
        have h3 := HA.out
        rw [List.take_of_length_le (Nat.le_refl _)] at h3
        rw [h2, h3]; rfl
      clear hlt
      go_wp2
      go_ret
      exact ⟨by rw [hf.out]; simp; omega, rfl⟩
end Go.Proofs.Ytcihnfgfficmlaa
