/- Stored events: as plain data, in memory, as values; Few; alike ones. -/
import Derived.Test.YtmgglmoiepjebaaFl16
import Derived.Deep.Slices
import Derived.StillTailTactics
import Derived.IntWalk
import Derived.OpenShut
import Derived.ProofKit
import Derived.WideShapes
import Derived.ChangeShapes
namespace Go.Proofs.Ytmgglmoiepjebaa
set_option maxRecDepth 100000
open Go.RowKit Go.Lib Go.ChangeShapes Go.WideShapes

structure StoD where
  id : Int
  typ : ByteArray
  data : ByteArray
  value : Nat
  stream : ByteArray
  version : Int
  position : Int
  time : Int

structure StoD.Ok (s : StoD) : Prop where
  v : s.value < 18446744073709551616
  i0 : -9223372036854775808 ≤ s.id
  i1 : s.id ≤ 9223372036854775807
  lo : -9223372036854775808 ≤ s.version
  hi : s.version ≤ 9223372036854775807
  p0 : -9223372036854775808 ≤ s.position
  p1 : s.position ≤ 9223372036854775807
  m0 : -9223372036854775808 ≤ s.time
  m1 : s.time ≤ 9223372036854775807
  t : s.typ.size ≤ maxLen
  d : s.data.size ≤ maxLen
  s : s.stream.size ≤ maxLen

/-- At place i of the row at b, off stands s. -/
structure StoAt (W : World) (b off i : Nat) (s : StoD) : Prop where
  c0 : W.cell? ⟨b, off + i * 8, none⟩ = some (.int .i64 s.id)
  c1 : W.cell? ⟨b, off + i * 8 + 1, none⟩ = some (.string s.typ)
  c2 : W.cell? ⟨b, off + i * 8 + 2, none⟩ = some (.string s.data)
  c3 : W.cell? ⟨b, off + i * 8 + 3, none⟩ = some (.float .f64 s.value)
  c4 : W.cell? ⟨b, off + i * 8 + 4, none⟩ = some (.string s.stream)
  c5 : W.cell? ⟨b, off + i * 8 + 5, none⟩ = some (.int .i64 s.version)
  c6 : W.cell? ⟨b, off + i * 8 + 6, none⟩ = some (.int .i64 s.position)
  c7 : W.cell? ⟨b, off + i * 8 + 7, none⟩ = some (.int .i64 s.time)

theorem StoAt.touch {W W' : World} {b off i : Nat} {s : StoD} (h : StoAt W b off i s) (t : Touch [] W W') : StoAt W' b off i s :=
  ⟨t.cell h.c0, t.cell h.c1, t.cell h.c2, t.cell h.c3, t.cell h.c4, t.cell h.c5, t.cell h.c6, t.cell h.c7⟩

def StoX (W : World) (x : Option Addr) (l : List StoD) : Prop := ∀ i (h : i < l.length), ∃ b off, x = some ⟨b, off, none⟩ ∧ StoAt W b off i l[i] ∧ l[i].Ok

theorem StoX.touch {W W' : World} {x : Option Addr} {l : List StoD} (h : StoX W x l) (t : Touch [] W W') : StoX W' x l := fun i hi => by
  obtain ⟨b, off, h1, h2, h3⟩ := h i hi
  exact ⟨b, off, h1, h2.touch t, h3⟩

def smallB (s : StoD) : Bool := !(decide (100 < s.stream.size) || decide (100 < s.typ.size) || decide (300 < s.data.size))

def fewB (n : Nat) (l : List StoD) : Bool := (l.take n).all smallB && decide (l.length ≤ n)

set_option maxHeartbeats 2000000 in
theorem few_any (n : Nat) (hn : n ≤ 1000) (x : Option Addr) (c : Nat) (l : List StoD) (W : World) (hl : l.length ≤ 9223372036854775807) (hx : StoX W x l) :
    Calls Try.prog 7 #[.int .i64 (n : Int), .slice x l.length c] W fun e w' => e = .returned (.bool (fewB n l)) ∧ W = w' := by
  have HX := hid hx
  have HL := hid hl
  have HN := hid hn
  clear hx hl hn
  go_enter Try.func7, Try.ntmps7
  go_wp2
  go_loop [5] (fun iv => ∃ k : Nat, k ≤ l.length ∧ k ≤ n ∧ iv = .int .i64 k ∧ (l.take k).all smallB = true) (fun iv => l.length - (RowKit.intOf iv).toNat)
  case atStart => exact ⟨0, Nat.zero_le _, Nat.zero_le _, rfl, rfl⟩
  case round =>
    obtain ⟨k, hk, hkn, rfl, hall⟩ := hrel
    have HA := hid hall
    clear hall
    by_cases hlt : k < l.length
    · by_cases hkf : k < n
      · obtain ⟨b, off, rfl, g1, g2⟩ := HX.out k hlt
        obtain ⟨a0, a1, a2, a3, a4, a5, a6, a7⟩ := g1
        have hl2 : decide (k < l.length) = true := by simpa using hlt
        have hl3 : decide (k < n) = true := by simpa using hkf
        have hkI : (k : Int) < l.length := by omega
        have hk1 : (k : Int) ≤ 1000 := by have := HN.out; omega
        have hstep := hid (show (l.take (k + 1)).all smallB = ((l.take k).all smallB && smallB l[k]) by rw [List.take_succ_eq_append_getElem hlt, List.all_append]; simp)
        have hbad := hid (fun (h : smallB l[k] = false) => show fewB n l = false by
          unfold fewB
          rw [Bool.and_eq_false_iff]
          left
          rw [← Bool.not_eq_true, List.all_eq_true]
          intro h2
          have := h2 l[k] (by rw [List.mem_iff_getElem]; exact ⟨k, by rw [List.length_take]; omega, by simp⟩)
          rw [h] at this; cases this)
        clear g2
        generalize l[k] = s at *
        obtain ⟨sid, styp, sdata, svalue, sstream, sversion, sposition, stime⟩ := s
        simp only at a0 a1 a2 a3 a4 a5 a6 a7
        by_cases t1 : 100 < sstream.size
        · have d1 : decide (100 < sstream.size) = true := by simpa using t1
          have d1i : decide (100 < (sstream.size : Int)) = true := by simp; omega
          have hf := hid (hbad.out (by unfold smallB; simp [d1]))
          clear t1
          go_wp2
          go_ret
          exact ⟨by rw [hf.out]; rfl, rfl⟩
        by_cases t2 : 100 < styp.size
        · have d1 : decide (100 < sstream.size) = false := by simpa using t1
          have d1i : decide (100 < (sstream.size : Int)) = false := by simp; omega
          have d2 : decide (100 < styp.size) = true := by simpa using t2
          have d2i : decide (100 < (styp.size : Int)) = true := by simp; omega
          have hf := hid (hbad.out (by unfold smallB; simp [d2]))
          clear t1 t2
          go_wp2
          go_ret
          exact ⟨by rw [hf.out]; rfl, rfl⟩
        by_cases t3 : 300 < sdata.size
        · have d1 : decide (100 < sstream.size) = false := by simpa using t1
          have d1i : decide (100 < (sstream.size : Int)) = false := by simp; omega
          have d2 : decide (100 < styp.size) = false := by simpa using t2
          have d2i : decide (100 < (styp.size : Int)) = false := by simp; omega
          have d3 : decide (300 < sdata.size) = true := by simpa using t3
          have d3i : decide (300 < (sdata.size : Int)) = true := by simp; omega
          have hf := hid (hbad.out (by unfold smallB; simp [d3]))
          clear t1 t2 t3
          go_wp2
          go_ret
          exact ⟨by rw [hf.out]; rfl, rfl⟩
        have d1 : decide (100 < sstream.size) = false := by simpa using t1
        have d1i : decide (100 < (sstream.size : Int)) = false := by simp; omega
        have d2 : decide (100 < styp.size) = false := by simpa using t2
        have d2i : decide (100 < (styp.size : Int)) = false := by simp; omega
        have d3 : decide (300 < sdata.size) = false := by simpa using t3
        have d3i : decide (300 < (sdata.size : Int)) = false := by simp; omega
        have hs := hid (hstep.out.trans (show ((l.take k).all smallB && smallB ⟨sid, styp, sdata, svalue, sstream, sversion, sposition, stime⟩) = true by rw [HA.out]; unfold smallB; simp [d1, d2, d3]))
        clear t1 t2 t3 hstep hbad
        go_wp2
        go_round
        case rel => exact ⟨k + 1, by omega, by omega, by go_num, hs.out⟩
        case measure => simp [RowKit.intOf]; omega
      · obtain rfl : k = n := by omega
        have hl2 : decide (k < l.length) = true := by simpa using hlt
        have hl3 : decide (k < k) = false := by simp
        have hf : Hid (fewB k l = decide (l.length ≤ k)) := by unfold Hid fewB; rw [HA.out]; rfl
        clear hlt hkf
        go_wp2
        go_ret
        exact ⟨by rw [hf.out]; simp, rfl⟩
    · obtain rfl : k = l.length := by omega
      have hl2 : decide (l.length < l.length) = false := by simp
      have hf : Hid (fewB n l = decide (l.length ≤ n)) := by
        unfold Hid fewB
        have h2 : l.take n = l := List.take_of_length_le hkn
        have h3 := HA.out
        rw [List.take_of_length_le (Nat.le_refl _)] at h3
        rw [h2, h3]; rfl
      clear hlt
      go_wp2
      go_ret
      exact ⟨by rw [hf.out]; simp; omega, rfl⟩

theorem few_parts {n : Nat} {l : List StoD} (h : fewB n l = true) : l.length ≤ n ∧ ∀ s ∈ l, s.data.size ≤ 300 ∧ s.typ.size ≤ 100 ∧ s.stream.size ≤ 100 := by
  unfold fewB at h
  rw [Bool.and_eq_true, decide_eq_true_eq, List.all_eq_true] at h
  refine ⟨h.2, fun s hs => ?_⟩
  have := h.1 s (by rw [List.take_of_length_le h.2]; exact hs)
  unfold smallB at this
  simp at this
  omega

/-- A stored event as a value. -/
@[reducible] def StoD.val (s : StoD) : Value := .agg #[.int .i64 s.id, .string s.typ, .string s.data, .float .f64 s.value, .string s.stream, .int .i64 s.version, .int .i64 s.position, .int .i64 s.time]

@[reducible] def StoD.ev (s : StoD) : Value := .agg #[.int .i64 s.id, .string s.typ, .string s.data, .float .f64 s.value]

theorem new_at_two (W : World) (a b : Obj) : ((W.alloc a).alloc b).heap[W.heap.size + 1]? = some b := by
  have h := heap_alloc_new (W.alloc a) b
  have e : (W.alloc a).heap.size = W.heap.size + 1 := by simp
  rw [e] at h
  exact h

def StoD.list (s : StoD) : List Value := [.int .i64 s.id, .string s.typ, .string s.data, .float .f64 s.value, .string s.stream, .int .i64 s.version, .int .i64 s.position, .int .i64 s.time]

def stoVals (l : List StoD) : List Value := l.flatMap StoD.list

theorem stoVals_len (l : List StoD) : (stoVals l).length = l.length * 8 := by
  induction l with
  | nil => rfl
  | cons s l ih => show (s.list ++ stoVals l).length = _; rw [List.length_append, ih]; simp [StoD.list]; omega

theorem stoVals_at (l : List StoD) (i j : Nat) (hi : i < l.length) (hj : j < 8) : (stoVals l)[i * 8 + j]? = l[i].list[j]? := by
  induction l generalizing i with
  | nil => simp at hi
  | cons s l ih =>
    show (s.list ++ stoVals l)[i * 8 + j]? = _
    have hl : s.list.length = 8 := rfl
    cases i with
    | zero => rw [List.getElem?_append_left (by omega)]; simp
    | succ i =>
      rw [List.getElem?_append_right (by omega), hl, show (i + 1) * 8 + j - 8 = i * 8 + j by omega]
      simpa using ih i (by simpa using hi)

theorem add_at (b off i : Nat) : (⟨b, off, none⟩ : Addr).add i = ⟨b, off + i, none⟩ := by unfold Addr.add; split <;> simp_all

/-- The cells of a list that lies at b, off. -/
theorem stoX_of {w : World} {b off : Nat} {l : List StoD} (h : ∀ j u, (stoVals l)[j]? = some u → w.cell? ⟨b, off + j, none⟩ = some u) (hok : ∀ s ∈ l, s.Ok) : StoX w (some ⟨b, off, none⟩) l := fun i hi => by
  have key : ∀ j u, j < 8 → l[i].list[j]? = some u → w.cell? ⟨b, off + i * 8 + j, none⟩ = some u := fun j u hj hu => by
    have := h (i * 8 + j) u (by rw [stoVals_at l i j hi hj]; exact hu)
    rwa [← Nat.add_assoc] at this
  exact ⟨b, off, rfl, ⟨key 0 _ (by decide) rfl, key 1 _ (by decide) rfl, key 2 _ (by decide) rfl, key 3 _ (by decide) rfl, key 4 _ (by decide) rfl, key 5 _ (by decide) rfl, key 6 _ (by decide) rfl, key 7 _ (by decide) rfl⟩, hok _ (List.getElem_mem hi)⟩

theorem stoX_cells {w : World} {b off : Nat} {l : List StoD} (h : StoX w (some ⟨b, off, none⟩) l) : ∀ j u, (stoVals l)[j]? = some u → w.cell? ⟨b, off + j, none⟩ = some u := fun j u hu => by
  have hj : j < l.length * 8 := by
    rw [← stoVals_len]
    exact (List.getElem?_eq_some_iff.1 hu).1
  have hi : j / 8 < l.length := by omega
  obtain ⟨b', off', e, ha, _⟩ := h (j / 8) hi
  simp at e
  obtain ⟨rfl, rfl⟩ := e
  have hjj : j = j / 8 * 8 + j % 8 := by omega
  have h8 : j % 8 < 8 := Nat.mod_lt _ (by decide)
  rw [hjj, stoVals_at l (j / 8) (j % 8) hi h8] at hu
  generalize j / 8 = q at *
  generalize j % 8 = r at *
  subst hjj
  rw [← Nat.add_assoc]
  have h9 : r = 0 ∨ r = 1 ∨ r = 2 ∨ r = 3 ∨ r = 4 ∨ r = 5 ∨ r = 6 ∨ r = 7 := by omega
  rcases h9 with rfl | rfl | rfl | rfl | rfl | rfl | rfl | rfl <;> (simp [StoD.list] at hu; subst hu)
  · exact ha.c0
  · exact ha.c1
  · exact ha.c2
  · exact ha.c3
  · exact ha.c4
  · exact ha.c5
  · exact ha.c6
  · exact ha.c7

abbrev TSto : TypeId := 29

theorem infoSto : (Try.prog.info? TSto).map (fun i => (i.zero.map fun z => z.cells.size, i.size, i.bytes)) = some (some 8, 8, 88) := by kernel_rfl

theorem info_sto : ∃ i z, Try.prog.info? TSto = some i ∧ i.zero = some z ∧ i.size = 8 ∧ i.bytes = 88 ∧ z.cells.size = 8 := by
  obtain ⟨i, hi, h⟩ := Option.map_eq_some_iff.1 infoSto
  simp only [Prod.mk.injEq] at h
  obtain ⟨z, hz, h0⟩ := Option.map_eq_some_iff.1 h.1
  exact ⟨i, z, hi, hz, h.2.1, h.2.2, h0⟩

theorem stoVals_snoc (l : List StoD) (s : StoD) : stoVals l ++ s.list = stoVals (l ++ [s]) := by simp [stoVals]

theorem stoVals_one (l : List StoD) : ∀ u ∈ stoVals l, u.oneCell' = true := by
  intro u hu
  unfold stoVals at hu
  rw [List.mem_flatMap] at hu
  obtain ⟨s, _, hs⟩ := hu
  simp [StoD.list] at hs
  rcases hs with rfl | rfl | rfl | rfl | rfl | rfl | rfl | rfl <;> rfl

theorem own_row' {W : World} {base : Nat} {e : TypeId} {size : Nat} {v : Value} {n : Nat} {xs : List Value} (h : W.ownsRow base e size v n xs) : ∀ k, v.ownBlock = some k → base ≤ k := own_row h

end Go.Proofs.Ytmgglmoiepjebaa
