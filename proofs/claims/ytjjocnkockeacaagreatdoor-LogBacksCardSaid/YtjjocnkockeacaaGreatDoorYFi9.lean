/- A file's own functions: each makes another one. -/
import Derived.Test.YtjjocnkockeacaaGreatDoorZc
import Derived.Test.YtjjocnkockeacaaGreatDoorShelf
namespace Go.Proofs.YtjjocnkockeacaaGreatDoor
open Go.RowKit Go.Lib
set_option maxRecDepth 100000

theorem clone_any (s : ByteArray) (w : World) (h : s.size ≤ 281474976710656) :
    Calls Tryz.prog 32 #[.string s] w fun e w' => e = .returned (.string s) ∧ Touch [] w w' := by
  have C := hid (Tryz.stringslite_Clone s w h)
  clear h
  go_enter Tryz.func32, Tryz.ntmps32
  go_wp2_with (go_at_call 62; refine C.out.mono ?_; rintro e w1 ⟨rfl, hp⟩)
  have hp2 := hid hp
  go_ret
  exact ⟨rfl, Touch.of_below hp2.out⟩

theorem head_cells {w : World} {x : Px} (h : HeadAt w x) : w.cell? ⟨x.b, 0, none⟩ = some (.string x.f.name) ∧ w.cell? ⟨x.b, 1, none⟩ = some (.pointer (some ⟨x.p, 0, none⟩)) ∧ w.cell? ⟨x.b, 2, none⟩ = some (.int .i64 x.f.data.size) ∧
    w.cell? ⟨x.b, 3, none⟩ = some (.int .i64 x.f.syn) ∧ w.cell? ⟨x.b, 4, none⟩ = some (.bool x.f.last) :=
  ⟨cell_of h 0, cell_of h 1, cell_of h 2, cell_of h 3, cell_of h 4⟩
theorem touch_cell {F : List Nat} {w w' : World} {a : Addr} {v : Value} (h : Touch F w w') (hv : w.cell? a = some v) (hF : a.block ∉ F) : w'.cell? a = some v := by
  rw [World.cell?_of_block (w := w) (a := a) (h.block a.block (World.block_lt_of_cell? w _ hv) hF)]
  exact hv
theorem alloc_cell {w : World} {a : Addr} {v : Value} (hv : w.cell? a = some v) (o : Obj) : (w.alloc o).cell? a = some v := touch_cell ((Touch.refl [] w).alloc o) hv (by simp)
theorem pv_form {w : World} {v : Value} {bs : List UInt8} {g : Option Nat} (h : Pv w v bs g) : ∃ x c, v = .slice x bs.length c ∧ bs.length ≤ c ∧ c ≤ maxLen := by
  rcases h with ⟨rfl, rfl, _⟩ | ⟨b, c, rfl, ⟨cur, fz, _, _, h1, h2, _⟩, _⟩
  · exact ⟨none, 0, rfl, Nat.le_refl _, Nat.zero_le _⟩
  · exact ⟨_, c, rfl, h1, h2⟩

/-- f.bytes(). -/
theorem bytes_any {w : World} {x : Px} (h : FileAt w x) : Calls Tryz.prog 99 #[ptr x.b] w fun e w' => e = .returned x.v ∧ Touch [] w w' := by
  obtain ⟨c0, c1, c2, c3, c4⟩ := head_cells h.head
  have d0 : w.cell? ⟨x.p, 0, none⟩ = some x.v := cell_of h.pool 0
  obtain ⟨y, c, hv, hc, hm⟩ := pv_form h.pv
  rw [list_len] at hv hc
  rw [hv] at d0 ⊢
  have hsz : x.f.data.size ≤ 9223372036854775807 := by have := h.small; omega
  unfold ptr
  generalize x.f.data.size = n at *
  have hm' : c ≤ 9223372036854775807 := hm
  clear h hv hm c0 c3 c4
  go_enter Tryz.func99, Tryz.ntmps99
  go_wp2
  go_quiet (fail)
  go_wp2
  go_ret
  exact ⟨rfl, (Touch.refl _ _).drewN _⟩
/-- f.unsynced(). -/
theorem unsynced_any {w : World} {x : Px} (h : FileAt w x) : Calls Tryz.prog 57 #[ptr x.b] w fun e w' => e = .returned (.int .i64 ((x.f.data.size - x.f.syn : Nat) : Int)) ∧ ∃ n, w' = w.drewN n := by
  obtain ⟨c0, c1, c2, c3, c4⟩ := head_cells h.head
  have h1 := h.syn
  have h2 := h.small
  have hsub : ((x.f.data.size - x.f.syn : Nat) : Int) = (x.f.data.size : Int) - x.f.syn := by omega
  rw [hsub]
  unfold ptr
  generalize x.f.data.size = n at *
  generalize x.f.syn = m at *
  have hm' : (n : Int) - m ≤ 9223372036854775807 := by omega
  have hm'' : 0 ≤ (n : Int) - m := by omega
  clear h c0 c1 c4 hsub h1 h2
  go_enter Tryz.func57, Tryz.ntmps57
  go_wp2
  go_quiet (fail)
  go_wp2
  go_ret
  exact ⟨rfl, _, rfl⟩

/-- What is made: a file f', in blocks of its own or of O; of what was there only F is turned. -/
def Made (O : List Nat) (f' : Fl) (F : List Nat) (w : World) (e : Ending) (w' : World) : Prop :=
  ∃ y : Px, y.f = f' ∧ e = .returned (ptr y.b) ∧ FileAt w' y ∧ w.heap.size ≤ y.b ∧ (∀ k ∈ y.own, k ∈ O ∨ w.heap.size ≤ k) ∧ Touch F w w'

theorem made_same {w w' : World} {x : Px} {f' : Fl} {b : Nat} (h : FileAt w x) (t : Touch [] w w') (hb : w.heap.size ≤ b) (hh : w'.heap[b]? = some (.cells #[.string f'.name, .pointer (some ⟨x.p, 0, none⟩), .int .i64 x.f.data.size, .int .i64 f'.syn, .bool f'.last] tFile (0, 0)))
    (hd : f'.data = x.f.data) (hs : f'.syn ≤ x.f.data.size) (hn : f'.name.size ≤ 40) : Made x.mut f' [] w (.returned (.pointer (some ⟨b, 0, none⟩))) w' := by
  refine ⟨⟨f', b, x.p, x.v, x.g⟩, rfl, rfl, ⟨?_, (t.block x.p (lt_of_block h.pool) (by simp)).trans h.pool, ?_, by rw [hd]; exact hs, hn, by rw [hd]; exact h.small⟩, hb, ?_, t⟩
  · unfold HeadAt flCells ptr
    rw [hh, hd]
  · simp only [hd]
    exact h.pv.touch t (by simp)
  · intro k hk
    simp only [Px.own, List.mem_cons] at hk
    rcases hk with rfl | hk | hk
    · exact .inr hb
    · exact .inl (by simp [Px.mut, hk])
    · exact .inl (by simp only [Px.mut, List.mem_cons]; exact .inr hk)
theorem made_new {w w' : World} {f' : Fl} {b p : Nat} {v : Value} {g : Option Nat} (t : Touch [] w w') (hb : w.heap.size ≤ b) (hp : w.heap.size ≤ p) (hg : ∀ k ∈ g.toList, w.heap.size ≤ k)
    (hh : w'.heap[b]? = some (.cells #[.string f'.name, .pointer (some ⟨p, 0, none⟩), .int .i64 f'.data.size, .int .i64 f'.syn, .bool f'.last] tFile (0, 0)))
    (hpp : w'.heap[p]? = some (.cells #[v] tPool (0, 0))) (hv : Pv w' v f'.data.data.toList g)
    (hs : f'.syn ≤ f'.data.size) (hn : f'.name.size ≤ 40) (hl : f'.data.size ≤ 70368744177664) : Made [] f' [] w (.returned (.pointer (some ⟨b, 0, none⟩))) w' := by
  refine ⟨⟨f', b, p, v, g⟩, rfl, rfl, ⟨hh, hpp, hv, hs, hn, hl⟩, hb, ?_, t⟩
  intro k hk
  simp only [Px.own, List.mem_cons] at hk
  rcases hk with rfl | rfl | hk
  · exact .inr hb
  · exact .inr hp
  · exact .inr (hg k hk)
theorem Made.more {O O' : List Nat} {f' : Fl} {F : List Nat} {w : World} {e : Ending} {w' : World} (h : Made O f' F w e w') (ho : ∀ k ∈ O, k ∈ O') : Made O' f' F w e w' := by
  obtain ⟨y, h1, h2, h3, h4, h5, h6⟩ := h
  exact ⟨y, h1, h2, h3, h4, fun k hk => (h5 k hk).imp (ho k) id, h6⟩

set_option maxHeartbeats 1000000 in
theorem lasting_any {w : World} {x : Px} (h : FileAt w x) : Calls Tryz.prog 59 #[ptr x.b] w (Made x.mut (lastF x.f) [] w) := by
  obtain ⟨c0, c1, c2, c3, c4⟩ := head_cells h.head
  have k2 := alloc_cell c2
  have hf : Hid (∀ w' b, Touch [] w w' → w.heap.size ≤ b → w'.heap[b]? = some (.cells #[.string x.f.name, .pointer (some ⟨x.p, 0, none⟩), .int .i64 x.f.data.size, .int .i64 x.f.data.size, .bool true] tFile (0, 0)) → Made x.mut (lastF x.f) [] w (.returned (.pointer (some ⟨b, 0, none⟩))) w') :=
    hid fun w' b t hb hh => made_same h t hb (by simpa [lastF] using hh) rfl (Nat.le_refl _) h.len
  have hsz := h.small
  unfold ptr
  generalize Made x.mut (lastF x.f) [] w = M at *
  generalize x.f.data.size = n at *
  generalize x.f.syn = m at *
  generalize x.f.name = s at *
  generalize x.f.last = q at *
  clear h
  go_enter Tryz.func59, Tryz.ntmps59
  go_wp2
  exact hf.out _ _ ((Touch.refl [] w).alloc _) (Nat.le_refl _) (heap_alloc_new w _)

set_option maxHeartbeats 1000000 in
theorem named_any {w : World} {x : Px} (h : FileAt w x) (nm : ByteArray) (hn : nm.size ≤ 40) : Calls Tryz.prog 121 #[ptr x.b, .string nm] w (Made x.mut (namedF x.f nm) [] w) := by
  obtain ⟨c0, c1, c2, c3, c4⟩ := head_cells h.head
  have hf : Hid (∀ w' b, Touch [] w w' → w.heap.size ≤ b → w'.heap[b]? = some (.cells #[.string nm, .pointer (some ⟨x.p, 0, none⟩), .int .i64 x.f.data.size, .int .i64 x.f.syn, .bool x.f.last] tFile (0, 0)) → Made x.mut (namedF x.f nm) [] w (.returned (.pointer (some ⟨b, 0, none⟩))) w') :=
    hid fun w' b t hb hh => made_same h t hb hh rfl h.syn hn
  have C := hid fun w => clone_any nm w (by omega)
  unfold ptr
  generalize Made x.mut (namedF x.f nm) [] w = M at *
  generalize x.f.data.size = n at *
  generalize x.f.syn = m at *
  generalize x.f.name = s at *
  generalize x.f.last = q at *
  clear h hn
  go_enter Tryz.func121, Tryz.ntmps121
  go_wp2_with (go_at_call 32; with_reducible refine (C.out _).mono ?_; rintro e w1 ⟨rfl, t1⟩; have b1 := (t1.block w.heap.size (by simp) (by simp)).trans (heap_alloc_new w _); have k0 := cell_of b1 0; have f0 := free_of b1 0; have B1 := hid b1; have T1 := hid t1; clear b1 t1; simp at k0)
  exact hf.out _ _ ((((Touch.refl [] w).alloc _).trans T1.out (by simp)).setCell (.inr (Nat.le_refl _)) _) (Nat.le_refl _) (heap_set B1.out _)

theorem Pv.ne {w : World} {v : Value} {bs : List UInt8} {g : Option Nat} {b : Nat} {cs : Array Value} {t : TypeId} {fz : Nat × Nat} (h : Pv w v bs g) (hb : w.heap[b]? = some (.cells cs t fz)) (ht : t ≠ tU8) : ∀ k ∈ g.toList, k ∉ [b] := by
  rcases h with ⟨_, _, rfl⟩ | ⟨k, c, _, ⟨cur, fz, hk, _⟩, rfl⟩
  · simp
  · intro k' hk' hm
    simp at hk' hm
    subst hk'
    exact ne_type hb hk ht hm.symm
theorem min_len (b : ByteArray) (n : Nat) (h : n ≤ b.size) : (b.extract 0 n).size = n := by
  rw [ByteArray.size_extract]; omega
theorem ext_all (b : ByteArray) : b.extract 0 b.size = b := by
  apply ByteArray.ext
  simp
theorem ext_take (b : ByteArray) (n : Nat) : (b.extract 0 n).data.toList = b.data.toList.take n := by
  rw [ByteArray.data_extract, Array.toList_extract]
  simp [List.extract]

/-- slices.Clone of the first n bytes. -/
theorem clone_take {w w1 : World} {v : Value} {b : ByteArray} {g : Option Nat} (h : Pv w v b.data.toList g) (t : Touch [] w w1) (n : Nat) (hn : n < b.size) (hs : b.size ≤ 70368744177664) :
    ∃ k c, v = .slice (some ⟨k, 0, none⟩) b.size c ∧ b.size ≤ c ∧ c ≤ maxLen ∧ ∀ c2, Calls Tryz.prog 98 #[.slice (some ⟨k, 0, none⟩) n c2] w1 fun e w' => ∃ y m c3 g', e = .returned (.slice y m c3) ∧ Pv w' (.slice y m c3) (b.extract 0 n).data.toList g' ∧ (∀ k ∈ g'.toList, w.heap.size ≤ k) ∧ Touch [] w1 w' := by
  rcases h with ⟨_, h0, _⟩ | ⟨k, c, rfl, hb, rfl⟩
  · have := list_len b
    rw [h0] at this
    simp at this
    omega
  have hbc := hb.of_heap (w' := w1) (t.block k hb.lt (by simp))
  obtain ⟨cur, fz, _, _, h1, h2, _⟩ := id hb
  rw [list_len] at h1
  refine ⟨k, c, by rw [list_len], h1, h2, fun c2 => ?_⟩
  have hl := list_len b
  refine (clone_u8_some k c2 n ((b.data.toList.take n).map fun b => Value.int .u8 b.toNat) w1 (by rw [List.length_map, List.length_take]; omega) (by omega) (fun j u hj => ?_) (fun u hu => by obtain ⟨_, _, rfl⟩ := List.mem_map.1 hu; rfl)).mono ?_
  · refine hbc.cells j u ?_
    rw [List.map_take, List.getElem?_take] at hj
    split at hj
    · exact hj
    · cases hj
  · rintro e w' ⟨v', rfl, ho, t2⟩
    rw [← ext_take] at ho
    obtain ⟨g', q1, q2⟩ := pv_of_own ho (by rw [list_len, min_len _ _ (by omega)])
    obtain ⟨y, c3, rfl, _, _⟩ := pv_form q1
    exact ⟨y, _, c3, g', rfl, q1, by subst q2; intro k hk; exact Nat.le_trans t.size (own_base ho k hk), t2⟩

theorem clone_bytes_at {w w1 : World} {v : Value} {bs : List UInt8} {g : Option Nat} (h : Pv w v bs g) (t : Touch [] w w1) (hn : bs.length ≤ 70368744177664) :
    Calls Tryz.prog 98 #[v] w1 fun e w' => ∃ y n c g', e = .returned (.slice y n c) ∧ Pv w' (.slice y n c) bs g' ∧ (∀ k ∈ g'.toList, w.heap.size ≤ k) ∧ Touch [] w1 w' := by
  refine (clone_bytes (h.touch t (by simp)) hn).mono ?_
  rintro e w' ⟨v', g', rfl, q2, q3, q4⟩
  obtain ⟨y, c, rfl, _, _⟩ := pv_form q2
  exact ⟨y, _, c, g', rfl, q2, fun k hk => Nat.le_trans t.size (q3 k hk), q4⟩

/-- Behind a new pool, and stores into the new file's block alone. -/
theorem fin_new {w w2 W' : World} {v : Value} {bs : List UInt8} {g : Option Nat} {b : Nat} {cs : Array Value} (P : Pv w2 v bs g) (t2 : Touch [] w w2) (hb2 : w2.heap[b]? = some (.cells cs tFile (0, 0))) (hb : w.heap.size ≤ b) (t : Touch [b] (w2.alloc (.cells #[v] tPool)) W') :
    Touch [] w W' ∧ w.heap.size ≤ w2.heap.size ∧ W'.heap[w2.heap.size]? = some (.cells #[v] tPool (0, 0)) ∧ Pv W' v bs g := by
  refine ⟨((t2.alloc _).trans t (fun k hk => ?_)), t2.size, (t.block _ (by simp) ?_).trans (heap_alloc_new w2 _), P.touch (((Touch.refl _ w2).alloc _).trans t (fun k hk => .inl hk)) (P.ne hb2 (by decide))⟩
  · simp at hk; subst hk; exact .inr hb
  · have := lt_of_block hb2
    simp; omega

set_option maxHeartbeats 1000000 in
theorem cut_any {w : World} {x : Px} (h : FileAt w x) (n : Nat) (hn : n ≤ x.f.data.size) : Calls Tryz.prog 58 #[ptr x.b, .int .i64 n] w (Made x.mut (cutF x.f n) [] w) := by
  obtain ⟨c0, c1, c2, c3, c4⟩ := head_cells h.head
  have k2 := alloc_cell c2
  have k3 := alloc_cell c3
  have hsz := h.small
  have hsy := h.syn
  have hmin : Hid (min (x.f.syn : Int) (n : Int) = ((min x.f.syn n : Nat) : Int)) := hid (by omega)
  by_cases hlt : n < x.f.data.size
  · have hf : Hid (∀ w' b p v g, Touch [] w w' → w.heap.size ≤ b → w.heap.size ≤ p → (∀ k ∈ g.toList, w.heap.size ≤ k) → w'.heap[b]? = some (.cells #[.string x.f.name, .pointer (some ⟨p, 0, none⟩), .int .i64 n, .int .i64 ((min x.f.syn n : Nat) : Int), .bool x.f.last] tFile (0, 0)) →
        w'.heap[p]? = some (.cells #[v] tPool (0, 0)) → Pv w' v (x.f.data.extract 0 n).data.toList g → Made x.mut (cutF x.f n) [] w (.returned (.pointer (some ⟨b, 0, none⟩))) w') :=
      hid fun w' b p v g t hb hp hg hh hpp hv => (made_new (f' := cutF x.f n) t hb hp hg (by rw [hh]; simp only [cutF, min_len _ _ hn]) hpp hv (by simp only [cutF, min_len _ _ hn]; omega) h.len (by simp only [cutF, min_len _ _ hn]; omega)).more (by simp)
    have C1 := hid fun w1 (t : Touch [] w w1) => bytes_any (h.touch t (by simp))
    have C2 := hid fun w1 (t : Touch [] w w1) => clone_take h.pv t n hlt hsz
    obtain ⟨kb, cb, hv, hcb, hcm, -⟩ := C2.out w (Touch.refl _ _)
    replace C2 : Hid (∀ w1, Touch [] w w1 → ∀ c2, Calls Tryz.prog 98 #[.slice (some ⟨kb, 0, none⟩) n c2] w1 fun e w' => ∃ y m c3 g', e = .returned (.slice y m c3) ∧ Pv w' (.slice y m c3) (x.f.data.extract 0 n).data.toList g' ∧ (∀ k ∈ g'.toList, w.heap.size ≤ k) ∧ Touch [] w1 w') := hid fun w1 t => by
      obtain ⟨k', c', hv', -, -, hc⟩ := C2.out w1 t
      rw [hv] at hv'
      cases hv'
      exact hc
    rw [hv] at C1
    unfold ptr at C1 ⊢
    have hcm' : cb ≤ 9223372036854775807 := hcm
    generalize Made x.mut (cutF x.f n) [] w = M at *
    generalize x.f.data.extract 0 n = ex at *
    generalize min x.f.syn n = mn at *
    generalize x.f.data.size = sz at *
    generalize x.f.syn = m at *
    generalize x.f.name = s at *
    generalize x.f.last = q at *
    have hmi : min (m : Int) (n : Int) = (mn : Int) := hmin.out
    clear h hv hcm hsy hn
    have hlt' : (n : Int) < sz := by omega
    have hnc : n ≤ cb := by omega
    clear hlt
    go_enter Tryz.func58, Tryz.ntmps58
    go_wp2_with (first
      | (go_at_call 99; with_reducible refine (C1.out _ ((Touch.refl [] w).alloc _)).mono ?_; rintro e w1 ⟨rfl, t1⟩; have b1 := (t1.block w.heap.size (by simp) (by simp)).trans (heap_alloc_new w _); have B1 := hid b1; have T1 := hid (((Touch.refl [] w).alloc _).trans t1 (by simp)); clear b1 t1)
      | (go_at_call 98; with_reducible refine (C2.out _ T1.out _).mono ?_; rintro e w2 ⟨y2, n2, c9, g2, rfl, p2, o2, t2⟩; have b2 := (t2.block w.heap.size (lt_of_block B1.out) (by simp)).trans B1.out; have hs2 := hid (lt_of_block b2); have b3 := fun o : Obj => (((Touch.refl [] w2).alloc o).block w.heap.size hs2.out (by simp)).trans b2; have k1 := fun o : Obj => cell_of (b3 o) 1; have f1 := fun o : Obj => free_of (b3 o) 1; have B3 := hid b3; have B2 := hid b2; have P2 := hid (And.intro p2 (And.intro o2 (T1.out.trans t2 (by simp)))); have m2 := fun o : Obj => cell_of (b3 o) 2; have m3 := fun o : Obj => cell_of (b3 o) 3; have f2 := fun o : Obj => free_of (b3 o) 2; have f3 := fun o : Obj => free_of (b3 o) 3; have r3 := fun o : Obj => touch_cell (((Touch.refl [] w).trans P2.out.2.2 (by simp)).alloc o) c3 (by simp); clear b2 b3 p2 o2 t2; simp at k1 m2 m3))
    obtain ⟨q1, q2, q3, q4⟩ := fin_new P2.out.1 P2.out.2.2 B2.out (Nat.le_refl _) (W' := ((((w2.alloc (.cells #[.slice y2 n2 c9] tPool)).setCell ⟨w.heap.size, 1, none⟩ (.pointer (some ⟨w2.heap.size, 0, none⟩))).setCell ⟨w.heap.size, 2, none⟩ (.int .i64 n)).setCell ⟨w.heap.size, 3, none⟩ (.int .i64 mn)))
      ((((Touch.refl _ _).setCell (.inl (by simp)) _).setCell (.inl (by simp)) _).setCell (.inl (by simp)) _)
    exact hf.out _ w.heap.size w2.heap.size (.slice y2 n2 c9) g2 q1 (Nat.le_refl _) q2 P2.out.2.1 (heap_set (i := 3) (heap_set (i := 2) (heap_set (i := 1) (B3.out _) _) _) _) q3 q4
  · obtain rfl : n = x.f.data.size := by omega
    have hc : Hid ((cutF x.f x.f.data.size).data = x.f.data) := hid (ext_all _)
    have hf : Hid (∀ w' b, Touch [] w w' → w.heap.size ≤ b → w'.heap[b]? = some (.cells #[.string x.f.name, .pointer (some ⟨x.p, 0, none⟩), .int .i64 x.f.data.size, .int .i64 ((min x.f.syn x.f.data.size : Nat) : Int), .bool x.f.last] tFile (0, 0)) → Made x.mut (cutF x.f x.f.data.size) [] w (.returned (.pointer (some ⟨b, 0, none⟩))) w') :=
      hid fun w' b t hb hh => made_same h t hb (by rw [hh]; rfl) hc.out (by simp only [cutF]; omega) h.len
    unfold ptr
    generalize Made x.mut (cutF x.f x.f.data.size) [] w = M at *
    generalize min x.f.syn x.f.data.size = mn at *
    clear hc
    generalize x.f.data.size = sz at *
    generalize x.f.syn = m at *
    generalize x.f.name = s at *
    generalize x.f.last = q at *
    have hmi : min (m : Int) (sz : Int) = (mn : Int) := hmin.out
    clear h hsy hn hlt
    go_enter Tryz.func58, Tryz.ntmps58
    go_wp2
    exact hf.out _ _ ((Touch.refl [] w).alloc _) (Nat.le_refl _) (heap_alloc_new w _)
end Go.Proofs.YtjjocnkockeacaaGreatDoor
