/- Forward and Backward. -/
import Derived.Test.YtmgglmoiepjebaaPage16
import Derived.Stop.RegionWithIn
namespace Go.Proofs.Ytmgglmoiepjebaa
open Go.RowKit Go.Lib Go.Shelf
set_option maxRecDepth 100000

/-- What a page tells. -/
def PageR (w : World) (l : List StoD) (nx : Int) (en : Bool) (r : Ending) (w' : World) : Prop :=
  ∃ v, r = .returned (.tuple #[.agg #[v, .int .i64 nx, .bool en], .int .i64 0]) ∧ w'.ownsRow w.heap.size TSto 8 v l.length (stoVals l) ∧ Touch [] w w'
def fwdL (L : List StoD) (from_ n : Int) : List StoD := ((L.filter (fwdP from_)).take n.toNat).map canS
def fwdN (L : List StoD) (from_ n : Int) : Int := nxt aboveV from_ ((L.filter (fwdP from_)).take n.toNat)
def fwdE (L : List StoD) (from_ n : Int) : Bool := decide ((L.filter (fwdP from_)).length ≤ n.toNat)
def bwdL (L : List StoD) (from_ n : Int) : List StoD := ((L.reverse.filter (bwdP from_)).take n.toNat).map canS
def bwdN (L : List StoD) (from_ n : Int) : Int := nxt belowV from_ ((L.reverse.filter (bwdP from_)).take n.toNat)
def bwdE (L : List StoD) (from_ n : Int) : Bool := decide ((L.reverse.filter (bwdP from_)).length ≤ n.toNat)
/-- The cells of a page's block. -/
theorem pg_cells {W : World} {b : Nat} {x y z : Value} (h : W.heap[b]? = some (.cells #[x, y, z] TPage (0, 0))) : W.cell? ⟨b, 0, none⟩ = some x ∧ W.cell? ⟨b, 1, none⟩ = some y ∧ W.cell? ⟨b, 2, none⟩ = some z := ⟨cell_of h 0, cell_of h 1, cell_of h 2⟩
theorem pg_free {W : World} {b : Nat} {x y z : Value} (h : W.heap[b]? = some (.cells #[x, y, z] TPage (0, 0))) : W.frozen? ⟨b, 0, none⟩ = false ∧ W.frozen? ⟨b, 1, none⟩ = false ∧ W.frozen? ⟨b, 2, none⟩ = false := ⟨free_of h 0, free_of h 1, free_of h 2⟩

set_option maxHeartbeats 4000000 in
theorem forward_any (from_ n : Int) (hf0 : 0 ≤ from_) (hn0 : 1 ≤ n) (hn1 : n ≤ 100) (x : Option Addr) (c : Nat) (L : List StoD) (w : World) (hX : StoX w x L) (hG : ∀ s ∈ L, Good s) (nL : L.length ≤ 1000000) :
    Calls Try.prog 15 #[.slice x L.length c, .int .i64 from_, .int .i64 n] w (PageR w (fwdL L from_ n) (fwdN L from_ n) (fwdE L from_ n)) := by
  obtain ⟨W0, hW0⟩ : ∃ W0, W0 = (w.alloc (.cells #[.int .i64 from_] 3)).alloc (.cells #[.slice none 0 0, .int .i64 0, .bool false] TPage) := ⟨_, rfl⟩
  have t0 : Touch [] w W0 := by rw [hW0]; exact ((Touch.refl [] w).alloc _).alloc _
  have hsz : W0.heap.size = w.heap.size + 2 := by rw [hW0]; simp
  have b4 : W0.heap[w.heap.size]? = some (.cells #[.int .i64 from_] 3 (0, 0)) := by rw [hW0]; exact heap_alloc_keep (heap_alloc_new w _) _
  have b6 : W0.heap[w.heap.size + 1]? = some (.cells #[.slice none 0 0, .int .i64 0, .bool false] TPage (0, 0)) := by
    rw [hW0]
    exact new_at_two w _ _
  have c4 := cell_of b4 0
  simp only [List.getElem?_toArray, List.getElem?_cons_zero] at c4
  have CP : Hid (∀ W b, Touch [] W0 W → W.cell? ⟨b, 0, none⟩ = some (.slice x L.length c) → Calls Try.prog 25 #[.func (.func 37) #[] #[.pointer (some ⟨b, 0, none⟩)], .int .i64 from_, .int .i64 n, .func (.func 24) #[] #[.pointer (some ⟨w.heap.size, 0, none⟩)], .func (.func 27) #[] #[]] W fun r w' =>
      ∃ v, r = .returned (.tuple #[.agg #[v, .int .i64 (fwdN L from_ n), .bool (fwdE L from_ n)], .int .i64 0]) ∧ w'.ownsRow W.heap.size TSto 8 v (fwdL L from_ n).length (stoVals (fwdL L from_ n)) ∧ Touch [] W w') := hid fun W b t hb =>
    (pageF_any from_ n hf0 hn0 hn1 w.heap.size b x c L W (hX.touch (t0.trans t (by simp))) hG nL (t.cell c4) hb).mono fun r w' ⟨v, h1, h2, h3⟩ => ⟨v, h1, by unfold fwdL; rw [List.length_map]; exact h2, h3⟩
  have HB := hid b6
  have HT := hid t0
  have HS := hid hsz
  clear hX hG b4 b6 t0 hsz hf0 hn0 hn1
  unfold PageR
  generalize fwdN L from_ n = nn at *
  generalize fwdE L from_ n = ee at *
  generalize fwdL L from_ n = ll at *
  go_enter Try.func15, Try.ntmps15
  go_upto_region 2 with fail
  simp only [TPage] at hW0
  rw [← hW0]
  clear hW0
  have tt : Touch [] W0 W0.drew := (Touch.refl [] W0).drew
  have k4 : W0.drew.cell? ⟨w.heap.size, 0, none⟩ = some (.int .i64 from_) := c4
  go_region_held3 (fun w' => w'.cell? ⟨w.heap.size, 0, none⟩ = some (.int .i64 from_)) (first | go_keep | exact Touch.cell tt c4 | assumption) (first
    | (go_at_call 26; refine (all16_any x L.length c _).mono ?_; rintro e w' ⟨rfl, rfl⟩; have tt := tt.alloc (.cells #[.slice x L.length c] 22))
    | (go_at_call 25; refine (CP.out _ _ tt (cell_of (heap_alloc_new _ _) 0)).mono ?_; rintro e w3 ⟨v, rfl, hrow, t3⟩; obtain ⟨y, cap, rfl, -, -⟩ := slice_form hrow; have tt := tt.trans t3 (by simp); have hq := touch_other tt HB.out (by simp); obtain ⟨z0, z1, z2⟩ := pg_cells hq; obtain ⟨f0, f1, f2⟩ := pg_free hq; have HQ := hid hq; have HR := hid hrow; have k4 := tt.cell c4; clear hq hrow))
  have T3 := hid (HT.out.trans tt (by simp))
  have R3 : Hid (w3.ownsRow w.heap.size TSto 8 (.slice y ll.length cap) ll.length (stoVals ll)) := hid (own_base HR.out (by have := HS.out; simp; omega))
  obtain ⟨W5, hW5⟩ : ∃ W5, W5 = ((w3.setCell ⟨w.heap.size + 1, 0, none⟩ (.slice y ll.length cap)).setCell ⟨w.heap.size + 1, 1, none⟩ (.int .i64 nn)).setCell ⟨w.heap.size + 1, 2, none⟩ (.bool ee) := ⟨_, rfl⟩
  have A5 : W5.heap[w.heap.size + 1]? = some (.cells #[.slice y ll.length cap, .int .i64 nn, .bool ee] TPage (0, 0)) := by rw [hW5]; exact heap_set (heap_set (heap_set HQ.out _) _) _
  have R5 : W5.ownsRow w.heap.size TSto 8 (.slice y ll.length cap) ll.length (stoVals ll) := by
    rw [hW5]
    refine row_stays R3.out fun j hj => ?_
    obtain ⟨h1, -⟩ := row_lt HR.out hj
    have h2 := HS.out
    simp at h1
    exact (heap_set_other _ (by simp; omega)).trans ((heap_set_other _ (by simp; omega)).trans (heap_set_other _ (by simp; omega)))
  have T5 : Touch [] w W5 := by rw [hW5]; exact ((T3.out.setCell (.inr (by simp)) _).setCell (.inr (by simp)) _).setCell (.inr (by simp)) _
  rw [← hW5]
  obtain ⟨c0, c1, c2⟩ := pg_cells A5
  clear hW5
  go_wp2
  exact bodyPost_ret (v := .tuple #[.agg #[.slice y ll.length cap, .int .i64 nn, .bool ee], .int .i64 0]) (by simp [results, Try.results15, go_sem, c0, c1, c2]) rfl ⟨_, rfl, R5, T5⟩

set_option maxHeartbeats 4000000 in
theorem backward_any (from_ n : Int) (hf0 : 0 ≤ from_) (hn0 : 1 ≤ n) (hn1 : n ≤ 100) (x : Option Addr) (c : Nat) (L : List StoD) (w : World) (hX : StoX w x L) (hG : ∀ s ∈ L, Good s) (nL : L.length ≤ 1000000) :
    Calls Try.prog 16 #[.slice x L.length c, .int .i64 from_, .int .i64 n] w (PageR w (bwdL L from_ n) (bwdN L from_ n) (bwdE L from_ n)) := by
  obtain ⟨W0, hW0⟩ : ∃ W0, W0 = (w.alloc (.cells #[.int .i64 from_] 3)).alloc (.cells #[.slice none 0 0, .int .i64 0, .bool false] TPage) := ⟨_, rfl⟩
  have t0 : Touch [] w W0 := by rw [hW0]; exact ((Touch.refl [] w).alloc _).alloc _
  have hsz : W0.heap.size = w.heap.size + 2 := by rw [hW0]; simp
  have b4 : W0.heap[w.heap.size]? = some (.cells #[.int .i64 from_] 3 (0, 0)) := by rw [hW0]; exact heap_alloc_keep (heap_alloc_new w _) _
  have b6 : W0.heap[w.heap.size + 1]? = some (.cells #[.slice none 0 0, .int .i64 0, .bool false] TPage (0, 0)) := by
    rw [hW0]
    exact new_at_two w _ _
  have c4 := cell_of b4 0
  simp only [List.getElem?_toArray, List.getElem?_cons_zero] at c4
  have CP : Hid (∀ W b, Touch [] W0 W → W.cell? ⟨b, 0, none⟩ = some (.slice x L.length c) → Calls Try.prog 25 #[.func (.func 38) #[] #[.pointer (some ⟨b, 0, none⟩)], .int .i64 from_, .int .i64 n, .func (.func 28) #[] #[.pointer (some ⟨w.heap.size, 0, none⟩)], .func (.func 30) #[] #[]] W fun r w' =>
      ∃ v, r = .returned (.tuple #[.agg #[v, .int .i64 (bwdN L from_ n), .bool (bwdE L from_ n)], .int .i64 0]) ∧ w'.ownsRow W.heap.size TSto 8 v (bwdL L from_ n).length (stoVals (bwdL L from_ n)) ∧ Touch [] W w') := hid fun W b t hb =>
    (pageB_any from_ n hf0 hn0 hn1 w.heap.size b x c L W (hX.touch (t0.trans t (by simp))) hG nL (t.cell c4) hb).mono fun r w' ⟨v, h1, h2, h3⟩ => ⟨v, h1, by unfold bwdL; rw [List.length_map]; exact h2, h3⟩
  have HB := hid b6
  have HT := hid t0
  have HS := hid hsz
  clear hX hG b4 b6 t0 hsz hf0 hn0 hn1
  unfold PageR
  generalize bwdN L from_ n = nn at *
  generalize bwdE L from_ n = ee at *
  generalize bwdL L from_ n = ll at *
  go_enter Try.func16, Try.ntmps16
  go_upto_region 2 with fail
  simp only [TPage] at hW0
  rw [← hW0]
  clear hW0
  have tt : Touch [] W0 W0.drew := (Touch.refl [] W0).drew
  have k4 : W0.drew.cell? ⟨w.heap.size, 0, none⟩ = some (.int .i64 from_) := c4
  go_region_held3 (fun w' => w'.cell? ⟨w.heap.size, 0, none⟩ = some (.int .i64 from_)) (first | go_keep | exact Touch.cell tt c4 | assumption) (first
    | (go_at_call 29; refine (bwd16_any x L.length c _).mono ?_; rintro e w' ⟨rfl, rfl⟩; have tt := tt.alloc (.cells #[.slice x L.length c] 22))
    | (go_at_call 25; refine (CP.out _ _ tt (cell_of (heap_alloc_new _ _) 0)).mono ?_; rintro e w3 ⟨v, rfl, hrow, t3⟩; obtain ⟨y, cap, rfl, -, -⟩ := slice_form hrow; have tt := tt.trans t3 (by simp); have hq := touch_other tt HB.out (by simp); obtain ⟨z0, z1, z2⟩ := pg_cells hq; obtain ⟨f0, f1, f2⟩ := pg_free hq; have HQ := hid hq; have HR := hid hrow; have k4 := tt.cell c4; clear hq hrow))
  have T3 := hid (HT.out.trans tt (by simp))
  have R3 : Hid (w3.ownsRow w.heap.size TSto 8 (.slice y ll.length cap) ll.length (stoVals ll)) := hid (own_base HR.out (by have := HS.out; simp; omega))
  obtain ⟨W5, hW5⟩ : ∃ W5, W5 = ((w3.setCell ⟨w.heap.size + 1, 0, none⟩ (.slice y ll.length cap)).setCell ⟨w.heap.size + 1, 1, none⟩ (.int .i64 nn)).setCell ⟨w.heap.size + 1, 2, none⟩ (.bool ee) := ⟨_, rfl⟩
  have A5 : W5.heap[w.heap.size + 1]? = some (.cells #[.slice y ll.length cap, .int .i64 nn, .bool ee] TPage (0, 0)) := by rw [hW5]; exact heap_set (heap_set (heap_set HQ.out _) _) _
  have R5 : W5.ownsRow w.heap.size TSto 8 (.slice y ll.length cap) ll.length (stoVals ll) := by
    rw [hW5]
    refine row_stays R3.out fun j hj => ?_
    obtain ⟨h1, -⟩ := row_lt HR.out hj
    have h2 := HS.out
    simp at h1
    exact (heap_set_other _ (by simp; omega)).trans ((heap_set_other _ (by simp; omega)).trans (heap_set_other _ (by simp; omega)))
  have T5 : Touch [] w W5 := by rw [hW5]; exact ((T3.out.setCell (.inr (by simp)) _).setCell (.inr (by simp)) _).setCell (.inr (by simp)) _
  rw [← hW5]
  obtain ⟨c0, c1, c2⟩ := pg_cells A5
  clear hW5
  go_wp2
  exact bodyPost_ret (v := .tuple #[.agg #[.slice y ll.length cap, .int .i64 nn, .bool ee], .int .i64 0]) (by simp [results, Try.results16, go_sem, c0, c1, c2]) rfl ⟨_, rfl, R5, T5⟩
end Go.Proofs.Ytmgglmoiepjebaa
