/- EventMany, walked. -/
import Derived.Test.YtcihnfgfficmlaaAlive7
import Derived.Test.YtcihnfgfficmlaaArg7
import Derived.Deep.AppendLies
namespace Go.Proofs.Ytcihnfgfficmlaa
open Go.RowKit Go.Lib
set_option maxRecDepth 100000

/-- So many events, each as it may be. -/
def manyL (n : Nat) : List EvD := (List.range n).map fun i : Nat => ⟨(i : Int) + 1, ⟨#[116]⟩, ⟨#[]⟩, 0⟩
theorem manyL_len (n : Nat) : (manyL n).length = n := by simp [manyL]
theorem manyL_succ (n : Nat) : manyL (n + 1) = manyL n ++ [⟨(n : Int) + 1, ⟨#[116]⟩, ⟨#[]⟩, 0⟩] := by simp [manyL, List.range_succ]
theorem manyE_valid (i : Nat) : validE ⟨(i : Int) + 1, ⟨#[116]⟩, ⟨#[]⟩, 0⟩ = true := by
  unfold validE
  simp only []
  rw [show strm (ByteArray.mk #[116]).data.toList = true by decide +kernel, decide_eq_true (show (1 : Int) ≤ (i : Int) + 1 by omega)]
  rfl
theorem manyL_valid (n : Nat) : (manyL n).all validE = true := by
  rw [List.all_eq_true]
  intro e he
  obtain ⟨i, _, rfl⟩ := List.mem_map.1 he
  exact manyE_valid i
theorem manyL_ok (n : Nat) (h : n ≤ 100) : ∀ e ∈ manyL n, e.Ok := by
  intro e he
  obtain ⟨i, hi, rfl⟩ := List.mem_map.1 he
  have := List.mem_range.1 hi
  exact ⟨by simp only []; omega, by simp only []; omega, by show (1 : Nat) ≤ 9223372036854775807; decide, by show (0 : Nat) ≤ 9223372036854775807; decide, by show (0 : Nat) < 18446744073709551616; decide⟩
theorem many_check (L : List EvD) (h : L ≠ []) : checkC ⟨1, 0, ⟨#[115]⟩, -2, L, 0, 0, 0⟩ = if 8 < L.length then 2 else if L.all validE = true then 0 else 1 := by
  unfold checkC
  simp only []
  rw [if_neg (by unfold great; omega), if_neg (by decide +kernel), if_neg (by simp [h])]
  by_cases h8 : 8 < L.length
  · rw [if_pos ⟨trivial, h8⟩, if_pos h8]
  rw [if_neg (by simp [h8]), if_neg h8]
  by_cases hv : L.all validE = true
  · rw [if_pos hv, if_neg (by rw [hv]; simp), if_neg (by decide +kernel), if_neg (by simp), if_neg (by simp)]
  · rw [if_neg hv, if_pos ⟨trivial, by simpa using hv⟩]
theorem set_valid (n k : Nat) (h : k < n) (bad : EvD) : ((manyL n).set k bad).all validE = validE bad := by
  have hk : k < (manyL n).length := by rw [manyL_len]; exact h
  cases hb : validE bad
  · rw [Bool.eq_false_iff]
    intro e
    have := List.all_eq_true.1 e bad (List.mem_iff_getElem.2 ⟨k, by rw [List.length_set]; exact hk, by simp⟩)
    rw [hb] at this
    cases this
  · rw [List.all_eq_true]
    intro e he
    rcases List.mem_or_eq_of_mem_set he with h1 | h1
    · exact List.all_eq_true.1 (manyL_valid n) e h1
    · rw [h1]; exact hb

/-- While the events are laid: the spoilt one's block hb, the command's block hc, its events' row. -/
structure Mn (w W : World) (hb hc : Nat) (bad : Array Value) (v : Value) (l : List EvD) : Prop where
  x : W.heap[hb]? = some (.cells bad tEv (0, 0))
  b : W.heap[hc]? = some (.cells #[.int .i64 1, .int .i64 0, .string ⟨#[115]⟩, .int .i64 (-2), v, .int .i64 0, .int .i64 0, .int .i64 0] tCmd (0, 0))
  o : W.ownsRow (hc + 1) tEv 4 v l.length (evCells l)
  t : Touch [] w W
  lb : w.heap.size ≤ hb
  bc : hb < hc
theorem Mn.fc {w W : World} {hb hc : Nat} {bad : Array Value} {v : Value} {l : List EvD} (h : Mn w W hb hc bad v l) : v.ownBlock ≠ some hc := fun e => by have := (owns_lt h.o hc e).2; omega
theorem Mn.fb {w W : World} {hb hc : Nat} {bad : Array Value} {v : Value} {l : List EvD} (h : Mn w W hb hc bad v l) : v.ownBlock ≠ some hb := fun e => by have := (owns_lt h.o hb e).2; have := h.bc; omega
theorem Mn.app {w w3 w4 : World} {hb hc g cap : Nat} {bad : Array Value} {v : Value} {l : List EvD} {e : EvD} (h : Mn w w3 hb hc bad v l) (O : Obj)
    (hown : w4.ownsRow (hc + 1) tEv 4 (.slice (some ⟨g, 0, none⟩) (l.length + 1) cap) (l.length + 1) (evCells l ++ [.int .i64 e.id, .string e.typ, .string e.data, .float .f64 e.val])) (hg : (w3.alloc O).grownBy w4 v.ownBlock) :
    Mn w (w4.setCell ⟨hc, 4, none⟩ (.slice (some ⟨g, 0, none⟩) (l.length + 1) cap)) hb hc bad (.slice (some ⟨g, 0, none⟩) (l.length + 1) cap) (l ++ [e]) := by
  have hx := lt_of_block h.x
  have hcl := lt_of_block h.b
  have hs : (w3.alloc O).heap.size = w3.heap.size + 1 := by simp
  have keep : ∀ k, k < w3.heap.size → v.ownBlock ≠ some k → w4.heap[k]? = w3.heap[k]? := fun k hk hne => (hg.block k (by omega) (fun e => hne e.symm)).trans (Below.heap_alloc w3 O k hk)
  have g1 : g ≠ hc := by have := (owns_lt hown g (by simp [Value.ownBlock])).2; omega
  have hbc := h.bc
  have hset := heap_set (i := 4) ((keep hc hcl h.fc).trans h.b) (.slice (some ⟨g, 0, none⟩) (l.length + 1) cap)
  simp only [List.setIfInBounds_toArray, List.set_cons_succ, List.set_cons_zero] at hset
  refine ⟨(heap_set_other _ (by show hb ≠ hc; omega)).trans ((keep hb hx h.fb).trans h.x), hset, ?_, ?_, h.lb, h.bc⟩
  · rw [evCells_snoc, List.length_append]
    exact owns_same hown (fun k hk => heap_set_other _ (by simp [Value.ownBlock] at hk; subst hk; exact g1))
  · refine ((h.t.alloc O).grown hg ?_).setCell (.inr (by have := h.lb; show w.heap.size ≤ hc; omega)) _
    intro k hk
    exact .inr (by have := (owns_lt h.o k hk).2; have := h.lb; omega)
theorem Mn.touch {w W W' : World} {hb hc : Nat} {bad : Array Value} {v : Value} {l : List EvD} (h : Mn w W hb hc bad v l) (t : Touch [] W W') : Mn w W' hb hc bad v l :=
  ⟨touch_blk0 t h.x, touch_blk0 t h.b, owns_same h.o (fun g hg => t.block g (owns_lt h.o g hg).1 (by simp)), h.t.trans t (by simp), h.lb, h.bc⟩

set_option maxHeartbeats 4000000 in
theorem many_early (n k : Int) (bad : EvD) (w : World) (h : n < 1 ∨ (1 ≤ n ∧ 12 < n) ∨ (1 ≤ n ∧ n ≤ 12 ∧ k < 0) ∨ (1 ≤ n ∧ n ≤ 12 ∧ 0 ≤ k ∧ n ≤ k) ∨ (1 ≤ n ∧ n ≤ 12 ∧ 0 ≤ k ∧ k < n ∧ 100 < bad.typ.size) ∨ (1 ≤ n ∧ n ≤ 12 ∧ 0 ≤ k ∧ k < n ∧ bad.typ.size ≤ 100 ∧ 300 < bad.data.size)) :
    Calls Try.prog 8 #[.int .i64 n, .int .i64 k, bad.agg] w fun e w' => e = .returned (.bool true) ∧ Touch [] w w' := by
  have CA := hid alive_true
  unfold EvD.agg
  obtain ⟨B0, B1, B2, B3⟩ := bad
  simp only [] at h ⊢
  rcases h with h | ⟨h1, h⟩ | ⟨h1, h2, h⟩ | ⟨h1, h2, h3, h⟩ | ⟨h1, h2, h3, h4, h⟩ | ⟨h1, h2, h3, h4, h5, h⟩
  rotate_left 4
  have h : (100 : Int) < B1.size := by omega
  rotate_left
  have h5 : (B1.size : Int) ≤ 100 := by omega
  have h : (300 : Int) < B2.size := by omega
  rotate_right 5
  all_goals
    go_enter Try.func8, Try.ntmps8
    go_wp2_with (go_at_call 11; refine (CA.out _).mono ?_; rintro e w9 ⟨rfl, t9⟩)
    go_ret
    exact ⟨rfl, ((Touch.refl _ _).alloc _).trans t9 (by simp)⟩

theorem evX_row {W : World} {g : Nat} {cur : Array Value} {l : List EvD} (hh : W.heap[g]? = some (.cells cur tEv (0, 0))) (ht : cur.toList.take (l.length * 4) = evCells l) (hok : ∀ e ∈ l, e.Ok) : EvX W (some ⟨g, 0, none⟩) l := by
  intro i hi
  refine ⟨g, 0, rfl, ?_, hok _ (List.getElem_mem hi)⟩
  have hc : ∀ j, j < l.length * 4 → W.cell? ⟨g, j, none⟩ = (evCells l)[j]? := fun j hj => by
    rw [cell_of hh j, ← ht, List.getElem?_take, if_pos hj]
    simp
  obtain ⟨e0, e1, e2, e3⟩ := evCells_at l i hi
  refine ⟨?_, ?_, ?_, ?_⟩
  · rw [Nat.zero_add, hc _ (by omega)]; exact e0
  · rw [Nat.zero_add, hc _ (by omega)]; exact e1
  · rw [Nat.zero_add, hc _ (by omega)]; exact e2
  · rw [Nat.zero_add, hc _ (by omega)]; exact e3
theorem evX_set {W W' : World} {g k : Nat} {cur : Array Value} {l : List EvD} {bad : EvD} (hh : W.heap[g]? = some (.cells cur tEv (0, 0))) (ht : cur.toList.take (l.length * 4) = evCells l) (hs : l.length * 4 ≤ cur.size) (hk : k < l.length)
    (hh' : W'.heap[g]? = some (.cells ((((cur.setIfInBounds (k * 4) (.int .i64 bad.id)).setIfInBounds (k * 4 + 1) (.string bad.typ)).setIfInBounds (k * 4 + 2) (.string bad.data)).setIfInBounds (k * 4 + 3) (.float .f64 bad.val)) tEv (0, 0)))
    (hok : ∀ e ∈ l, e.Ok) (okb : bad.Ok) : EvX W' (some ⟨g, 0, none⟩) (l.set k bad) := by
  intro i hi
  rw [List.length_set] at hi
  by_cases he : i = k
  · subst he
    have e : (l.set i bad)[i] = bad := by simp
    refine ⟨g, 0, rfl, ?_, by rw [e]; exact okb⟩
    rw [e]
    refine ⟨?_, ?_, ?_, ?_⟩
    · rw [Nat.zero_add, cell_of hh' _]; simp [Array.getElem?_setIfInBounds]; omega
    · rw [Nat.zero_add, cell_of hh' _]; simp [Array.getElem?_setIfInBounds]; omega
    · rw [Nat.zero_add, cell_of hh' _]; simp [Array.getElem?_setIfInBounds]; omega
    · rw [Nat.zero_add, cell_of hh' _]; simp [Array.getElem?_setIfInBounds]; omega
  · have e : (l.set k bad)[i]'(by rw [List.length_set]; exact hi) = l[i] := by rw [List.getElem_set_ne (by omega)]
    obtain ⟨b, off, hb, h0, h1⟩ := evX_row hh ht hok i hi
    cases hb
    refine ⟨g, 0, rfl, ?_, by rw [e]; exact h1⟩
    rw [e]
    have far : ∀ c, c < 4 → W'.cell? ⟨g, 0 + i * 4 + c, none⟩ = W.cell? ⟨g, 0 + i * 4 + c, none⟩ := fun c hc => by
      rw [cell_of hh' _, cell_of hh _, Array.getElem?_setIfInBounds_ne (by omega), Array.getElem?_setIfInBounds_ne (by omega), Array.getElem?_setIfInBounds_ne (by omega), Array.getElem?_setIfInBounds_ne (by omega)]
    exact ⟨(far 0 (by decide)).trans h0.c0, (far 1 (by decide)).trans h0.c1, (far 2 (by decide)).trans h0.c2, (far 3 (by decide)).trans h0.c3⟩

set_option maxHeartbeats 4000000 in
theorem many_good (n k : Nat) (bad : EvD) (okb : bad.Ok) (w : World) (h1 : 1 ≤ n) (h2 : n ≤ 12) (h3 : k < n) (h4 : bad.typ.size ≤ 100) (h5 : bad.data.size ≤ 300) :
    Calls Try.prog 8 #[.int .i64 n, .int .i64 k, bad.agg] w fun e w' => e = .returned (.bool true) ∧ Touch [] w w' := by
  have CA := hid alive_true
  have CV := hid (fun w => evValid_any bad w)
  have CC := hid (fun w' y cap (hy : EvX w' y (manyL n)) => evCheck_any ⟨1, 0, ⟨#[115]⟩, -2, manyL n, 0, 0, 0⟩ y cap w' hy)
  have CD := hid (fun w' y cap (hy : EvX w' y ((manyL n).set k bad)) => evCheck_any ⟨1, 0, ⟨#[115]⟩, -2, (manyL n).set k bad, 0, 0, 0⟩ y cap w' hy)
  rw [many_check _ (by intro e; have := congrArg List.length e; rw [manyL_len] at this; simp at this; omega), manyL_len, manyL_valid, if_pos rfl] at CC
  rw [many_check _ (by intro e; have := congrArg List.length e; rw [List.length_set, manyL_len] at this; simp at this; omega), List.length_set, manyL_len, set_valid n k h3] at CD
  unfold CmdD.agg at CC CD
  simp only [List.length_set, manyL_len] at CC CD
  unfold EvD.agg at *
  have OKM := hid (manyL_ok n (by omega))
  have OKB := hid okb
  generalize hvb : validE bad = vb at *
  have hbd : Hid (∀ W hb, W.heap[hb]? = some (.cells #[.int .i64 bad.id, .string bad.typ, .string bad.data, .float .f64 bad.val] tEv (0, 0)) → EvAt W hb 0 0 bad) := fun W hb h => ⟨cell_of h 0, cell_of h 1, cell_of h 2, cell_of h 3⟩
  have HB := hid (rfl : bad = bad)
  have q1 : (1 : Int) ≤ n := by omega
  have q2 : (n : Int) ≤ 12 := by omega
  have q3 : (0 : Int) ≤ k := by omega
  have q4 : (k : Int) < n := by omega
  have q5 : (bad.typ.size : Int) ≤ 100 := by omega
  have q6 : (bad.data.size : Int) ≤ 300 := by omega
  have H1 := hid h1; have H2 := hid h2; have H3 := hid h3
  clear h1 h2 h3 h4 h5 okb hvb
  obtain ⟨W1, hW1⟩ : ∃ W1, W1 = w.alloc (.cells #[.int .i64 bad.id, .string bad.typ, .string bad.data, .float .f64 bad.val] 32) := ⟨_, rfl⟩
  have T1 : Hid (Touch [] w W1) := by rw [hW1]; exact hid ((Touch.refl [] w).alloc _)
  have X1 : Hid (W1.heap[w.heap.size]? = some (.cells #[.int .i64 bad.id, .string bad.typ, .string bad.data, .float .f64 bad.val] 32 (0, 0))) := by rw [hW1]; exact hid (heap_alloc_new w _)
  have hsf := store_flt
  go_enter Try.func8, Try.ntmps8
  go_upto_region 1 with fail
  rw [← hW1]
  clear hW1
  obtain ⟨x0, x1, x2, x3⟩ := cells4_of X1.out
  go_upto_region 4 with fail
  obtain ⟨W3, hW3⟩ : ∃ W3, W3 = W1.alloc (.cells #[.int .i64 1, .int .i64 0, .string ⟨#[115]⟩, .int .i64 (-2), .slice none 0 0, .int .i64 0, .int .i64 0, .int .i64 0] 26) := ⟨_, rfl⟩
  have M3 : Hid (Mn w W3 w.heap.size W1.heap.size #[.int .i64 bad.id, .string bad.typ, .string bad.data, .float .f64 bad.val] (.slice none 0 0) (manyL 0)) := by
    rw [hW3]
    exact hid ⟨touch_blk0 ((Touch.refl [] W1).alloc _) X1.out, heap_alloc_new W1 _, ⟨rfl, .inl ⟨rfl, rfl⟩⟩, T1.out.alloc _, Nat.le_refl _, lt_of_block X1.out⟩
  rw [← hW3]
  clear hW3 x0 x1 x2 x3 T1 X1
  generalize W1.heap.size = hc at *
  generalize hhb : w.heap.size = hb at *
  clear hhb
  obtain ⟨i0, z0, hi, hz0, hz1, hz2, hz3⟩ := info_ev
  clear q1 q3 q4 q5 q6
  go_wp2
  go_loopw [8] (fun kv wr => ∃ (j : Nat) (v : Value), j ≤ n ∧ kv = .int .i64 j ∧ Mn w wr hb hc #[.int .i64 bad.id, .string bad.typ, .string bad.data, .float .f64 bad.val] v (manyL j)) (fun kv _ => n - (RowKit.intOf kv).toNat)
  case atStart => exact ⟨0, .slice none 0 0, Nat.zero_le _, rfl, M3.out⟩
  case round =>
    obtain ⟨j, v, hj, rfl, hM⟩ := hrel
    have M := hid hM
    clear hM M3
    by_cases hlt : j < n
    · have hltI : (j : Int) < n := by omega
      have hj12 : (j : Int) < 12 := by omega
      have c4 := cell_of M.out.b 4
      have hml := hid (manyL_len j)
      have hms := hid (manyL_succ j)
      go_upto_region 7 with fail
      go_wp2_with (at_builtin; refine wpList_append_lies _ rfl (.tmp 45) (.tmp 49) 22 rfl (hc + 1) tEv i0 z0 4 48 Try.underlying22 hi hz0 hz1 hz2 hz3 (by decide) v j (evCells (manyL j)) (by rfl) (by have := (M.out.touch ((Touch.refl [] wr).alloc (.cells #[.int .i64 ((j : Int) + 1), .string ⟨#[116]⟩, .string ⟨#[]⟩, .float .f64 0] 32))).o; rw [hml.out] at this; exact this) ⟨wr.heap.size, 0, none⟩ 1 1 [.int .i64 ((j : Int) + 1), .string ⟨#[116]⟩, .string ⟨#[]⟩, .float .f64 0] (by rfl) rfl (World.news_of_block (cs := #[.int .i64 ((j : Int) + 1), .string ⟨#[116]⟩, .string ⟨#[]⟩, .float .f64 0]) (t := tEv) (fr := (0, 0)) (heap_alloc_new wr _)) (by intro u hu; simp at hu; rcases hu with rfl | rfl | rfl | rfl <;> rfl) (by decide) (by have := H2.out; unfold maxLen; omega) (by have := H2.out; omega) (by have := lt_of_block M.out.b; simp; omega) (wr.heap.size + 1) (by simp) ?_; intro g cap w4 hown hgrow hat hlt4; have M5 := hid (M.out.app (e := ⟨(j : Int) + 1, ⟨#[116]⟩, ⟨#[]⟩, 0⟩) (.cells #[.int .i64 ((j : Int) + 1), .string ⟨#[116]⟩, .string ⟨#[]⟩, .float .f64 0] 32) (by rw [hml.out]; exact hown) hgrow); (have k41 : w4.cell? ⟨hc, 4, none⟩ = some v := by rw [World.cell?_of_block (w := wr) ((hgrow.block hc (by have := lt_of_block M.out.b; simp; omega) (fun e => M.out.fc e.symm)).trans (Below.heap_alloc wr _ hc (lt_of_block M.out.b)))]; exact cell_of M.out.b 4); (have f41 : w4.frozen? ⟨hc, 4, none⟩ = false := by rw [World.frozen?_of_block (w := wr) ((hgrow.block hc (by have := lt_of_block M.out.b; simp; omega) (fun e => M.out.fc e.symm)).trans (Below.heap_alloc wr _ hc (lt_of_block M.out.b)))]; exact free_of M.out.b 4); clear hown hgrow hat hlt4)
      go_roundw
      case rel =>
        refine ⟨j + 1, .slice (some ⟨g, 0, none⟩) (j + 1) cap, by omega, by go_num, ?_⟩
        have h5 := M5.out
        rw [hml.out] at h5
        rw [hms.out]
        exact h5
      case measure => simp [RowKit.intOf]; omega
    · obtain rfl : j = n := by omega
      clear hlt hj
      obtain ⟨_, ⟨_, hn⟩ | ⟨g, cap, cur, hv, hg, hh, hcap, _, hcs, ht⟩⟩ := M.out.o
      · rw [manyL_len] at hn; exact absurd hn (by have := H1.out; omega)
      have EX := hid (evX_row hh ht OKM.out)
      have HT := hid ht
      have HH := hid hh
      have CS : Hid (j * 4 ≤ cur.size) := by rw [manyL_len] at hcap; rw [hcs]; exact Nat.mul_le_mul_right 4 hcap
      have HG := hid hg
      rw [manyL_len] at hv
      subst hv
      clear hg hh hcap hcs ht hsf
      have hsf := store_flt
      by_cases h8n : 8 < j
      · skip
        have h8 : decide ((8 : Int) < j) = true := by simp; omega
        have h8b : (8 : Int) < j := by omega
        rw [if_pos h8n] at CC CD
        obtain ⟨d0, d1, d2, d3, d4, d5, d6, d7⟩ := cells_of M.out.b
        go_upto_region 13 with (go_at_call 22; refine (CC.out _ _ cap EX.out).mono ?_; rintro e w5 ⟨rfl, t5⟩)
        clear d0 d1 d2 d3 d4 d5 d6 d7
        have M5 := hid (M.out.touch t5)
        have G5 := hid (touch_blk0 t5 HH.out)
        clear t5
        obtain ⟨d0, d1, d2, d3, d4, d5, d6, d7⟩ := cells_of M5.out.b
        obtain ⟨x0, x1, x2, x3⟩ := cells4_of M5.out.x
        have g0 : w5.cell? ⟨g, k * 4, none⟩ = some (cur[k * 4]'(by have := H3.out; have := CS.out; omega)) := by rw [cell_of G5.out]; simp
        have g1 : w5.cell? ⟨g, k * 4 + 1, none⟩ = some (cur[k * 4 + 1]'(by have := H3.out; have := CS.out; omega)) := by rw [cell_of G5.out]; simp
        have g2 : w5.cell? ⟨g, k * 4 + 2, none⟩ = some (cur[k * 4 + 2]'(by have := H3.out; have := CS.out; omega)) := by rw [cell_of G5.out]; simp
        have g3 : w5.cell? ⟨g, k * 4 + 3, none⟩ = some (cur[k * 4 + 3]'(by have := H3.out; have := CS.out; omega)) := by rw [cell_of G5.out]; simp
        have f0 := free_of G5.out (k * 4); have f1 := free_of G5.out (k * 4 + 1); have f2 := free_of G5.out (k * 4 + 2); have f3 := free_of G5.out (k * 4 + 3)
        have hkI : (k : Int) < j := by have := H3.out; omega
        go_upto_region 14 with fail
        obtain ⟨W6, hW6⟩ : ∃ W6, W6 = (((w5.setCell ⟨g, k * 4, none⟩ (.int .i64 bad.id)).setCell ⟨g, k * 4 + 1, none⟩ (.string bad.typ)).setCell ⟨g, k * 4 + 2, none⟩ (.string bad.data)).setCell ⟨g, k * 4 + 3, none⟩ (.float .f64 bad.val) := ⟨_, rfl⟩
        have far : ∀ b, b ≠ g → W6.heap[b]? = w5.heap[b]? := fun b hbg => by
          rw [hW6]
          exact (heap_set_other _ (by show b ≠ g; exact hbg)).trans ((heap_set_other _ (by show b ≠ g; exact hbg)).trans ((heap_set_other _ (by show b ≠ g; exact hbg)).trans (heap_set_other _ (by show b ≠ g; exact hbg))))
        have B6 := hid ((far hc (by have := HG.out; omega)).trans M5.out.b)
        have X6 := hid ((far hb (by have := HG.out; have := M5.out.bc; omega)).trans M5.out.x)
        have G6 : Hid (W6.heap[g]? = some (.cells ((((cur.setIfInBounds (k * 4) (.int .i64 bad.id)).setIfInBounds (k * 4 + 1) (.string bad.typ)).setIfInBounds (k * 4 + 2) (.string bad.data)).setIfInBounds (k * 4 + 3) (.float .f64 bad.val)) tEv (0, 0))) := by
          rw [hW6]
          exact hid (heap_set (i := k * 4 + 3) (heap_set (i := k * 4 + 2) (heap_set (i := k * 4 + 1) (heap_set (i := k * 4) G5.out _) _) _) _)
        have E6 := hid (evX_set HH.out HT.out (by rw [manyL_len]; exact CS.out) (by rw [manyL_len]; exact H3.out) G6.out OKM.out OKB.out)
        have hwg : w.heap.size ≤ g := by have := HG.out; have := M5.out.bc; have := M5.out.lb; omega
        have T6 : Hid (Touch [] w W6) := by
          rw [hW6]
          exact hid ((((M5.out.t.setCell (.inr hwg) _).setCell (.inr hwg) _).setCell (.inr hwg) _).setCell (.inr hwg) _)
        rw [← hW6]
        clear hW6 far hwg g0 g1 g2 g3 f0 f1 f2 f3 d0 d1 d2 d3 d4 d5 d6 d7 x0 x1 x2 x3
        have KB := hid (fun w' (h : Touch [] W6 w') => cells_of (touch_blk0 h B6.out))
        have tt : Touch [] W6 W6 := Touch.refl _ _
        obtain ⟨d0, d1, d2, d3, d4, d5, d6, d7⟩ := KB.out _ tt
        obtain ⟨x0, x1, x2, x3⟩ := cells4_of X6.out
        go_wp2_with (first
          | (go_at_call 12; refine (CV.out _).mono ?_; rintro e v1 ⟨rfl, t1⟩; have tt := tt.trans t1 (by simp); obtain ⟨d0, d1, d2, d3, d4, d5, d6, d7⟩ := KB.out _ tt)
          | (go_at_call 11; refine (CA.out _).mono ?_; rintro e v2 ⟨rfl, t2⟩; have tt := tt.trans t2 (by simp); obtain ⟨d0, d1, d2, d3, d4, d5, d6, d7⟩ := KB.out _ tt)
          | (go_at_call 22; refine (CD.out _ _ cap (E6.out.touch tt)).mono ?_; rintro e v3 ⟨rfl, t3⟩; have tt := tt.trans t3 (by simp)))
        go_ret
        exact ⟨rfl, T6.out.trans tt (by simp)⟩
      · cases vb
        · skip
          have h8 : decide ((8 : Int) < j) = false := by simp; omega
          have h8b : (j : Int) ≤ 8 := by omega
          rw [if_neg h8n] at CC CD
          rw [if_neg (by decide)] at CD
          obtain ⟨d0, d1, d2, d3, d4, d5, d6, d7⟩ := cells_of M.out.b
          go_upto_region 13 with (go_at_call 22; refine (CC.out _ _ cap EX.out).mono ?_; rintro e w5 ⟨rfl, t5⟩)
          clear d0 d1 d2 d3 d4 d5 d6 d7
          have M5 := hid (M.out.touch t5)
          have G5 := hid (touch_blk0 t5 HH.out)
          clear t5
          obtain ⟨d0, d1, d2, d3, d4, d5, d6, d7⟩ := cells_of M5.out.b
          obtain ⟨x0, x1, x2, x3⟩ := cells4_of M5.out.x
          have g0 : w5.cell? ⟨g, k * 4, none⟩ = some (cur[k * 4]'(by have := H3.out; have := CS.out; omega)) := by rw [cell_of G5.out]; simp
          have g1 : w5.cell? ⟨g, k * 4 + 1, none⟩ = some (cur[k * 4 + 1]'(by have := H3.out; have := CS.out; omega)) := by rw [cell_of G5.out]; simp
          have g2 : w5.cell? ⟨g, k * 4 + 2, none⟩ = some (cur[k * 4 + 2]'(by have := H3.out; have := CS.out; omega)) := by rw [cell_of G5.out]; simp
          have g3 : w5.cell? ⟨g, k * 4 + 3, none⟩ = some (cur[k * 4 + 3]'(by have := H3.out; have := CS.out; omega)) := by rw [cell_of G5.out]; simp
          have f0 := free_of G5.out (k * 4); have f1 := free_of G5.out (k * 4 + 1); have f2 := free_of G5.out (k * 4 + 2); have f3 := free_of G5.out (k * 4 + 3)
          have hkI : (k : Int) < j := by have := H3.out; omega
          go_upto_region 14 with fail
          obtain ⟨W6, hW6⟩ : ∃ W6, W6 = (((w5.setCell ⟨g, k * 4, none⟩ (.int .i64 bad.id)).setCell ⟨g, k * 4 + 1, none⟩ (.string bad.typ)).setCell ⟨g, k * 4 + 2, none⟩ (.string bad.data)).setCell ⟨g, k * 4 + 3, none⟩ (.float .f64 bad.val) := ⟨_, rfl⟩
          have far : ∀ b, b ≠ g → W6.heap[b]? = w5.heap[b]? := fun b hbg => by
            rw [hW6]
            exact (heap_set_other _ (by show b ≠ g; exact hbg)).trans ((heap_set_other _ (by show b ≠ g; exact hbg)).trans ((heap_set_other _ (by show b ≠ g; exact hbg)).trans (heap_set_other _ (by show b ≠ g; exact hbg))))
          have B6 := hid ((far hc (by have := HG.out; omega)).trans M5.out.b)
          have X6 := hid ((far hb (by have := HG.out; have := M5.out.bc; omega)).trans M5.out.x)
          have G6 : Hid (W6.heap[g]? = some (.cells ((((cur.setIfInBounds (k * 4) (.int .i64 bad.id)).setIfInBounds (k * 4 + 1) (.string bad.typ)).setIfInBounds (k * 4 + 2) (.string bad.data)).setIfInBounds (k * 4 + 3) (.float .f64 bad.val)) tEv (0, 0))) := by
            rw [hW6]
            exact hid (heap_set (i := k * 4 + 3) (heap_set (i := k * 4 + 2) (heap_set (i := k * 4 + 1) (heap_set (i := k * 4) G5.out _) _) _) _)
          have E6 := hid (evX_set HH.out HT.out (by rw [manyL_len]; exact CS.out) (by rw [manyL_len]; exact H3.out) G6.out OKM.out OKB.out)
          have hwg : w.heap.size ≤ g := by have := HG.out; have := M5.out.bc; have := M5.out.lb; omega
          have T6 : Hid (Touch [] w W6) := by
            rw [hW6]
            exact hid ((((M5.out.t.setCell (.inr hwg) _).setCell (.inr hwg) _).setCell (.inr hwg) _).setCell (.inr hwg) _)
          rw [← hW6]
          clear hW6 far hwg g0 g1 g2 g3 f0 f1 f2 f3 d0 d1 d2 d3 d4 d5 d6 d7 x0 x1 x2 x3
          have KB := hid (fun w' (h : Touch [] W6 w') => cells_of (touch_blk0 h B6.out))
          have tt : Touch [] W6 W6 := Touch.refl _ _
          obtain ⟨d0, d1, d2, d3, d4, d5, d6, d7⟩ := KB.out _ tt
          obtain ⟨x0, x1, x2, x3⟩ := cells4_of X6.out
          go_wp2_with (first
            | (go_at_call 12; refine (CV.out _).mono ?_; rintro e v1 ⟨rfl, t1⟩; have tt := tt.trans t1 (by simp); obtain ⟨d0, d1, d2, d3, d4, d5, d6, d7⟩ := KB.out _ tt)
            | (go_at_call 11; refine (CA.out _).mono ?_; rintro e v2 ⟨rfl, t2⟩; have tt := tt.trans t2 (by simp); obtain ⟨d0, d1, d2, d3, d4, d5, d6, d7⟩ := KB.out _ tt)
            | (go_at_call 22; refine (CD.out _ _ cap (E6.out.touch tt)).mono ?_; rintro e v3 ⟨rfl, t3⟩; have tt := tt.trans t3 (by simp)))
          go_ret
          exact ⟨rfl, T6.out.trans tt (by simp)⟩
        · skip
          have h8 : decide ((8 : Int) < j) = false := by simp; omega
          have h8b : (j : Int) ≤ 8 := by omega
          rw [if_neg h8n] at CC CD
          rw [if_pos rfl] at CD
          obtain ⟨d0, d1, d2, d3, d4, d5, d6, d7⟩ := cells_of M.out.b
          go_upto_region 13 with (go_at_call 22; refine (CC.out _ _ cap EX.out).mono ?_; rintro e w5 ⟨rfl, t5⟩)
          clear d0 d1 d2 d3 d4 d5 d6 d7
          have M5 := hid (M.out.touch t5)
          have G5 := hid (touch_blk0 t5 HH.out)
          clear t5
          obtain ⟨d0, d1, d2, d3, d4, d5, d6, d7⟩ := cells_of M5.out.b
          obtain ⟨x0, x1, x2, x3⟩ := cells4_of M5.out.x
          have g0 : w5.cell? ⟨g, k * 4, none⟩ = some (cur[k * 4]'(by have := H3.out; have := CS.out; omega)) := by rw [cell_of G5.out]; simp
          have g1 : w5.cell? ⟨g, k * 4 + 1, none⟩ = some (cur[k * 4 + 1]'(by have := H3.out; have := CS.out; omega)) := by rw [cell_of G5.out]; simp
          have g2 : w5.cell? ⟨g, k * 4 + 2, none⟩ = some (cur[k * 4 + 2]'(by have := H3.out; have := CS.out; omega)) := by rw [cell_of G5.out]; simp
          have g3 : w5.cell? ⟨g, k * 4 + 3, none⟩ = some (cur[k * 4 + 3]'(by have := H3.out; have := CS.out; omega)) := by rw [cell_of G5.out]; simp
          have f0 := free_of G5.out (k * 4); have f1 := free_of G5.out (k * 4 + 1); have f2 := free_of G5.out (k * 4 + 2); have f3 := free_of G5.out (k * 4 + 3)
          have hkI : (k : Int) < j := by have := H3.out; omega
          go_upto_region 14 with fail
          obtain ⟨W6, hW6⟩ : ∃ W6, W6 = (((w5.setCell ⟨g, k * 4, none⟩ (.int .i64 bad.id)).setCell ⟨g, k * 4 + 1, none⟩ (.string bad.typ)).setCell ⟨g, k * 4 + 2, none⟩ (.string bad.data)).setCell ⟨g, k * 4 + 3, none⟩ (.float .f64 bad.val) := ⟨_, rfl⟩
          have far : ∀ b, b ≠ g → W6.heap[b]? = w5.heap[b]? := fun b hbg => by
            rw [hW6]
            exact (heap_set_other _ (by show b ≠ g; exact hbg)).trans ((heap_set_other _ (by show b ≠ g; exact hbg)).trans ((heap_set_other _ (by show b ≠ g; exact hbg)).trans (heap_set_other _ (by show b ≠ g; exact hbg))))
          have B6 := hid ((far hc (by have := HG.out; omega)).trans M5.out.b)
          have X6 := hid ((far hb (by have := HG.out; have := M5.out.bc; omega)).trans M5.out.x)
          have G6 : Hid (W6.heap[g]? = some (.cells ((((cur.setIfInBounds (k * 4) (.int .i64 bad.id)).setIfInBounds (k * 4 + 1) (.string bad.typ)).setIfInBounds (k * 4 + 2) (.string bad.data)).setIfInBounds (k * 4 + 3) (.float .f64 bad.val)) tEv (0, 0))) := by
            rw [hW6]
            exact hid (heap_set (i := k * 4 + 3) (heap_set (i := k * 4 + 2) (heap_set (i := k * 4 + 1) (heap_set (i := k * 4) G5.out _) _) _) _)
          have E6 := hid (evX_set HH.out HT.out (by rw [manyL_len]; exact CS.out) (by rw [manyL_len]; exact H3.out) G6.out OKM.out OKB.out)
          have hwg : w.heap.size ≤ g := by have := HG.out; have := M5.out.bc; have := M5.out.lb; omega
          have T6 : Hid (Touch [] w W6) := by
            rw [hW6]
            exact hid ((((M5.out.t.setCell (.inr hwg) _).setCell (.inr hwg) _).setCell (.inr hwg) _).setCell (.inr hwg) _)
          rw [← hW6]
          clear hW6 far hwg g0 g1 g2 g3 f0 f1 f2 f3 d0 d1 d2 d3 d4 d5 d6 d7 x0 x1 x2 x3
          have KB := hid (fun w' (h : Touch [] W6 w') => cells_of (touch_blk0 h B6.out))
          have tt : Touch [] W6 W6 := Touch.refl _ _
          obtain ⟨d0, d1, d2, d3, d4, d5, d6, d7⟩ := KB.out _ tt
          obtain ⟨x0, x1, x2, x3⟩ := cells4_of X6.out
          go_wp2_with (first
            | (go_at_call 12; refine (CV.out _).mono ?_; rintro e v1 ⟨rfl, t1⟩; have tt := tt.trans t1 (by simp); obtain ⟨d0, d1, d2, d3, d4, d5, d6, d7⟩ := KB.out _ tt)
            | (go_at_call 11; refine (CA.out _).mono ?_; rintro e v2 ⟨rfl, t2⟩; have tt := tt.trans t2 (by simp); obtain ⟨d0, d1, d2, d3, d4, d5, d6, d7⟩ := KB.out _ tt)
            | (go_at_call 22; refine (CD.out _ _ cap (E6.out.touch tt)).mono ?_; rintro e v3 ⟨rfl, t3⟩; have tt := tt.trans t3 (by simp)))
          go_ret
          exact ⟨rfl, T6.out.trans tt (by simp)⟩

theorem walk_EventMany (n : Int) (_wn : (Lit.int .i64 n).wf = true) (k : Int) (_wk : (Lit.int .i64 k).wf = true) (bad : EvD) (okb : bad.Ok) (w : World) :
    Calls Try.prog 8 #[.int .i64 n, .int .i64 k, bad.agg] w fun e w' => e = .returned (.bool true) ∧ Touch [] w w' := by
  by_cases a1 : n < 1
  · exact many_early n k bad w (.inl a1)
  by_cases a2 : 12 < n
  · exact many_early n k bad w (.inr (.inl ⟨by omega, a2⟩))
  by_cases a3 : k < 0
  · exact many_early n k bad w (.inr (.inr (.inl ⟨by omega, by omega, a3⟩)))
  by_cases a4 : n ≤ k
  · exact many_early n k bad w (.inr (.inr (.inr (.inl ⟨by omega, by omega, by omega, a4⟩))))
  by_cases a5 : 100 < bad.typ.size
  · exact many_early n k bad w (.inr (.inr (.inr (.inr (.inl ⟨by omega, by omega, by omega, by omega, a5⟩)))))
  by_cases a6 : 300 < bad.data.size
  · exact many_early n k bad w (.inr (.inr (.inr (.inr (.inr ⟨by omega, by omega, by omega, by omega, by omega, a6⟩)))))
  obtain ⟨m, rfl⟩ := Int.eq_ofNat_of_zero_le (show 0 ≤ n by omega)
  obtain ⟨i, rfl⟩ := Int.eq_ofNat_of_zero_le (show 0 ≤ k by omega)
  exact many_good m i bad okb w (by omega) (by omega) (by omega) (by omega) (by omega)
end Go.Proofs.Ytcihnfgfficmlaa
