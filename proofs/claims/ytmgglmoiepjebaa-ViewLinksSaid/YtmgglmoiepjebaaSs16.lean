/- Alike stored events: the laws' own answer, and view's. -/
import Derived.Test.YtmgglmoiepjebaaSto16
namespace Go.Proofs.Ytmgglmoiepjebaa
set_option maxRecDepth 100000
open Go.RowKit Go.Lib

def sameE (a b : StoD) : Bool := decide (a.id = b.id) && decide (a.typ = b.typ) && decide (a.data = b.data) && decide (canon a.value = canon b.value)
def sameS (a b : StoD) : Bool := sameE a b && decide (a.stream = b.stream) && decide (a.version = b.version) && decide (a.position = b.position) && decide (a.time = b.time)
/-- With the one NaN for each. -/
def canS (s : StoD) : StoD := { s with value := canon s.value }
theorem sameS_iff {a b : StoD} : sameS a b = true ↔ canS a = canS b := by
  obtain ⟨a0, a1, a2, a3, a4, a5, a6, a7⟩ := a
  obtain ⟨b0, b1, b2, b3, b4, b5, b6, b7⟩ := b
  simp only [sameS, sameE, canS, Bool.and_eq_true, decide_eq_true_eq, StoD.mk.injEq]
  constructor
  · rintro ⟨⟨⟨⟨⟨⟨⟨h0, h1⟩, h2⟩, h3⟩, h4⟩, h5⟩, h6⟩, h7⟩; exact ⟨h0, h1, h2, h3, h4, h5, h6, h7⟩
  · rintro ⟨h0, h1, h2, h3, h4, h5, h6, h7⟩; exact ⟨⟨⟨⟨⟨⟨⟨h0, h1⟩, h2⟩, h3⟩, h4⟩, h5⟩, h6⟩, h7⟩
theorem canS_canS (s : StoD) : canS (canS s) = canS s := by unfold canS; simp only [canon_canon]
theorem sameS_back (s : StoD) : sameS (canS s) s = true := sameS_iff.2 (canS_canS s)
theorem sameS_self (a : StoD) : sameS a a = true := sameS_iff.2 rfl
theorem sameS_comm (a b : StoD) : sameS a b = sameS b a := by
  rw [Bool.eq_iff_iff, sameS_iff, sameS_iff]
  exact eq_comm
theorem canS_ok {s : StoD} (h : s.Ok) : (canS s).Ok := ⟨canon_lt h.v, h.i0, h.i1, h.lo, h.hi, h.p0, h.p1, h.m0, h.m1, h.t, h.d, h.s⟩

theorem refSameE_any (a b : StoD) (w : World) : Calls Try.prog 23 #[a.ev, b.ev] w fun r w' => r = .returned (.bool (sameE a b)) ∧ Touch [] w w' := by
  unfold sameE
  obtain ⟨ai, at_, ad, av, as_, avr, ap, atm⟩ := a
  obtain ⟨bi, bt, bd, bv, bs_, bvr, bp, btm⟩ := b
  simp only []
  by_cases h1 : ai = bi
  · subst h1
    by_cases h2 : at_ = bt
    · subst h2
      by_cases h3 : ad = bd
      · subst h3
        have hq : ((canon av : Int) == (canon bv : Int)) = decide (canon av = canon bv) := by rw [Bool.eq_iff_iff]; simp only [beq_iff_eq, decide_eq_true_eq]; omega
        have C := hid (fun w => same_any av bv w)
        rw [hq] at C
        generalize decide (canon av = canon bv) = g at *
        clear hq
        go_enter Try.func23, Try.ntmps23
        go_wp2_with (go_at_call 36; refine (C.out _).mono ?_; rintro e w1 ⟨rfl, rfl⟩)
        go_ret
        exact ⟨by simp, ((Touch.refl _ _).alloc _).alloc _⟩
      · have q := toList_ne h3
        rw [decide_eq_false h3]
        clear h3
        go_enter Try.func23, Try.ntmps23
        go_wp2
        go_ret
        exact ⟨by simp, ((Touch.refl _ _).alloc _).alloc _⟩
    · have q := toList_ne h2
      rw [decide_eq_false h2]
      clear h2
      go_enter Try.func23, Try.ntmps23
      go_wp2
      go_ret
      exact ⟨by simp, ((Touch.refl _ _).alloc _).alloc _⟩
  · have q : (ai == bi) = false := by simpa using h1
    rw [decide_eq_false h1]
    clear h1
    go_enter Try.func23, Try.ntmps23
    go_wp2
    go_ret
    exact ⟨by simp, ((Touch.refl _ _).alloc _).alloc _⟩

theorem evSameE_any (a b : StoD) (w : World) : Calls Try.prog 31 #[a.ev, b.ev] w fun r w' => r = .returned (.bool (sameE a b)) ∧ Touch [] w w' := by
  unfold sameE
  obtain ⟨ai, at_, ad, av, as_, avr, ap, atm⟩ := a
  obtain ⟨bi, bt, bd, bv, bs_, bvr, bp, btm⟩ := b
  simp only []
  by_cases h1 : ai = bi
  · subst h1
    by_cases h2 : at_ = bt
    · subst h2
      by_cases h3 : ad = bd
      · subst h3
        have hq : ((canon av : Int) == (canon bv : Int)) = decide (canon av = canon bv) := by rw [Bool.eq_iff_iff]; simp only [beq_iff_eq, decide_eq_true_eq]; omega
        have C := hid (fun w => sameR_any av bv w)
        rw [hq] at C
        generalize decide (canon av = canon bv) = g at *
        clear hq
        go_enter Try.func31, Try.ntmps31
        go_wp2_with (go_at_call 39; refine (C.out _).mono ?_; rintro e w1 ⟨rfl, rfl⟩)
        go_ret
        exact ⟨by simp, ((Touch.refl _ _).alloc _).alloc _⟩
      · have q := toList_ne h3
        rw [decide_eq_false h3]
        clear h3
        go_enter Try.func31, Try.ntmps31
        go_wp2
        go_ret
        exact ⟨by simp, ((Touch.refl _ _).alloc _).alloc _⟩
    · have q := toList_ne h2
      rw [decide_eq_false h2]
      clear h2
      go_enter Try.func31, Try.ntmps31
      go_wp2
      go_ret
      exact ⟨by simp, ((Touch.refl _ _).alloc _).alloc _⟩
  · have q : (ai == bi) = false := by simpa using h1
    rw [decide_eq_false h1]
    clear h1
    go_enter Try.func31, Try.ntmps31
    go_wp2
    go_ret
    exact ⟨by simp, ((Touch.refl _ _).alloc _).alloc _⟩

set_option maxHeartbeats 2000000 in
theorem refSameS_any (a b : StoD) (w : World) : Calls Try.prog 14 #[a.val, b.val] w fun r w' => r = .returned (.bool (sameS a b)) ∧ Touch [] w w' := by
  have C := hid (fun w => refSameE_any a b w)
  unfold sameS
  generalize sameE a b = g at *
  obtain ⟨a0, a1, a2, a3, a4, a5, a6, a7⟩ := a
  obtain ⟨b0, b1, b2, b3, b4, b5, b6, b7⟩ := b
  simp only [] at C ⊢
  obtain ⟨W2, hW2⟩ : ∃ W2, W2 = (w.alloc (.cells #[.int .i64 a0, .string a1, .string a2, .float .f64 a3, .string a4, .int .i64 a5, .int .i64 a6, .int .i64 a7] TSto)).alloc (.cells #[.int .i64 b0, .string b1, .string b2, .float .f64 b3, .string b4, .int .i64 b5, .int .i64 b6, .int .i64 b7] TSto) := ⟨_, rfl⟩
  have T2 : Hid (Touch [] w W2) := by rw [hW2]; exact hid (((Touch.refl [] w).alloc _).alloc _)
  have A : Hid (W2.heap[w.heap.size]? = some (.cells #[.int .i64 a0, .string a1, .string a2, .float .f64 a3, .string a4, .int .i64 a5, .int .i64 a6, .int .i64 a7] TSto (0, 0))) := by
    rw [hW2]; exact hid (heap_alloc_keep (heap_alloc_new w _) _)
  have B : Hid (W2.heap[w.heap.size + 1]? = some (.cells #[.int .i64 b0, .string b1, .string b2, .float .f64 b3, .string b4, .int .i64 b5, .int .i64 b6, .int .i64 b7] TSto (0, 0))) := by
    rw [hW2]; exact hid (new_at_two w _ _)
  go_enter Try.func14, Try.ntmps14
  go_upto_region 1 with fail
  simp only [TSto] at hW2
  rw [← hW2]
  clear hW2
  have p0 := cell_of A.out 0; have p1 := cell_of A.out 1; have p2 := cell_of A.out 2; have p3 := cell_of A.out 3
  have q0 := cell_of B.out 0; have q1 := cell_of B.out 1; have q2 := cell_of B.out 2; have q3 := cell_of B.out 3
  by_cases h4 : a4 = b4
  · subst h4
    by_cases h5 : a5 = b5
    · subst h5
      by_cases h6 : a6 = b6
      · subst h6
        by_cases h7 : a7 = b7
        · subst h7
          cases g
          all_goals
            go_wp2_with (go_at_call 23; refine (C.out _).mono ?_; rintro e w3 ⟨rfl, t3⟩; have x4 := t3.cell (cell_of A.out 4); have x5 := t3.cell (cell_of A.out 5); have x6 := t3.cell (cell_of A.out 6); have x7 := t3.cell (cell_of A.out 7); have y4 := t3.cell (cell_of B.out 4); have y5 := t3.cell (cell_of B.out 5); have y6 := t3.cell (cell_of B.out 6); have y7 := t3.cell (cell_of B.out 7); simp at x4 x5 x6 x7 y4 y5 y6 y7)
            go_ret
            exact ⟨by simp, T2.out.trans t3 (by simp)⟩
        · have q : (a7 == b7) = false := by simpa using h7
          have HH := hid h7
          clear h7
          cases g
          all_goals
            go_wp2_with (go_at_call 23; refine (C.out _).mono ?_; rintro e w3 ⟨rfl, t3⟩; have x4 := t3.cell (cell_of A.out 4); have x5 := t3.cell (cell_of A.out 5); have x6 := t3.cell (cell_of A.out 6); have x7 := t3.cell (cell_of A.out 7); have y4 := t3.cell (cell_of B.out 4); have y5 := t3.cell (cell_of B.out 5); have y6 := t3.cell (cell_of B.out 6); have y7 := t3.cell (cell_of B.out 7); simp at x4 x5 x6 x7 y4 y5 y6 y7)
            go_ret
            exact ⟨by simp [HH.out], T2.out.trans t3 (by simp)⟩
      · have q : (a6 == b6) = false := by simpa using h6
        have HH := hid h6
        clear h6
        cases g
        all_goals
          go_wp2_with (go_at_call 23; refine (C.out _).mono ?_; rintro e w3 ⟨rfl, t3⟩; have x4 := t3.cell (cell_of A.out 4); have x5 := t3.cell (cell_of A.out 5); have x6 := t3.cell (cell_of A.out 6); have y4 := t3.cell (cell_of B.out 4); have y5 := t3.cell (cell_of B.out 5); have y6 := t3.cell (cell_of B.out 6); simp at x4 x5 x6 y4 y5 y6)
          go_ret
          exact ⟨by simp [HH.out], T2.out.trans t3 (by simp)⟩
    · have q : (a5 == b5) = false := by simpa using h5
      have HH := hid h5
      clear h5
      cases g
      all_goals
        go_wp2_with (go_at_call 23; refine (C.out _).mono ?_; rintro e w3 ⟨rfl, t3⟩; have x4 := t3.cell (cell_of A.out 4); have x5 := t3.cell (cell_of A.out 5); have y4 := t3.cell (cell_of B.out 4); have y5 := t3.cell (cell_of B.out 5); simp at x4 x5 y4 y5)
        go_ret
        exact ⟨by simp [HH.out], T2.out.trans t3 (by simp)⟩
  · have q := toList_ne h4
    have HH := hid h4
    clear h4
    cases g
    all_goals
      go_wp2_with (go_at_call 23; refine (C.out _).mono ?_; rintro e w3 ⟨rfl, t3⟩; have x4 := t3.cell (cell_of A.out 4); have y4 := t3.cell (cell_of B.out 4); simp at x4 y4)
      go_ret
      exact ⟨by simp [HH.out], T2.out.trans t3 (by simp)⟩

set_option maxHeartbeats 2000000 in
theorem viewSame_any (a b : StoD) (w : World) : Calls Try.prog 18 #[a.val, b.val] w fun r w' => r = .returned (.bool (sameS a b)) ∧ Touch [] w w' := by
  have C := hid (fun w => evSameE_any a b w)
  unfold sameS
  generalize sameE a b = g at *
  obtain ⟨a0, a1, a2, a3, a4, a5, a6, a7⟩ := a
  obtain ⟨b0, b1, b2, b3, b4, b5, b6, b7⟩ := b
  simp only [] at C ⊢
  obtain ⟨W2, hW2⟩ : ∃ W2, W2 = (w.alloc (.cells #[.int .i64 a0, .string a1, .string a2, .float .f64 a3, .string a4, .int .i64 a5, .int .i64 a6, .int .i64 a7] TSto)).alloc (.cells #[.int .i64 b0, .string b1, .string b2, .float .f64 b3, .string b4, .int .i64 b5, .int .i64 b6, .int .i64 b7] TSto) := ⟨_, rfl⟩
  have T2 : Hid (Touch [] w W2) := by rw [hW2]; exact hid (((Touch.refl [] w).alloc _).alloc _)
  have A : Hid (W2.heap[w.heap.size]? = some (.cells #[.int .i64 a0, .string a1, .string a2, .float .f64 a3, .string a4, .int .i64 a5, .int .i64 a6, .int .i64 a7] TSto (0, 0))) := by
    rw [hW2]; exact hid (heap_alloc_keep (heap_alloc_new w _) _)
  have B : Hid (W2.heap[w.heap.size + 1]? = some (.cells #[.int .i64 b0, .string b1, .string b2, .float .f64 b3, .string b4, .int .i64 b5, .int .i64 b6, .int .i64 b7] TSto (0, 0))) := by
    rw [hW2]; exact hid (new_at_two w _ _)
  go_enter Try.func18, Try.ntmps18
  go_upto_region 1 with fail
  simp only [TSto] at hW2
  rw [← hW2]
  clear hW2
  have p0 := cell_of A.out 0; have p1 := cell_of A.out 1; have p2 := cell_of A.out 2; have p3 := cell_of A.out 3
  have q0 := cell_of B.out 0; have q1 := cell_of B.out 1; have q2 := cell_of B.out 2; have q3 := cell_of B.out 3
  by_cases h4 : a4 = b4
  · subst h4
    by_cases h5 : a5 = b5
    · subst h5
      by_cases h6 : a6 = b6
      · subst h6
        by_cases h7 : a7 = b7
        · subst h7
          cases g
          all_goals
            go_wp2_with (go_at_call 31; refine (C.out _).mono ?_; rintro e w3 ⟨rfl, t3⟩; have x4 := t3.cell (cell_of A.out 4); have x5 := t3.cell (cell_of A.out 5); have x6 := t3.cell (cell_of A.out 6); have x7 := t3.cell (cell_of A.out 7); have y4 := t3.cell (cell_of B.out 4); have y5 := t3.cell (cell_of B.out 5); have y6 := t3.cell (cell_of B.out 6); have y7 := t3.cell (cell_of B.out 7); simp at x4 x5 x6 x7 y4 y5 y6 y7)
            go_ret
            exact ⟨by simp, T2.out.trans t3 (by simp)⟩
        · have q : (a7 == b7) = false := by simpa using h7
          have HH := hid h7
          clear h7
          cases g
          all_goals
            go_wp2_with (go_at_call 31; refine (C.out _).mono ?_; rintro e w3 ⟨rfl, t3⟩; have x4 := t3.cell (cell_of A.out 4); have x5 := t3.cell (cell_of A.out 5); have x6 := t3.cell (cell_of A.out 6); have x7 := t3.cell (cell_of A.out 7); have y4 := t3.cell (cell_of B.out 4); have y5 := t3.cell (cell_of B.out 5); have y6 := t3.cell (cell_of B.out 6); have y7 := t3.cell (cell_of B.out 7); simp at x4 x5 x6 x7 y4 y5 y6 y7)
            go_ret
            exact ⟨by simp [HH.out], T2.out.trans t3 (by simp)⟩
      · have q : (a6 == b6) = false := by simpa using h6
        have HH := hid h6
        clear h6
        cases g
        all_goals
          go_wp2_with (go_at_call 31; refine (C.out _).mono ?_; rintro e w3 ⟨rfl, t3⟩; have x4 := t3.cell (cell_of A.out 4); have x5 := t3.cell (cell_of A.out 5); have x6 := t3.cell (cell_of A.out 6); have y4 := t3.cell (cell_of B.out 4); have y5 := t3.cell (cell_of B.out 5); have y6 := t3.cell (cell_of B.out 6); simp at x4 x5 x6 y4 y5 y6)
          go_ret
          exact ⟨by simp [HH.out], T2.out.trans t3 (by simp)⟩
    · have q : (a5 == b5) = false := by simpa using h5
      have HH := hid h5
      clear h5
      cases g
      all_goals
        go_wp2_with (go_at_call 31; refine (C.out _).mono ?_; rintro e w3 ⟨rfl, t3⟩; have x4 := t3.cell (cell_of A.out 4); have x5 := t3.cell (cell_of A.out 5); have y4 := t3.cell (cell_of B.out 4); have y5 := t3.cell (cell_of B.out 5); simp at x4 x5 y4 y5)
        go_ret
        exact ⟨by simp [HH.out], T2.out.trans t3 (by simp)⟩
  · have q := toList_ne h4
    have HH := hid h4
    clear h4
    cases g
    all_goals
      go_wp2_with (go_at_call 31; refine (C.out _).mono ?_; rintro e w3 ⟨rfl, t3⟩; have x4 := t3.cell (cell_of A.out 4); have y4 := t3.cell (cell_of B.out 4); simp at x4 y4)
      go_ret
      exact ⟨by simp [HH.out], T2.out.trans t3 (by simp)⟩

end Go.Proofs.Ytmgglmoiepjebaa
