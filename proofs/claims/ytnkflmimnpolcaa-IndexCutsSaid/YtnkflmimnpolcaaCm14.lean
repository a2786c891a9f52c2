/- The order of a table's entries: index.compare, told so that a sort may call it. -/
import Derived.Shelf.SlSortCmp.WholeK
import Derived.Test.YtnkflmimnpolcaaIx14
namespace Go.Proofs.Ytnkflmimnpolcaa
open Go.RowKit Go.Lib Go.Shelf Go.Sort
set_option maxRecDepth 100000

/-- New blocks behind the old ones, and draws: nothing else. -/
def Lays (w w' : World) : Prop := ∃ (q : Nat) (os : Array Obj), w' = grow (w.drewN q) os
theorem Lays.refl (w : World) : Lays w w := ⟨0, #[], by rw [grow_empty]; rfl⟩
theorem drewN_add (w : World) (a b : Nat) : (w.drewN a).drewN b = w.drewN (a + b) := by
  induction b with
  | zero => rfl
  | succ b ih => exact congrArg World.drew ih
theorem Lays.alloc {w w' : World} (h : Lays w w') (o : Obj) : Lays w (w'.alloc o) := by
  obtain ⟨q, os, rfl⟩ := h
  exact ⟨q, os ++ #[o], by rw [alloc_eq_grow, grow_grow]⟩
theorem grow_drewN (w : World) (os : Array Obj) (n : Nat) : (grow w os).drewN n = grow (w.drewN n) os := by
  induction n with
  | zero => rfl
  | succ n ih => exact congrArg World.drew ih
theorem Lays.trans {a b c : World} (h : Lays a b) (k : Lays b c) : Lays a c := by
  obtain ⟨q, os, rfl⟩ := h
  obtain ⟨q', os', rfl⟩ := k
  exact ⟨q + q', os ++ os', by rw [grow_drewN, drewN_add, grow_grow]⟩
theorem Lays.drew {w w' : World} (h : Lays w w') : Lays w w'.drew := h.trans ⟨1, #[], by rw [grow_empty]; rfl⟩
theorem Lays.touch {w w' : World} (h : Lays w w') : Touch [] w w' := by
  obtain ⟨q, os, rfl⟩ := h
  have t : Touch [] (w.drewN q) (grow (w.drewN q) os) := ⟨rfl, rfl, rfl, by simp, fun k hk _ => by
    simp only [grow]
    rw [Array.getElem?_append_left hk]⟩
  exact ((Touch.refl [] w).drewN q).trans t (by simp)

set_option maxHeartbeats 1000000 in
theorem less_lays (a b : En) (w : World) :
    Calls Try.prog 39 #[enV a, enV b] w fun e w' => e = .returned (.bool (decide (ltE a b))) ∧ Lays w w' := by
  have hL := less_orI a b
  go_enter Try.func39, Try.ntmps39
  go_wp2_with fail
  obtain ⟨x1, hx1⟩ : ∃ x, x = w.heap.size := ⟨_, rfl⟩
  obtain ⟨x2, hx2⟩ : ∃ x, x = w.heap.size + 1 := ⟨_, rfl⟩
  obtain ⟨w1, hw1⟩ : ∃ w1, w1 = (w.alloc (.cells #[.int .i64 a.1, .int .i64 a.2.1, .int .i64 a.2.2] 32)).alloc (.cells #[.int .i64 b.1, .int .i64 b.2.1, .int .i64 b.2.2] 32) := ⟨_, rfl⟩
  have B1 : EnB w1 x1 a := by rw [hw1, hx1]; exact heap_alloc_keep (heap_alloc_new w _) _
  have B2 : EnB w1 x2 b := by rw [hw1, hx2]; exact new_at (w.alloc _) _ _ (by simp)
  obtain ⟨p1, p2, p3⟩ : EnC w1.drew x1 a := EnB.c B1
  obtain ⟨q1, q2, q3⟩ : EnC w1.drew x2 b := EnB.c B2
  have A1 : ∀ o, EnC (w1.alloc o).drew x1 a := fun o => EnB.c (heap_alloc_keep B1 o)
  have A2 : ∀ o, EnC (w1.alloc o).drew x2 b := fun o => EnB.c (heap_alloc_keep B2 o)
  have A10 : ∀ o, (w1.alloc o).drew.cell? ⟨x1, 0, none⟩ = some (.int .i64 a.1) := fun o => (A1 o).1
  have A11 : ∀ o, (w1.alloc o).drew.cell? ⟨x1, 1, none⟩ = some (.int .i64 a.2.1) := fun o => (A1 o).2.1
  have A12 : ∀ o, (w1.alloc o).drew.cell? ⟨x1, 2, none⟩ = some (.int .i64 a.2.2) := fun o => (A1 o).2.2
  have A20 : ∀ o, (w1.alloc o).drew.cell? ⟨x2, 0, none⟩ = some (.int .i64 b.1) := fun o => (A2 o).1
  have A21 : ∀ o, (w1.alloc o).drew.cell? ⟨x2, 1, none⟩ = some (.int .i64 b.2.1) := fun o => (A2 o).2.1
  have A22 : ∀ o, (w1.alloc o).drew.cell? ⟨x2, 2, none⟩ = some (.int .i64 b.2.2) := fun o => (A2 o).2.2
  clear B1 B2 A1 A2
  have T1 : Hid (Lays w w1) := hid (by rw [hw1]; exact ((Lays.refl w).alloc _).alloc _)
  have hs : Hid (w1.heap.size = w.heap.size + 1 + 1) := hid (by rw [hw1]; simp)
  rw [← hw1, ← hx2, ← hx1]
  clear hw1 hx1 hx2
  go_region_held3 (fun w' => (w'.cell? ⟨x1, 0, none⟩ = some (.int .i64 a.1) ∧ w'.cell? ⟨x1, 1, none⟩ = some (.int .i64 a.2.1) ∧ w'.cell? ⟨x1, 2, none⟩ = some (.int .i64 a.2.2)) ∧ w'.cell? ⟨x2, 0, none⟩ = some (.int .i64 b.1) ∧ w'.cell? ⟨x2, 1, none⟩ = some (.int .i64 b.2.1) ∧ w'.cell? ⟨x2, 2, none⟩ = some (.int .i64 b.2.2)) (first | go_keep | exact ⟨⟨p1, p2, p3⟩, q1, q2, q3⟩ | exact ⟨⟨A10 _, A11 _, A12 _⟩, A20 _, A21 _, A22 _⟩ | assumption) ((first
    | (go_at_call 58; refine (cmp_any _ _ _).mono ?_; rintro e w' ⟨rfl, rfl⟩)
    | (go_at_call 57; refine (or_any _ _ _ _ _ _ (new_at _ _ _ rfl)).mono ?_; rintro e w' ⟨rfl, rfl⟩)))
  go_wp2_with fail
  go_ret
  exact ⟨rfl, (T1.out.alloc _).drew⟩

def cmpE (a b : En) : Int := if a = b then 0 else if ltE a b then -1 else 1
theorem cmpE_lt (a b : En) : decide (cmpE a b < 0) = decide (ltE a b) := by
  unfold cmpE
  by_cases h : a = b
  · subst h; simp [ltE_irrefl]
  · rw [if_neg h]
    by_cases k : ltE a b <;> simp [k]
theorem cmpE_zero (a b : En) : (cmpE a b = 0) ↔ a = b := by
  unfold cmpE
  by_cases h : a = b
  · simp [h]
  · rw [if_neg h]
    by_cases k : ltE a b <;> simp [k, h]
set_option maxHeartbeats 1000000 in
theorem compare_lays (a b : En) (w : World) :
    Calls Try.prog 43 #[enV a, enV b] w fun e w' => e = .returned (.int .i64 (cmpE a b)) ∧ Lays w w' := by
  obtain ⟨x1, hx1⟩ : ∃ x, x = w.heap.size := ⟨_, rfl⟩
  obtain ⟨x2, hx2⟩ : ∃ x, x = w.heap.size + 1 := ⟨_, rfl⟩
  obtain ⟨w1, hw1⟩ : ∃ w1, w1 = (w.alloc (.cells #[.int .i64 a.1, .int .i64 a.2.1, .int .i64 a.2.2] 32)).alloc (.cells #[.int .i64 b.1, .int .i64 b.2.1, .int .i64 b.2.2] 32) := ⟨_, rfl⟩
  have B1 : EnB w1 x1 a := by rw [hw1, hx1]; exact heap_alloc_keep (heap_alloc_new w _) _
  have B2 : EnB w1 x2 b := by rw [hw1, hx2]; exact new_at (w.alloc _) _ _ (by simp)
  have T1 : Hid (Lays w w1) := hid (by rw [hw1]; exact ((Lays.refl w).alloc _).alloc _)
  obtain ⟨p1, p2, p3⟩ := B1.c
  obtain ⟨q1, q2, q3⟩ := B2.c
  have LL := hid (less_lays a b w1)
  clear B1 B2
  by_cases he : a = b
  · subst he
    have hc : cmpE a a = 0 := by simp [cmpE]
    rw [hc]
    clear hc LL
    go_enter Try.func43, Try.ntmps43
    go_upto_region 1 with fail
    rw [← hw1, ← hx2, ← hx1]
    clear hw1 hx1 hx2
    go_wp2
    all_goals go_ret
    all_goals exact ⟨rfl, T1.out⟩
  · have EQ := en_ne he
    have hc : cmpE a b = if ltE a b then -1 else 1 := by simp [cmpE, he]
    rw [hc]
    clear hc he
    by_cases hl : ltE a b
    · have hd : decide (ltE a b) = true := by simpa using hl
      rw [if_pos hl]
      rw [hd] at LL
      clear hl hd
      go_enter Try.func43, Try.ntmps43
      go_upto_region 1 with fail
      rw [← hw1, ← hx2, ← hx1]
      clear hw1 hx1 hx2
      go_wp2_with (go_at_call 39; refine LL.out.mono ?_; rintro e w2 ⟨rfl, l2⟩; have L2 := hid l2; clear l2)
      all_goals go_ret
      all_goals exact ⟨rfl, T1.out.trans L2.out⟩
    · have hd : decide (ltE a b) = false := by simpa using hl
      rw [if_neg hl]
      rw [hd] at LL
      clear hl hd
      go_enter Try.func43, Try.ntmps43
      go_upto_region 1 with fail
      rw [← hw1, ← hx2, ← hx1]
      clear hw1 hx1 hx2
      go_wp2_with (go_at_call 39; refine LL.out.mono ?_; rintro e w2 ⟨rfl, l2⟩; have L2 := hid l2; clear l2)
      all_goals go_ret
      all_goals exact ⟨rfl, T1.out.trans L2.out⟩
theorem compare_any (a b : En) (w : World) : Calls Try.prog 43 #[enV a, enV b] w fun e w' => e = .returned (.int .i64 (cmpE a b)) ∧ Touch [] w w' := (compare_lays a b w).mono fun _ _ ⟨h1, h2⟩ => ⟨h1, h2.touch⟩
end Go.Proofs.Ytnkflmimnpolcaa
