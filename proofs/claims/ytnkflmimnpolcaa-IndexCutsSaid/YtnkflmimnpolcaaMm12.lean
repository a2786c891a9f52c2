/- How a tree of entries lies in memory; its small functions. -/
import Derived.Test.YtnkflmimnpolcaaMt12
import Derived.Test.YtnkflmimnpolcaaHeld
import Derived.Deep.RegionHeld3
import Derived.StillTailTactics
import Derived.OwnWalk
import Derived.Test.YtnkflmimnpolcaaProg
namespace Go.Proofs.Ytnkflmimnpolcaa
open Go.RowKit Go.Lib
set_option maxRecDepth 100000

theorem touch_other {F : List Nat} {w w' : World} (h : Touch F w w') {k : Nat} {o : Obj} (hk : w.heap[k]? = some o) (hF : k ∉ F) : w'.heap[k]? = some o := (h.block k (lt_of_block hk) hF).trans hk
theorem heap_alloc_keep {w : World} {b : Nat} {x : Obj} (h : w.heap[b]? = some x) (o : Obj) : (w.alloc o).heap[b]? = some x := (Below.heap_alloc w o b (lt_of_block h)).trans h
theorem cell_alloc {w : World} {b : Nat} {cs : Array Value} {t : TypeId} {fz : Nat × Nat} (h : w.heap[b]? = some (.cells cs t fz)) (i : Nat) (o : Obj) : (w.alloc o).cell? ⟨b, i, none⟩ = cs[i]? := cell_of (heap_alloc_keep h o) i

/-- An entry as a value; its cells. -/
abbrev enV (e : En) : Value := .agg #[.int .i64 e.1, .int .i64 e.2.1, .int .i64 e.2.2]

theorem isNaN_any (x : Int) (w : World) : Calls Try.prog 67 #[.int .i64 x] w fun e w' => e = .returned (.bool false) ∧ w' = w := by
  go_enter Try.func67, Try.ntmps67
  go_wp2
  go_ret
  exact ⟨by simp, rfl⟩
def cmpI (x y : Int) : Int := if x < y then -1 else if y < x then 1 else 0
theorem cmp_any (x y : Int) (w : World) : Calls Try.prog 58 #[.int .i64 x, .int .i64 y] w fun e w' => e = .returned (.int .i64 (cmpI x y)) ∧ w' = w := by
  go_enter Try.func58, Try.ntmps58
  go_wp2_with (go_at_call 67; refine (isNaN_any _ _).mono ?_; rintro e w' ⟨rfl, rfl⟩)
  all_goals go_ret
  · exact ⟨by simp [cmpI, *], rfl⟩
  · exact ⟨by rename_i h1 h2; simp [cmpI, h2, show ¬ x < y from by omega], rfl⟩
  · exact ⟨by rename_i h1 h2; simp [cmpI, show ¬ x < y from by omega, show ¬ y < x from by omega], rfl⟩

def orI : List Int → Int
  | [] => 0
  | x :: l => if x = 0 then orI l else x
theorem or_any (b : Nat) (x y z : Int) (t : TypeId) (w : World) (hb : w.heap[b]? = some (.cells #[.int .i64 x, .int .i64 y, .int .i64 z] t)) :
    Calls Try.prog 57 #[.slice (some ⟨b, 0, none⟩) 3 3] w fun e w' => e = .returned (.int .i64 (orI [x, y, z])) ∧ w' = w := by
  have hc : ∀ i : Nat, ∀ h : i < 3, w.cell? ⟨b, i, none⟩ = some (.int .i64 ([x, y, z][i]'h)) := by
    intro i h
    have e := cell_of hb i
    match i, h with
    | 0, _ => exact e
    | 1, _ => exact e
    | 2, _ => exact e
  go_enter Try.func57, Try.ntmps57
  go_wp2
  go_loop [8] (fun iv => ∃ i : Nat, i ≤ 3 ∧ iv = .int .i64 i ∧ orI ([x, y, z].drop i) = orI [x, y, z]) (fun iv => 3 - (RowKit.intOf iv).toNat)
  case atStart => exact ⟨0, by omega, rfl, rfl⟩
  case round =>
    obtain ⟨i, hi, rfl, ho⟩ := hrel
    by_cases hlt : i < 3
    · have hlt' : decide (i < 3) = true := by simpa using hlt
      have q := hc i hlt
      have hd : [x, y, z].drop i = [x, y, z][i] :: [x, y, z].drop (i + 1) := List.drop_eq_getElem_cons (by simpa using hlt)
      rw [hd] at ho
      clear hd hc hb
      obtain ⟨a, ha0⟩ : ∃ a, a = [x, y, z][i] := ⟨_, rfl⟩
      rw [← ha0] at ho q
      clear ha0
      by_cases ha : a = 0
      · subst ha
        go_wp2
        go_round
        case rel => exact ⟨i + 1, by omega, by go_num, by rw [← ho]; simp [orI]⟩
        case measure => simp [RowKit.intOf]; omega
      · go_wp2
        go_ret
        exact ⟨by rw [← ho]; simp [orI, ha], rfl⟩
    · have hlt' : decide (i < 3) = false := by simpa using hlt
      have e : i = 3 := by omega
      subst e
      go_wp2
      go_ret
      exact ⟨by rw [← ho]; simp [orI], rfl⟩

theorem less_orI (a b : En) : decide (orI [cmpI a.1 b.1, cmpI a.2.1 b.2.1, cmpI a.2.2 b.2.2] < 0) = decide (ltE a b) := by
  rw [decide_eq_decide]
  unfold ltE
  simp only [orI, cmpI]
  repeat' split
  all_goals omega
theorem new_at (W : World) (o : Obj) (n : Nat) (h : n = W.heap.size) : (W.alloc o).drew.heap[n]? = some o := by subst h; exact heap_alloc_new W o
/-- An entry's block. -/
def EnB (w : World) (b : Nat) (e : En) : Prop := w.heap[b]? = some (.cells #[.int .i64 e.1, .int .i64 e.2.1, .int .i64 e.2.2] 32)
def EnC (w : World) (b : Nat) (e : En) : Prop := w.cell? ⟨b, 0, none⟩ = some (.int .i64 e.1) ∧ w.cell? ⟨b, 1, none⟩ = some (.int .i64 e.2.1) ∧ w.cell? ⟨b, 2, none⟩ = some (.int .i64 e.2.2)
theorem EnB.c {w : World} {b : Nat} {e : En} (h : EnB w b e) : EnC w b e := ⟨cell_of h 0, cell_of h 1, cell_of h 2⟩
theorem EnB.all {w : World} {b : Nat} {e : En} (h : EnB w b e) : (w.drew.cell? ⟨b, 0, none⟩ = some (.int .i64 e.1) ∧ w.drew.cell? ⟨b, 1, none⟩ = some (.int .i64 e.2.1) ∧ w.drew.cell? ⟨b, 2, none⟩ = some (.int .i64 e.2.2)) ∧
    (∀ o, (w.alloc o).drew.cell? ⟨b, 0, none⟩ = some (.int .i64 e.1)) ∧ (∀ o, (w.alloc o).drew.cell? ⟨b, 1, none⟩ = some (.int .i64 e.2.1)) ∧ (∀ o, (w.alloc o).drew.cell? ⟨b, 2, none⟩ = some (.int .i64 e.2.2)) :=
  ⟨⟨cell_of h 0, cell_of h 1, cell_of h 2⟩, fun o => cell_of (heap_alloc_keep h o) 0, fun o => cell_of (heap_alloc_keep h o) 1, fun o => cell_of (heap_alloc_keep h o) 2⟩
set_option maxHeartbeats 1000000 in
theorem less_any (a b : En) (w : World) :
    Calls Try.prog 39 #[enV a, enV b] w fun e w' => e = .returned (.bool (decide (ltE a b))) ∧ Touch [] w w' := by
  have hL := less_orI a b
  go_enter Try.func39, Try.ntmps39
  go_wp2_with fail
  obtain ⟨x1, hx1⟩ : ∃ x, x = w.heap.size := ⟨_, rfl⟩
  obtain ⟨x2, hx2⟩ : ∃ x, x = w.heap.size + 1 := ⟨_, rfl⟩
  obtain ⟨w1, hw1⟩ : ∃ w1, w1 = (w.alloc (.cells #[.int .i64 a.1, .int .i64 a.2.1, .int .i64 a.2.2] 32)).alloc (.cells #[.int .i64 b.1, .int .i64 b.2.1, .int .i64 b.2.2] 32) := ⟨_, rfl⟩
  have B1 : EnB w1 x1 a := by rw [hw1, hx1]; exact heap_alloc_keep (heap_alloc_new w _) _
  have B2 : EnB w1 x2 b := by rw [hw1, hx2]; exact new_at (w.alloc _) _ _ (by simp)
  obtain ⟨p1, p2, p3⟩ : EnC w1.drew x1 a := EnB.c B1
  obtain ⟨q1, q2, q3⟩ : EnC w1.drew x2 b := EnB.c B2
  have A1 : ∀ o, EnC (w1.alloc o).drew x1 a := fun o => EnB.c (heap_alloc_keep B1 o)
  have A2 : ∀ o, EnC (w1.alloc o).drew x2 b := fun o => EnB.c (heap_alloc_keep B2 o)
  have A10 : ∀ o, (w1.alloc o).drew.cell? ⟨x1, 0, none⟩ = some (.int .i64 a.1) := fun o => (A1 o).1
  have A11 : ∀ o, (w1.alloc o).drew.cell? ⟨x1, 1, none⟩ = some (.int .i64 a.2.1) := fun o => (A1 o).2.1
  have A12 : ∀ o, (w1.alloc o).drew.cell? ⟨x1, 2, none⟩ = some (.int .i64 a.2.2) := fun o => (A1 o).2.2
  have A20 : ∀ o, (w1.alloc o).drew.cell? ⟨x2, 0, none⟩ = some (.int .i64 b.1) := fun o => (A2 o).1
  have A21 : ∀ o, (w1.alloc o).drew.cell? ⟨x2, 1, none⟩ = some (.int .i64 b.2.1) := fun o => (A2 o).2.1
  have A22 : ∀ o, (w1.alloc o).drew.cell? ⟨x2, 2, none⟩ = some (.int .i64 b.2.2) := fun o => (A2 o).2.2
  clear B1 B2 A1 A2
  have T1 : Hid (Touch [] w w1) := hid (by rw [hw1]; exact ((Touch.refl [] w).alloc _).alloc _)
  have hs : Hid (w1.heap.size = w.heap.size + 1 + 1) := hid (by rw [hw1]; simp)
  rw [← hw1, ← hx2, ← hx1]
  clear hw1 hx1 hx2
  go_region_held3 (fun w' => (w'.cell? ⟨x1, 0, none⟩ = some (.int .i64 a.1) ∧ w'.cell? ⟨x1, 1, none⟩ = some (.int .i64 a.2.1) ∧ w'.cell? ⟨x1, 2, none⟩ = some (.int .i64 a.2.2)) ∧ w'.cell? ⟨x2, 0, none⟩ = some (.int .i64 b.1) ∧ w'.cell? ⟨x2, 1, none⟩ = some (.int .i64 b.2.1) ∧ w'.cell? ⟨x2, 2, none⟩ = some (.int .i64 b.2.2)) (first | go_keep | exact ⟨⟨p1, p2, p3⟩, q1, q2, q3⟩ | exact ⟨⟨A10 _, A11 _, A12 _⟩, A20 _, A21 _, A22 _⟩ | assumption) ((first
    | (go_at_call 58; refine (cmp_any _ _ _).mono ?_; rintro e w' ⟨rfl, rfl⟩)
    | (go_at_call 57; refine (or_any _ _ _ _ _ _ (new_at _ _ _ rfl)).mono ?_; rintro e w' ⟨rfl, rfl⟩)))
  go_wp2_with fail
  go_ret
  exact ⟨rfl, (T1.out.alloc _).drew⟩
end Go.Proofs.Ytnkflmimnpolcaa
