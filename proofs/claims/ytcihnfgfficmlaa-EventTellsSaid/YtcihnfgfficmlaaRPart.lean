/- event's partsOf, allValid, hasMore. -/
import Derived.Test.YtcihnfgfficmlaaRVal
namespace Go.Proofs.Ytcihnfgfficmlaa
open Go.RowKit Go.Lib
set_option maxRecDepth 100000

abbrev tPts : TypeId := 87
/-- What a kind has. -/
def ptsV (s e v m : Bool) : Value := .agg #[.bool s, .bool e, .bool v, .bool m]

theorem parts_1 (w : World) : Calls Try.prog 54 #[.int .i64 1] w fun r w' => r = .returned (.tuple #[ptsV true true true false, .bool true]) ∧ Touch [] w w' := by
  have Z := hid (heap_alloc_new w (.cells #[.bool true, .bool true, .bool true, .bool false] tPts))
  have T : Hid (Touch [] w (w.alloc (.cells #[.bool true, .bool true, .bool true, .bool false] tPts))) := (Touch.refl _ _).alloc _
  simp only [tPts] at Z T
  have z0 := cell_of Z.out 0; have z1 := cell_of Z.out 1; have z2 := cell_of Z.out 2; have z3 := cell_of Z.out 3
  go_enter Try.func54, Try.ntmps54
  go_wp2
  unfold ptsV
  exact bodyPost_ret (v := .tuple #[.agg #[.bool true, .bool true, .bool true, .bool false], .bool true]) (by simp [results, Try.results54, go_sem, z0, z1, z2, z3]) rfl ⟨rfl, T.out⟩
theorem parts_2 (w : World) : Calls Try.prog 54 #[.int .i64 2] w fun r w' => r = .returned (.tuple #[ptsV true false false true, .bool true]) ∧ Touch [] w w' := by
  have Z := hid (heap_alloc_new w (.cells #[.bool true, .bool false, .bool false, .bool true] tPts))
  have T : Hid (Touch [] w (w.alloc (.cells #[.bool true, .bool false, .bool false, .bool true] tPts))) := (Touch.refl _ _).alloc _
  simp only [tPts] at Z T
  have z0 := cell_of Z.out 0; have z1 := cell_of Z.out 1; have z2 := cell_of Z.out 2; have z3 := cell_of Z.out 3
  go_enter Try.func54, Try.ntmps54
  go_wp2
  unfold ptsV
  exact bodyPost_ret (v := .tuple #[.agg #[.bool true, .bool false, .bool false, .bool true], .bool true]) (by simp [results, Try.results54, go_sem, z0, z1, z2, z3]) rfl ⟨rfl, T.out⟩
theorem parts_3 (w : World) : Calls Try.prog 54 #[.int .i64 3] w fun r w' => r = .returned (.tuple #[ptsV true true false false, .bool true]) ∧ Touch [] w w' := by
  have Z := hid (heap_alloc_new w (.cells #[.bool true, .bool true, .bool false, .bool false] tPts))
  have T : Hid (Touch [] w (w.alloc (.cells #[.bool true, .bool true, .bool false, .bool false] tPts))) := (Touch.refl _ _).alloc _
  simp only [tPts] at Z T
  have z0 := cell_of Z.out 0; have z1 := cell_of Z.out 1; have z2 := cell_of Z.out 2; have z3 := cell_of Z.out 3
  go_enter Try.func54, Try.ntmps54
  go_wp2
  unfold ptsV
  exact bodyPost_ret (v := .tuple #[.agg #[.bool true, .bool true, .bool false, .bool false], .bool true]) (by simp [results, Try.results54, go_sem, z0, z1, z2, z3]) rfl ⟨rfl, T.out⟩
theorem parts_4 (w : World) : Calls Try.prog 54 #[.int .i64 4] w fun r w' => r = .returned (.tuple #[ptsV false false false false, .bool true]) ∧ Touch [] w w' := by
  have Z := hid (heap_alloc_new w (.cells #[.bool false, .bool false, .bool false, .bool false] tPts))
  have T : Hid (Touch [] w (w.alloc (.cells #[.bool false, .bool false, .bool false, .bool false] tPts))) := (Touch.refl _ _).alloc _
  simp only [tPts] at Z T
  have z0 := cell_of Z.out 0; have z1 := cell_of Z.out 1; have z2 := cell_of Z.out 2; have z3 := cell_of Z.out 3
  go_enter Try.func54, Try.ntmps54
  go_wp2
  unfold ptsV
  exact bodyPost_ret (v := .tuple #[.agg #[.bool false, .bool false, .bool false, .bool false], .bool true]) (by simp [results, Try.results54, go_sem, z0, z1, z2, z3]) rfl ⟨rfl, T.out⟩
theorem parts_5 (w : World) : Calls Try.prog 54 #[.int .i64 5] w fun r w' => r = .returned (.tuple #[ptsV false false false false, .bool true]) ∧ Touch [] w w' := by
  have Z := hid (heap_alloc_new w (.cells #[.bool false, .bool false, .bool false, .bool false] tPts))
  have T : Hid (Touch [] w (w.alloc (.cells #[.bool false, .bool false, .bool false, .bool false] tPts))) := (Touch.refl _ _).alloc _
  simp only [tPts] at Z T
  have z0 := cell_of Z.out 0; have z1 := cell_of Z.out 1; have z2 := cell_of Z.out 2; have z3 := cell_of Z.out 3
  go_enter Try.func54, Try.ntmps54
  go_wp2
  unfold ptsV
  exact bodyPost_ret (v := .tuple #[.agg #[.bool false, .bool false, .bool false, .bool false], .bool true]) (by simp [results, Try.results54, go_sem, z0, z1, z2, z3]) rfl ⟨rfl, T.out⟩
theorem parts_no (w : World) (k : Int) (hk : k < 1 ∨ 5 < k) : Calls Try.prog 54 #[.int .i64 k] w fun r w' => r = .returned (.tuple #[ptsV false false false false, .bool false]) ∧ Touch [] w w' := by
  have Z := hid (heap_alloc_new w (.cells #[.bool false, .bool false, .bool false, .bool false] tPts))
  have T : Hid (Touch [] w (w.alloc (.cells #[.bool false, .bool false, .bool false, .bool false] tPts))) := (Touch.refl _ _).alloc _
  simp only [tPts] at Z T
  have z0 := cell_of Z.out 0; have z1 := cell_of Z.out 1; have z2 := cell_of Z.out 2; have z3 := cell_of Z.out 3
  have q1 : (k == 1) = false := by rw [Bool.eq_false_iff]; intro e; have := eq_of_beq e; omega
  have q2 : (k == 2) = false := by rw [Bool.eq_false_iff]; intro e; have := eq_of_beq e; omega
  have q3 : (k == 3) = false := by rw [Bool.eq_false_iff]; intro e; have := eq_of_beq e; omega
  have q4 : (k == 4) = false := by rw [Bool.eq_false_iff]; intro e; have := eq_of_beq e; omega
  have q5 : (k == 5) = false := by rw [Bool.eq_false_iff]; intro e; have := eq_of_beq e; omega
  clear hk
  go_enter Try.func54, Try.ntmps54
  go_wp2
  unfold ptsV
  exact bodyPost_ret (v := .tuple #[.agg #[.bool false, .bool false, .bool false, .bool false], .bool false]) (by simp [results, Try.results54, go_sem, z0, z1, z2, z3]) rfl ⟨rfl, T.out⟩

/-! ### allValid -/
theorem store_flt0 (a : Addr) (b : Nat) (w : World) : (store a (.float .f64 b)).run Try.prog w = stored Try.prog w a (.float .f64 b) .plain := run_store Try.prog w a _ _ rfl
set_option maxHeartbeats 1000000 in
theorem allValid_any (l : List EvD) (x : Option Addr) (cap : Nat) (w : World) (hx : EvX w x l) (hm : l.length ≤ 9223372036854775807) :
    Calls Try.prog 56 #[.slice x l.length cap] w fun r w' => r = .returned (.bool (l.all validE)) ∧ Touch [] w w' := by
  have HX := hid hx
  have HM := hid hm
  clear hx hm
  go_enter Try.func56, Try.ntmps56
  go_wp2
  go_loopw [7] (fun kv wr => ∃ j : Nat, j ≤ l.length ∧ kv = .int .i64 j ∧ Touch [] w wr ∧ ∀ i (h : i < l.length), i < j → validE l[i] = true) (fun kv _ => l.length - (RowKit.intOf kv).toNat)
  case atStart => exact ⟨0, Nat.zero_le _, rfl, Touch.refl _ _, fun i _ h => absurd h (Nat.not_lt_zero i)⟩
  case round =>
    obtain ⟨j, hj, rfl, hT, hall⟩ := hrel
    have HT := hid hT
    have Hall := hid hall
    clear hT hall
    by_cases hlt : j < l.length
    · have hltI : (j : Int) < l.length := by omega
      have hj0 : (0 : Int) ≤ j := by omega
      have hb1 : (j : Int) < 9223372036854775807 := by have := HM.out; omega
      obtain ⟨b, off, rfl, ha, ok⟩ := (HX.out.touch HT.out) j hlt
      have D := hid (fun w => evValid_any l[j] w)
      have hgood : Hid (validE l[j] = true → ∀ i (h : i < l.length), i < j + 1 → validE l[i] = true) := fun h i h1 h3 => by
        by_cases he : i = j
        · subst he; exact h
        · exact Hall.out i h1 (by omega)
      have hbad : Hid (validE l[j] = false → l.all validE = false) := fun h => by
        rw [Bool.eq_false_iff]; intro e
        have := List.all_eq_true.1 e _ (List.getElem_mem hlt)
        rw [h] at this; cases this
      obtain ⟨a0, a1, a2, a3⟩ := ha
      unfold EvD.agg at D
      generalize hg : validE l[j] = g at *
      generalize l[j] = E at *
      obtain ⟨E0, E1, E2, E3⟩ := E
      simp only [] at a0 a1 a2 a3 D
      clear ok hg
      have Hlt := hid hlt
      have hsf := store_flt0
      cases g
      · have hr := hid (hbad.out rfl)
        clear hbad hgood
        go_wp2_with (go_at_call 12; refine (D.out _).mono ?_; rintro e w2 ⟨rfl, a2⟩)
        go_ret
        exact ⟨by rw [hr.out]; rfl, (HT.out.alloc _).trans a2 (by simp)⟩
      · have hr := hid (hgood.out rfl)
        clear hbad hgood
        go_wp2_with (go_at_call 12; refine (D.out _).mono ?_; rintro e w2 ⟨rfl, a2⟩)
        go_roundw
        case rel => exact ⟨j + 1, by omega, by go_num, (HT.out.alloc _).trans a2 (by simp), hr.out⟩
        case measure => simp [RowKit.intOf]; omega
    · obtain rfl : j = l.length := by omega
      have hr := hid (show l.all validE = true from List.all_eq_true.2 fun e he => by obtain ⟨i, hi, rfl⟩ := List.getElem_of_mem he; exact Hall.out i hi hi)
      clear hlt
      go_wp2
      go_ret
      exact ⟨by rw [hr.out]; rfl, HT.out⟩
end Go.Proofs.Ytcihnfgfficmlaa
