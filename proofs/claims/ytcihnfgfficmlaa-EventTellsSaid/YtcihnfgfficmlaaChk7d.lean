/- The laws' own Check: an append of what may be. -/
import Derived.Test.YtcihnfgfficmlaaEv
namespace Go.Proofs.Ytcihnfgfficmlaa
open Go.RowKit Go.Lib

set_option maxRecDepth 100000 in
set_option maxHeartbeats 4000000 in
theorem refCheck1_meta (t e p q r : Int) (s : ByteArray) (l : List EvD) (x : Option Addr) (cap : Nat) (w : World) (h3 : 0 ≤ t) (h4 : t ≤ 1099511627776) (hs : strm s.data.toList = true) (h1 : 1 ≤ l.length) (h2 : (l.length : Int) ≤ 8) (hx : EvX w x l) (hv : l.all validE = true) (he : e = -1 ∨ e = -2 ∨ e = -4 ∨ (0 ≤ e ∧ e ≤ 1099511627776)) (hm : p ≠ 0 ∨ (p = 0 ∧ q ≠ 0) ∨ (p = 0 ∧ q = 0 ∧ r ≠ 0)) :
    Calls Try.prog 23 #[.agg #[.int .i64 1, .int .i64 t, .string s, .int .i64 e, .slice x l.length cap, .int .i64 p, .int .i64 q, .int .i64 r]] w fun r w' => r = .returned (.int .i64 1) ∧ Touch [] w w' := by
  have C := hid (fun w => refStm_any s w)
  rw [hs] at C
  clear hs
  have n0 : ((l.length : Int) == 0) = false := by rw [Bool.eq_false_iff]; intro h; have := eq_of_beq h; omega
  have HX := hid hx
  have HV := hid hv
  have N1 := hid h1
  clear hx hv
  obtain ⟨W1, hW⟩ : ∃ W1, W1 = w.alloc (.cells #[.int .i64 1, .int .i64 t, .string s, .int .i64 e, .slice x l.length cap, .int .i64 p, .int .i64 q, .int .i64 r] tCmd) := ⟨_, rfl⟩
  have T1 : Hid (Touch [] w W1) := by rw [hW]; exact hid ((Touch.refl _ _).alloc _)
  have B0 : Hid (W1.cell? ⟨w.heap.size, 0, none⟩ = some (.int .i64 1)) := by rw [hW]; exact hid (cell_of (heap_alloc_new w _) 0)
  have B3 : Hid (W1.cell? ⟨w.heap.size, 3, none⟩ = some (.int .i64 e)) := by rw [hW]; exact hid (cell_of (heap_alloc_new w _) 3)
  have B4 : Hid (W1.cell? ⟨w.heap.size, 4, none⟩ = some (.slice x l.length cap)) := by rw [hW]; exact hid (cell_of (heap_alloc_new w _) 4)
  have B5 : Hid (W1.cell? ⟨w.heap.size, 5, none⟩ = some (.int .i64 p)) := by rw [hW]; exact hid (cell_of (heap_alloc_new w _) 5)
  have B6 : Hid (W1.cell? ⟨w.heap.size, 6, none⟩ = some (.int .i64 q)) := by rw [hW]; exact hid (cell_of (heap_alloc_new w _) 6)
  have B7 : Hid (W1.cell? ⟨w.heap.size, 7, none⟩ = some (.int .i64 r)) := by rw [hW]; exact hid (cell_of (heap_alloc_new w _) 7)
  go_enter Try.func23, Try.ntmps23
  go_upto_region 10 with (go_at_call 35; refine (C.out _).mono ?_; rintro e w1 ⟨rfl, rfl⟩)
  simp only [tCmd] at hW
  rw [← hW]
  clear hW
  go_wp2
  go_loopw [3] (fun kv wr => ∃ j : Nat, j ≤ l.length ∧ kv = .int .i64 j ∧ Touch [] W1 wr ∧ ∀ i (h : i < l.length), i < j → validE l[i] = true) (fun kv _ => l.length - (RowKit.intOf kv).toNat)
  case atStart => exact ⟨0, Nat.zero_le _, rfl, Touch.refl _ _, fun i _ h => absurd h (Nat.not_lt_zero i)⟩
  case round =>
    obtain ⟨j, hj, rfl, hT, hall⟩ := hrel
    have HT := hid hT
    have Hall := hid hall
    clear hT hall
    by_cases hlt : j < l.length
    · have hltI : (j : Int) < l.length := by omega
      have hj0 : (0 : Int) ≤ j := by omega
      have hb1 : (j : Int) < 9223372036854775807 := by omega
      obtain ⟨b, off, rfl, ha, ok⟩ := (HX.out.touch (T1.out.trans HT.out (by simp))) j hlt
      have c4 := HT.out.cell B4.out
      have D := hid (fun w => refValid_any l[j] w)
      have hvj : validE l[j] = true := List.all_eq_true.1 HV.out _ (List.getElem_mem hlt)
      have hgood : Hid (validE l[j] = true → ∀ i (h : i < l.length), i < j + 1 → validE l[i] = true) := fun h i h1 h3 => by
        by_cases he : i = j
        · subst he; exact h
        · exact Hall.out i h1 (by omega)
      obtain ⟨a0, a1, a2, a3⟩ := ha
      unfold EvD.agg at D
      rw [hvj] at D hgood
      clear hvj
      generalize l[j] = E at *
      obtain ⟨E0, E1, E2, E3⟩ := E
      simp only [] at a0 a1 a2 a3 D
      clear ok
      have Hlt := hid hlt
      go_wp2_with (go_at_call 13; refine (D.out _).mono ?_; rintro e w2 ⟨rfl, a2⟩)
      go_roundw
      case rel => exact ⟨j + 1, by omega, by go_num, HT.out.trans a2 (by simp), hgood.out (by first | rfl | trivial)⟩
      case measure => simp [RowKit.intOf]; omega
    · obtain rfl : j = l.length := by omega
      clear hlt n0 h1 h2
      have c0 := HT.out.cell B0.out
      have c3 := HT.out.cell B3.out
      have c4 := HT.out.cell B4.out
      have c5 := HT.out.cell B5.out
      have c6 := HT.out.cell B6.out
      have c7 := HT.out.cell B7.out
      rcases hm with hm | ⟨rfl, hm⟩ | ⟨rfl, rfl, hm⟩
      all_goals
        rcases he with rfl | rfl | rfl | ⟨he1, he2⟩
        rotate_right
        have e1 : (e != -1) = true := by simp; omega
        have e2 : (e != -2) = true := by simp; omega
        have e3 : (e != -4) = true := by simp; omega
        have e4 : decide (e < 0) = false := by simp; omega
        have e5 : decide (1099511627776 < e) = false := by simp; omega
        clear he1 he2
        all_goals
          go_wp2
          all_goals
            go_ret
            exact ⟨rfl, T1.out.trans HT.out (by simp)⟩

set_option maxRecDepth 100000 in
set_option maxHeartbeats 4000000 in
theorem refCheck1_good (t e : Int) (s : ByteArray) (l : List EvD) (x : Option Addr) (cap : Nat) (w : World) (h3 : 0 ≤ t) (h4 : t ≤ 1099511627776) (hs : strm s.data.toList = true) (h1 : 1 ≤ l.length) (h2 : (l.length : Int) ≤ 8) (hx : EvX w x l) (hv : l.all validE = true) (he : e = -1 ∨ e = -2 ∨ e = -4 ∨ (0 ≤ e ∧ e ≤ 1099511627776)) :
    Calls Try.prog 23 #[.agg #[.int .i64 1, .int .i64 t, .string s, .int .i64 e, .slice x l.length cap, .int .i64 0, .int .i64 0, .int .i64 0]] w fun r w' => r = .returned (.int .i64 0) ∧ Touch [] w w' := by
  have C := hid (fun w => refStm_any s w)
  rw [hs] at C
  clear hs
  have n0 : ((l.length : Int) == 0) = false := by rw [Bool.eq_false_iff]; intro h; have := eq_of_beq h; omega
  have HX := hid hx
  have HV := hid hv
  have N1 := hid h1
  clear hx hv
  obtain ⟨W1, hW⟩ : ∃ W1, W1 = w.alloc (.cells #[.int .i64 1, .int .i64 t, .string s, .int .i64 e, .slice x l.length cap, .int .i64 0, .int .i64 0, .int .i64 0] tCmd) := ⟨_, rfl⟩
  have T1 : Hid (Touch [] w W1) := by rw [hW]; exact hid ((Touch.refl _ _).alloc _)
  have B0 : Hid (W1.cell? ⟨w.heap.size, 0, none⟩ = some (.int .i64 1)) := by rw [hW]; exact hid (cell_of (heap_alloc_new w _) 0)
  have B3 : Hid (W1.cell? ⟨w.heap.size, 3, none⟩ = some (.int .i64 e)) := by rw [hW]; exact hid (cell_of (heap_alloc_new w _) 3)
  have B4 : Hid (W1.cell? ⟨w.heap.size, 4, none⟩ = some (.slice x l.length cap)) := by rw [hW]; exact hid (cell_of (heap_alloc_new w _) 4)
  have B5 : Hid (W1.cell? ⟨w.heap.size, 5, none⟩ = some (.int .i64 0)) := by rw [hW]; exact hid (cell_of (heap_alloc_new w _) 5)
  have B6 : Hid (W1.cell? ⟨w.heap.size, 6, none⟩ = some (.int .i64 0)) := by rw [hW]; exact hid (cell_of (heap_alloc_new w _) 6)
  have B7 : Hid (W1.cell? ⟨w.heap.size, 7, none⟩ = some (.int .i64 0)) := by rw [hW]; exact hid (cell_of (heap_alloc_new w _) 7)
  go_enter Try.func23, Try.ntmps23
  go_upto_region 10 with (go_at_call 35; refine (C.out _).mono ?_; rintro e w1 ⟨rfl, rfl⟩)
  simp only [tCmd] at hW
  rw [← hW]
  clear hW
  go_wp2
  go_loopw [3] (fun kv wr => ∃ j : Nat, j ≤ l.length ∧ kv = .int .i64 j ∧ Touch [] W1 wr ∧ ∀ i (h : i < l.length), i < j → validE l[i] = true) (fun kv _ => l.length - (RowKit.intOf kv).toNat)
  case atStart => exact ⟨0, Nat.zero_le _, rfl, Touch.refl _ _, fun i _ h => absurd h (Nat.not_lt_zero i)⟩
  case round =>
    obtain ⟨j, hj, rfl, hT, hall⟩ := hrel
    have HT := hid hT
    have Hall := hid hall
    clear hT hall
    by_cases hlt : j < l.length
    · have hltI : (j : Int) < l.length := by omega
      have hj0 : (0 : Int) ≤ j := by omega
      have hb1 : (j : Int) < 9223372036854775807 := by omega
      obtain ⟨b, off, rfl, ha, ok⟩ := (HX.out.touch (T1.out.trans HT.out (by simp))) j hlt
      have c4 := HT.out.cell B4.out
      have D := hid (fun w => refValid_any l[j] w)
      have hvj : validE l[j] = true := List.all_eq_true.1 HV.out _ (List.getElem_mem hlt)
      have hgood : Hid (validE l[j] = true → ∀ i (h : i < l.length), i < j + 1 → validE l[i] = true) := fun h i h1 h3 => by
        by_cases he : i = j
        · subst he; exact h
        · exact Hall.out i h1 (by omega)
      obtain ⟨a0, a1, a2, a3⟩ := ha
      unfold EvD.agg at D
      rw [hvj] at D hgood
      clear hvj
      generalize l[j] = E at *
      obtain ⟨E0, E1, E2, E3⟩ := E
      simp only [] at a0 a1 a2 a3 D
      clear ok
      have Hlt := hid hlt
      go_wp2_with (go_at_call 13; refine (D.out _).mono ?_; rintro e w2 ⟨rfl, a2⟩)
      go_roundw
      case rel => exact ⟨j + 1, by omega, by go_num, HT.out.trans a2 (by simp), hgood.out (by first | rfl | trivial)⟩
      case measure => simp [RowKit.intOf]; omega
    · obtain rfl : j = l.length := by omega
      clear hlt n0 h1 h2
      have c0 := HT.out.cell B0.out
      have c3 := HT.out.cell B3.out
      have c4 := HT.out.cell B4.out
      have c5 := HT.out.cell B5.out
      have c6 := HT.out.cell B6.out
      have c7 := HT.out.cell B7.out
      rcases he with rfl | rfl | rfl | ⟨he1, he2⟩
      rotate_right
      have e1 : (e != -1) = true := by simp; omega
      have e2 : (e != -2) = true := by simp; omega
      have e3 : (e != -4) = true := by simp; omega
      have e4 : decide (e < 0) = false := by simp; omega
      have e5 : decide (1099511627776 < e) = false := by simp; omega
      clear he1 he2
      all_goals
        go_wp2
        go_ret
        exact ⟨rfl, T1.out.trans HT.out (by simp)⟩
end Go.Proofs.Ytcihnfgfficmlaa
