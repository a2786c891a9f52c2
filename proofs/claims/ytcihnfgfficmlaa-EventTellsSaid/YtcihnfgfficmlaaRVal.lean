/- event's small functions: bounded, expectable, partsOf, Valid, ValidMeta, allValid, hasMore. -/
import Derived.Test.YtcihnfgfficmlaaEv
namespace Go.Proofs.Ytcihnfgfficmlaa
open Go.RowKit Go.Lib
set_option maxRecDepth 100000

theorem bounded_any (x : Int) (w : World) : Calls Try.prog 53 #[.int .i64 x] w fun r w' => r = .returned (.bool (inGreat x)) ∧ w = w' := by
  by_cases h : x < 0
  · rw [great_no (.inl h)]
    have q : decide (0 ≤ x) = false := by simpa using h
    clear h
    go_enter Try.func53, Try.ntmps53
    go_wp2
    go_ret
    exact ⟨rfl, rfl⟩
  · by_cases h2 : 1099511627776 < x
    · rw [great_no (.inr h2)]
      have q1 : (0 : Int) ≤ x := by omega
      have q2 : decide (x ≤ 1099511627776) = false := by simp; omega
      clear h h2
      go_enter Try.func53, Try.ntmps53
      go_wp2
      go_ret
      exact ⟨rfl, rfl⟩
    · rw [great_yes (x := x) (by omega) (by omega)]
      have q1 : (0 : Int) ≤ x := by omega
      have q2 : x ≤ (1099511627776 : Int) := by omega
      have q3 : decide (x ≤ 1099511627776) = true := by simpa using q2
      clear h h2
      go_enter Try.func53, Try.ntmps53
      go_wp2
      go_ret
      exact ⟨by first | rfl | simp [q3], rfl⟩

theorem expectable_any (x : Int) (w : World) : Calls Try.prog 57 #[.int .i64 x] w fun r w' => r = .returned (.bool (expOk x)) ∧ w = w' := by
  have C := hid (bounded_any x)
  by_cases h : inGreat x = true
  · rw [h] at C
    have he : expOk x = true := by unfold expOk; rw [h]; simp
    rw [he]
    clear h he
    go_enter Try.func57, Try.ntmps57
    go_wp2_with (go_at_call 53; refine (C.out _).mono ?_; rintro e w1 ⟨rfl, rfl⟩)
    go_ret
    exact ⟨rfl, rfl⟩
  · have h2 : inGreat x = false := by simpa using h
    rw [h2] at C
    have he : expOk x = (decide (x = -1) || decide (x = -2) || decide (x = -4)) := by unfold expOk; rw [h2]; simp
    rw [he]
    clear h he h2
    by_cases e1 : x = -1
    · subst e1
      go_enter Try.func57, Try.ntmps57
      go_wp2_with (go_at_call 53; refine (C.out _).mono ?_; rintro e w1 ⟨rfl, rfl⟩)
      go_ret
      exact ⟨rfl, rfl⟩
    by_cases e2 : x = -2
    · subst e2
      clear e1
      go_enter Try.func57, Try.ntmps57
      go_wp2_with (go_at_call 53; refine (C.out _).mono ?_; rintro e w1 ⟨rfl, rfl⟩)
      go_ret
      exact ⟨rfl, rfl⟩
    by_cases e4 : x = -4
    · subst e4
      clear e1 e2
      go_enter Try.func57, Try.ntmps57
      go_wp2_with (go_at_call 53; refine (C.out _).mono ?_; rintro e w1 ⟨rfl, rfl⟩)
      go_ret
      exact ⟨rfl, rfl⟩
    have q1 : (x == -1) = false := by simpa using e1
    have q2 : (x == -2) = false := by simpa using e2
    have q4 : (x == -4) = false := by simpa using e4
    have qq : (decide (x = -1) || decide (x = -2) || decide (x = -4)) = false := by simp [e1, e2, e4]
    rw [qq]
    clear e1 e2 e4 qq
    go_enter Try.func57, Try.ntmps57
    go_wp2_with (go_at_call 53; refine (C.out _).mono ?_; rintro e w1 ⟨rfl, rfl⟩)
    go_ret
    exact ⟨rfl, rfl⟩

theorem evValid_any (e : EvD) (w : World) : Calls Try.prog 12 #[e.agg] w fun r w' => r = .returned (.bool (validE e)) ∧ Touch [] w w' := by
  have C := hid (fun w => typ_any e.typ w)
  by_cases h1 : 1 ≤ e.id
  · by_cases hs : strm e.typ.data.toList = true
    · have hv := hid (show validE e = decide ((e.data.size : Int) ≤ 200) by unfold validE; rw [hs, decide_eq_true h1]; simp; omega)
      rw [hs] at C
      unfold EvD.agg
      clear hs
      generalize e.typ = t at *
      generalize e.data = d at *
      generalize e.id = i at *
      generalize e.val = b at *
      go_enter Try.func12, Try.ntmps12
      go_wp2_with (go_at_call 34; refine (C.out _).mono ?_; rintro e w1 ⟨rfl, t1⟩; have d2 := t1.cell (cell_of (heap_alloc_new w _) 2); simp at d2)
      go_ret
      exact ⟨by rw [hv.out]; rfl, ((Touch.refl _ _).alloc _).trans t1 (by simp)⟩
    · have hs2 : strm e.typ.data.toList = false := by simpa using hs
      have hv := hid (valid_no (.inr (.inl hs2)))
      rw [hs2] at C
      unfold EvD.agg
      clear hs hs2
      generalize e.typ = t at *
      generalize e.data = d at *
      generalize e.id = i at *
      generalize e.val = b at *
      go_enter Try.func12, Try.ntmps12
      go_wp2_with (go_at_call 34; refine (C.out _).mono ?_; rintro e w1 ⟨rfl, t1⟩)
      go_ret
      exact ⟨by rw [hv.out]; rfl, ((Touch.refl _ _).alloc _).trans t1 (by simp)⟩
  · have hv := hid (valid_no (e := e) (.inl (by omega)))
    have h2 : decide (1 ≤ e.id) = false := by simpa using h1
    clear h1
    unfold EvD.agg
    generalize e.typ = t at *
    generalize e.data = d at *
    generalize e.id = i at *
    generalize e.val = b at *
    go_enter Try.func12, Try.ntmps12
    go_wp2
    go_ret
    exact ⟨by rw [hv.out]; rfl, (Touch.refl _ _).alloc _⟩

theorem evValidMeta_any (a b c : Int) (w : World) : Calls Try.prog 20 #[metaV a b c] w fun r w' => r = .returned (.bool (validM a b c)) ∧ Touch [] w w' := by
  have CA := hid (bounded_any a)
  have CB := hid (bounded_any b)
  have CC := hid (bounded_any c)
  unfold metaV validM
  generalize inGreat c = gc at *
  cases ha : inGreat a
  · rw [ha] at CA
    clear ha
    go_enter Try.func20, Try.ntmps20
    go_wp2_with fail
    refine (CA.out _).mono ?_
    rintro e w1 ⟨rfl, rfl⟩
    go_wp2
    go_ret
    exact ⟨rfl, (Touch.refl _ _).alloc _⟩
  · rw [ha] at CA
    clear ha
    cases hb : inGreat b
    · rw [hb] at CB
      clear hb
      go_enter Try.func20, Try.ntmps20
      go_wp2_with fail
      refine (CA.out _).mono ?_
      rintro e w1 ⟨rfl, rfl⟩
      go_wp2_with fail
      refine (CB.out _).mono ?_
      rintro e w1 ⟨rfl, rfl⟩
      go_wp2
      go_ret
      exact ⟨rfl, (Touch.refl _ _).alloc _⟩
    · rw [hb] at CB
      clear hb
      go_enter Try.func20, Try.ntmps20
      go_wp2_with fail
      refine (CA.out _).mono ?_
      rintro e w1 ⟨rfl, rfl⟩
      go_wp2_with fail
      refine (CB.out _).mono ?_
      rintro e w1 ⟨rfl, rfl⟩
      go_wp2_with fail
      refine (CC.out _).mono ?_
      rintro e w1 ⟨rfl, rfl⟩
      go_wp2
      go_ret
      exact ⟨by simp, (Touch.refl _ _).alloc _⟩
end Go.Proofs.Ytcihnfgfficmlaa
