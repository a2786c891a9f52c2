/- What real.Parse returns. -/
import Derived.Test.YtiglfdefeaddmaaText
import Derived.Test.YtiglfdefeaddmaaUnhex
import Derived.Test.YtiglfdefeaddmaaDig
namespace Go.Proofs.Ytiglfdefeaddmaa
open Go.RowKit Go.Lib

/-- What Number tells, as two ints. -/
def numP (l : List UInt8) : Int × Int :=
  if (trimPrefix l [45]).length < 1 ∨ 18 < (trimPrefix l [45]).length ∨ ((trimPrefix l [45]).head? = some 48 ∧ l ≠ [48]) then (0, 1)
  else if (∀ c ∈ trimPrefix l [45], isDig c = true) then (if decide ((trimPrefix l [45]).length < l.length) = true then -(dv (trimPrefix l [45]) : Int) else dv (trimPrefix l [45]), 0) else (0, 1)
theorem numSpec_eq (l : List UInt8) : numSpec l = .tuple #[.int .i64 (numP l).1, .int .i64 (numP l).2] := by
  unfold numSpec numP numRes
  split
  · rfl
  · split <;> rfl
theorem numP_of {l : List UInt8} {v e : Int} (h : numSpec l = .tuple #[.int .i64 v, .int .i64 e]) : numP l = (v, e) := by
  rw [numSpec_eq] at h
  simp at h
  exact Prod.ext h.1 h.2

/-- What Parse tells: a number's bits, an error. -/
def parseOf (l : List UInt8) : Nat × Int :=
  if l = [110, 97, 110] then (oneNan, 0) else if l = [45, 105, 110, 102] then (18442240474082181120, 0) else if l = [105, 110, 102] then (9218868437227405312, 0) else if l = [45, 48] then (9223372036854775808, 0)
  else if hasPrefix l [120] = true then (if unhexOk (trimPrefix l [120]) then (can (hv (trimPrefix l [120])), 0) else (0, 6))
  else if (numP l).2 ≠ 0 ∨ (numP l).1 ≤ -1000000000000000 ∨ 1000000000000000 ≤ (numP l).1 then (0, 6) else (fl (numP l).1, 0)

theorem list_eq (s : ByteArray) (l : List UInt8) : (s.toList == l) = decide (s.data.toList = l) := by
  rw [ByteArray.toList_eq, Bool.eq_iff_iff]; simp
theorem hv_word {l : List UInt8} (h : unhexOk l) : Wd (hv l) := by
  have h1 := hv_lt l
  rw [h.1] at h1
  exact h1

set_option maxHeartbeats 1000000 in
theorem parse_any (s : ByteArray) (w : World) (hsz : s.size ≤ 9223372036854775807) :
    Calls Try.prog 64 #[.string s] w fun e w' => e = .returned (.tuple #[.float .f64 (parseOf s.data.toList).1, .int .i64 (parseOf s.data.toList).2]) ∧ Touch [] w w' := by
  have g1 := list_eq s [110, 97, 110]
  have g2 := list_eq s [45, 105, 110, 102]
  have g3 := list_eq s [105, 110, 102]
  have g4 := list_eq s [45, 48]
  by_cases h1 : s.data.toList = [110, 97, 110]
  · have hc := hid (show parseOf s.data.toList = (oneNan, 0) by unfold parseOf; rw [if_pos h1])
    rw [decide_eq_true h1] at g1
    have C := hid (of_any 9221120237041090560 w (by decide))
    clear h1 g2 g3 g4 hsz
    go_enter Try.func64, Try.ntmps64
    go_wp2_with (go_at_call 79; refine C.out.mono ?_; rintro e w' ⟨rfl, rfl⟩)
    go_ret2
    exact ⟨by rw [hc.out]; rfl, Touch.refl _ _⟩
  rw [decide_eq_false h1] at g1
  by_cases h2 : s.data.toList = [45, 105, 110, 102]
  · have hc := hid (show parseOf s.data.toList = (18442240474082181120, 0) by unfold parseOf; rw [if_neg h1, if_pos h2])
    rw [decide_eq_true h2] at g2
    clear h1 h2 g3 g4 hsz
    go_enter Try.func64, Try.ntmps64
    go_wp2_with (go_at_call 80; refine (infM_any _).mono ?_; rintro e w' ⟨rfl, rfl⟩)
    go_ret2
    exact ⟨by rw [hc.out]; rfl, Touch.refl _ _⟩
  rw [decide_eq_false h2] at g2
  by_cases h3 : s.data.toList = [105, 110, 102]
  · have hc := hid (show parseOf s.data.toList = (9218868437227405312, 0) by unfold parseOf; rw [if_neg h1, if_neg h2, if_pos h3])
    rw [decide_eq_true h3] at g3
    clear h1 h2 h3 g4 hsz
    go_enter Try.func64, Try.ntmps64
    go_wp2_with (go_at_call 80; refine (infP_any _).mono ?_; rintro e w' ⟨rfl, rfl⟩)
    go_ret2
    exact ⟨by rw [hc.out]; rfl, Touch.refl _ _⟩
  rw [decide_eq_false h3] at g3
  by_cases h4 : s.data.toList = [45, 48]
  · have hc := hid (show parseOf s.data.toList = (9223372036854775808, 0) by unfold parseOf; rw [if_neg h1, if_neg h2, if_neg h3, if_pos h4])
    rw [decide_eq_true h4] at g4
    clear h1 h2 h3 h4 hsz
    go_enter Try.func64, Try.ntmps64
    go_wp2_with (go_at_call 81; refine (copysign_any _).mono ?_; rintro e w' ⟨rfl, rfl⟩)
    go_ret2
    exact ⟨by rw [hc.out]; rfl, Touch.refl _ _⟩
  rw [decide_eq_false h4] at g4
  have hp : parseOf s.data.toList = if hasPrefix s.data.toList [120] = true then (if unhexOk (trimPrefix s.data.toList [120]) then (can (hv (trimPrefix s.data.toList [120])), 0) else (0, 6))
      else if (numP s.data.toList).2 ≠ 0 ∨ (numP s.data.toList).1 ≤ -1000000000000000 ∨ 1000000000000000 ≤ (numP s.data.toList).1 then (0, 6) else (fl (numP s.data.toList).1, 0) := by
    unfold parseOf
    rw [if_neg h1, if_neg h2, if_neg h3, if_neg h4]
  clear h1 h2 h3 h4
  have C1 := hid (Try.strings_CutPrefix s ⟨#[120]⟩ w)
  rw [show (⟨#[120]⟩ : ByteArray).data.toList = [120] from rfl] at C1
  by_cases h5 : hasPrefix s.data.toList [120] = true
  · rw [if_pos h5] at hp
    rw [h5] at C1
    obtain ⟨X, hX⟩ : ∃ X : ByteArray, X = ⟨(trimPrefix s.data.toList [120]).toArray⟩ := ⟨_, rfl⟩
    have hXl : X.data.toList = trimPrefix s.data.toList [120] := by rw [hX]
    rw [← hX] at C1
    have C2 := hid (unhex_any X w)
    rw [hXl] at C2
    by_cases h6 : unhexOk (trimPrefix s.data.toList [120])
    · have hc := hid (hp.trans (if_pos h6))
      have C3 := hid (fun w => of_any (hv (trimPrefix s.data.toList [120])) w (hv_word h6))
      unfold unhexRes at C2
      rw [if_pos h6] at C2
      clear hp hX hXl hsz h5 h6
      generalize hv (trimPrefix s.data.toList [120]) = V at *
      go_enter Try.func64, Try.ntmps64
      go_wp2_with (first | (go_at_call 82; refine C1.out.mono ?_; rintro e w' ⟨rfl, rfl⟩) | (go_at_call 83; refine C2.out.mono ?_; rintro e w' ⟨rfl, ht⟩) | (go_at_call 79; refine (C3.out _).mono ?_; rintro e w' ⟨rfl, rfl⟩))
      go_ret2
      exact ⟨by rw [hc.out]; rfl, ht⟩
    · have hc := hid (hp.trans (if_neg h6))
      have C3 := hid (fun w => of_any 0 w (by decide))
      rw [show can 0 = 0 by decide] at C3
      unfold unhexRes at C2
      rw [if_neg h6] at C2
      clear hp hX hXl hsz h5 h6
      go_enter Try.func64, Try.ntmps64
      go_wp2_with (first | (go_at_call 82; refine C1.out.mono ?_; rintro e w' ⟨rfl, rfl⟩) | (go_at_call 83; refine C2.out.mono ?_; rintro e w' ⟨rfl, ht⟩) | (go_at_call 79; refine (C3.out _).mono ?_; rintro e w' ⟨rfl, rfl⟩))
      go_ret2
      exact ⟨by rw [hc.out]; rfl, ht⟩
  · rw [if_neg h5] at hp
    rw [show hasPrefix s.data.toList [120] = false by simpa using h5] at C1
    have C2 := hid (number_any s w hsz)
    rw [numSpec_eq] at C2
    clear h5
    obtain ⟨v, e, hve⟩ : ∃ v e, numP s.data.toList = (v, e) := ⟨_, _, rfl⟩
    rw [hve] at hp C2
    simp only [] at hp C2
    clear hve hsz
    by_cases t1 : e = 0
    · subst t1
      by_cases t2 : v ≤ -1000000000000000
      · have hc := hid (hp.trans (if_pos (.inr (.inl t2))))
        clear hp
        go_enter Try.func64, Try.ntmps64
        go_wp2_with (first | (go_at_call 82; refine C1.out.mono ?_; rintro e w' ⟨rfl, rfl⟩) | (go_at_call 84; refine C2.out.mono ?_; rintro e w' ⟨rfl, ht⟩))
        go_ret2
        exact ⟨by rw [hc.out]; rfl, ht⟩
      · by_cases t3 : 1000000000000000 ≤ v
        · have hc := hid (hp.trans (if_pos (.inr (.inr t3))))
          clear hp
          have t2' : decide (v ≤ -1000000000000000) = false := by simpa using t2
          have t3' : decide (1000000000000000 ≤ v) = true := by simpa using t3
          clear t2 t3
          go_enter Try.func64, Try.ntmps64
          go_wp2_with (first | (go_at_call 82; refine C1.out.mono ?_; rintro e w' ⟨rfl, rfl⟩) | (go_at_call 84; refine C2.out.mono ?_; rintro e w' ⟨rfl, ht⟩))
          go_ret2
          exact ⟨by rw [hc.out]; rfl, ht⟩
        · have hc := hid (hp.trans (if_neg (by omega)))
          clear hp
          have t2' : decide (v ≤ -1000000000000000) = false := by simpa using t2
          have t3' : decide (1000000000000000 ≤ v) = false := by simpa using t3
          clear t2 t3
          go_enter Try.func64, Try.ntmps64
          go_wp2_with (first | (go_at_call 82; refine C1.out.mono ?_; rintro e w' ⟨rfl, rfl⟩) | (go_at_call 84; refine C2.out.mono ?_; rintro e w' ⟨rfl, ht⟩))
          go_ret2
          exact ⟨by rw [hc.out]; rfl, ht⟩
    · have hc := hid (hp.trans (if_pos (.inl t1)))
      have t1' : (e != 0) = true := by simpa using t1
      clear hp t1
      go_enter Try.func64, Try.ntmps64
      go_wp2_with (first | (go_at_call 82; refine C1.out.mono ?_; rintro e w' ⟨rfl, rfl⟩) | (go_at_call 84; refine C2.out.mono ?_; rintro e w' ⟨rfl, ht⟩))
      go_ret2
      exact ⟨by rw [hc.out]; rfl, ht⟩
end Go.Proofs.Ytiglfdefeaddmaa
