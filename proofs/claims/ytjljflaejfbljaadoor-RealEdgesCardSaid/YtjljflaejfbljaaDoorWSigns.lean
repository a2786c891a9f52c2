/- RealSigns, RealBits, walked. -/
import Derived.Test.YtjljflaejfbljaaDoorWTotal
namespace Go.Proofs.YtjljflaejfbljaaDoor
open Go.RowKit Go.Lib

set_option maxHeartbeats 2000000 in
theorem signs_nat (x y : Nat) (hx : Wd x) (hy : Wd y) (w : World) (htab : Tab w) :
    Calls Tryd.prog 11 #[.int .u64 x, .int .u64 y] w fun e w' => e = .returned (.bool true) ∧ Touch [] w w' := by
  have Ca := hid (alive_any w htab)
  clear htab
  have b1 := frombits_run x
  have b2 := frombits_run y
  by_cases h1 : isNan x = true
  · go_enter Tryd.func11, Tryd.ntmps11
    go_wp2_with (first | (go_at_call 35; refine (isNaN_any _ _ (by assumption)).mono ?_; rintro e w' ⟨rfl, rfl⟩) | (go_at_call 12; refine Ca.out.mono ?_; rintro e w1 ⟨rfl, a1⟩))
    go_ret
    exact ⟨rfl, a1⟩
  have n1 := isNan_false x h1
  clear h1
  by_cases h2 : isNan y = true
  · go_enter Tryd.func11, Tryd.ntmps11
    go_wp2_with (first | (go_at_call 35; refine (isNaN_any _ _ (by assumption)).mono ?_; rintro e w' ⟨rfl, rfl⟩) | (go_at_call 12; refine Ca.out.mono ?_; rintro e w1 ⟨rfl, a1⟩))
    go_ret
    exact ⟨rfl, a1⟩
  have n2 := isNan_false y h2
  clear h2
  have f1 := hx.flip
  have f2 := hy.flip
  have r1 := neg_run x hx
  have r2 := neg_run y hy
  have r3 := neg_run (flip x) f1
  rw [flip_flip hx.lt] at r3
  have e1 := rank_flip hx.lt n1
  have e2 := rank_flip hy.lt n2
  have q1 := rank_lt hx.lt
  have q2 := rank_lt hy.lt
  have q : decide (rank (flip y) < rank (flip x)) = decide (rank x < rank y) := by rw [decide_eq_decide]; omega
  have s : decide (can x = can x) = true := by simp
  clear e1 e2 q1 q2
  cases ht : decide (rank x < rank y)
  all_goals
    rw [ht] at q
    go_enter Tryd.func11, Tryd.ntmps11
    go_wp2_with (first | (go_at_call 35; refine (isNaN_any _ _ (by assumption)).mono ?_; rintro e w' ⟨rfl, rfl⟩) | (go_at_call 12; refine Ca.out.mono ?_; rintro e w1 ⟨rfl, a1⟩) | (go_at_call 26; refine (less_any _ _ _ (by assumption) (by assumption)).mono ?_; rintro e w' ⟨rfl, rfl⟩) | (go_at_call 27; refine (same_any _ _ _ (by assumption) (by assumption)).mono ?_; rintro e w' ⟨rfl, rfl⟩))
    go_ret
    exact ⟨rfl, a1⟩
theorem walk_RealSigns (a : Int) (wa : (Lit.int .u64 a).wf = true) (b : Int) (wb : (Lit.int .u64 b).wf = true) (w : World) (htab : Tab w) :
    Calls Tryd.prog 11 #[.int .u64 a, .int .u64 b] w fun e w' => e = .returned (.bool true) ∧ Touch [] w w' := by
  obtain ⟨x, rfl, hx⟩ := u64_nat wa
  obtain ⟨y, rfl, hy⟩ := u64_nat wb
  exact signs_nat x y hx hy w htab

/-! ### RealBits -/
theorem cls_zero (b : Nat) (hb : Wd b) : (cls b == 0) = isNan b := by
  by_cases h : isNan b = true
  · rw [h]; unfold cls; rw [if_pos h]; rfl
  · have h2 := isNan_false b h
    rw [h2]
    unfold cls
    rw [if_neg h]
    have hf := sr_facts b hb.lt
    split
    · rfl
    · split
      · rfl
      · split
        · rfl
        · split
          · rfl
          · split <;> rfl
set_option maxHeartbeats 2000000 in
theorem bits_nat (x : Nat) (hx : Wd x) (w : World) (htab : Tab w) :
    Calls Tryd.prog 10 #[.int .u64 x] w fun e w' => e = .returned (.bool true) ∧ Touch [] w w' := by
  have Ca := hid (alive_any w htab)
  clear htab
  have hc := hx.can
  have hz : (cls (can x) == 0) = isNan x := (cls_zero _ hc).trans (can_isNan x)
  by_cases h1 : isNan x = true
  · rw [h1] at hz
    have e1 := can_nan h1
    have e2 : ((can (can x) : Int) == 9221120237041090560) = true := by rw [can_can, e1]; decide
    have e3 : bits .and .u64 (x : Int) 9223372036854775807 = ((rung x : Nat) : Int) := by
      have := bits_and x 9223372036854775807 hx.lt (by decide)
      rw [and_low] at this
      exact this
    have e4 : decide (9218868437227405312 < (rung x : Int)) = true := by
      rw [isNan_iff] at h1
      simp; omega
    clear h1 e1
    go_enter Tryd.func10, Tryd.ntmps10
    go_wp2_with (first | (go_at_call 21; refine (of_any _ _ (by assumption)).mono ?_; rintro e w' ⟨rfl, rfl⟩) | (go_at_call 16; refine (bits_any _ _ (by assumption)).mono ?_; rintro e w' ⟨rfl, rfl⟩) | (go_at_call 22; refine (class_any _ _ (by assumption)).mono ?_; rintro e w' ⟨rfl, rfl⟩) | (go_at_call 12; refine Ca.out.mono ?_; rintro e w1 ⟨rfl, a1⟩))
    go_ret
    exact ⟨rfl, a1⟩
  · have h2 := isNan_false x h1
    rw [h2] at hz
    have e1 := can_num h2
    have e2 : ((can x : Int) == (x : Int)) = true := by rw [e1]; simp
    have s : decide (can x = can x) = true := by simp
    rw [e1] at hz
    clear h1 h2
    have C1 := hid (of_any x w hx)
    have C2 := hid (bits_any x w hx)
    rw [e1] at C1 C2
    have C3 := hid (fun w => of_any x w hx)
    have C4 := hid (fun w => canon_any x w hx)
    rw [e1] at C3 C4
    clear e1 hc
    have e2 : ((x : Int) == (x : Int)) = true := by simp
    go_enter Tryd.func10, Tryd.ntmps10
    go_wp2_with (first | (go_at_call 21; refine (C3.out _).mono ?_; rintro e w' ⟨rfl, rfl⟩) | (go_at_call 19; refine (C4.out _).mono ?_; rintro e w' ⟨rfl, rfl⟩) | (go_at_call 16; refine C2.out.mono ?_; rintro e w' ⟨rfl, rfl⟩) | (go_at_call 22; refine (class_any _ _ (by assumption)).mono ?_; rintro e w' ⟨rfl, rfl⟩) | (go_at_call 27; refine (same_any _ _ _ (by assumption) (by assumption)).mono ?_; rintro e w' ⟨rfl, rfl⟩) | (go_at_call 12; refine Ca.out.mono ?_; rintro e w1 ⟨rfl, a1⟩))
    go_ret
    exact ⟨rfl, a1⟩
theorem walk_RealBits (a : Int) (wa : (Lit.int .u64 a).wf = true) (w : World) (htab : Tab w) :
    Calls Tryd.prog 10 #[.int .u64 a] w fun e w' => e = .returned (.bool true) ∧ Touch [] w w' := by
  obtain ⟨x, rfl, hx⟩ := u64_nat wa
  exact bits_nat x hx w htab
end Go.Proofs.YtjljflaejfbljaaDoor
