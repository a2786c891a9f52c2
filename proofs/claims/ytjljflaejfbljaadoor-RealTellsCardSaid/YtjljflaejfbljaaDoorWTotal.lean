/- RealTotal, RealSigns, RealBits, walked. -/
import Derived.Test.YtjljflaejfbljaaDoorAliver
namespace Go.Proofs.YtjljflaejfbljaaDoor
open Go.RowKit Go.Lib

theorem u64_nat {x : Int} (h : (Lit.int .u64 x).wf = true) : ∃ n : Nat, x = n ∧ Wd n := by
  have h2 : 0 ≤ x ∧ x ≤ 18446744073709551615 := by
    have e1 : IntKind.u64.min = 0 := rfl
    have e2 : IntKind.u64.max = 18446744073709551615 := rfl
    simp only [Lit.wf, e1, e2, Bool.and_eq_true, decide_eq_true_eq] at h
    exact h
  exact ⟨x.toNat, by omega, by unfold Wd; omega⟩

set_option maxHeartbeats 2000000 in
theorem total_nat (x y z : Nat) (hx : Wd x) (hy : Wd y) (hz : Wd z) (w : World) (htab : Tab w) :
    Calls Tryd.prog 4 #[.int .u64 x, .int .u64 y, .int .u64 z] w fun e w' => e = .returned (.bool true) ∧ Touch [] w w' := by
  have Ca := hid (alive_any w htab)
  clear htab
  have b1 := frombits_run x
  have b2 := frombits_run y
  have b3 := frombits_run z
  have q1 : decide (rank x < rank x) = false := by simp
  have q2 : decide (can x = can x) = true := by simp
  have hi := rank_inj hx.lt hy.lt
  have main : ∀ (t1 t2 t3 t4 t5 : Bool), decide (rank x < rank y) = t1 → decide (rank y < rank x) = t2 → decide (can x = can y) = t3 → decide (rank y < rank z) = t4 → decide (rank x < rank z) = t5 →
      ((t1 = true ∧ t2 = false ∧ t3 = false) ∨ (t1 = false ∧ t2 = true ∧ t3 = false) ∨ (t1 = false ∧ t2 = false ∧ t3 = true)) → (t1 = true → t4 = true → t5 = true) →
      Calls Tryd.prog 4 #[.int .u64 x, .int .u64 y, .int .u64 z] w fun e w' => e = .returned (.bool true) ∧ Touch [] w w' := by
    clear hi
    intro t1 t2 t3 t4 t5 e1 e2 e3 e4 e5 h1 h2
    rcases h1 with ⟨rfl, rfl, rfl⟩ | ⟨rfl, rfl, rfl⟩ | ⟨rfl, rfl, rfl⟩
    · cases t4
      · clear h2
        go_enter Tryd.func4, Tryd.ntmps4
        go_wp2_with (first | (go_at_call 26; refine (less_any _ _ _ (by assumption) (by assumption)).mono ?_; rintro e w' ⟨rfl, rfl⟩) | (go_at_call 27; refine (same_any _ _ _ (by assumption) (by assumption)).mono ?_; rintro e w' ⟨rfl, rfl⟩) | (go_at_call 12; refine Ca.out.mono ?_; rintro e w1 ⟨rfl, a1⟩))
        go_ret
        exact ⟨rfl, a1⟩
      · have h3 := h2 rfl rfl
        subst h3
        clear h2
        go_enter Tryd.func4, Tryd.ntmps4
        go_wp2_with (first | (go_at_call 26; refine (less_any _ _ _ (by assumption) (by assumption)).mono ?_; rintro e w' ⟨rfl, rfl⟩) | (go_at_call 27; refine (same_any _ _ _ (by assumption) (by assumption)).mono ?_; rintro e w' ⟨rfl, rfl⟩) | (go_at_call 12; refine Ca.out.mono ?_; rintro e w1 ⟨rfl, a1⟩))
        go_ret
        exact ⟨rfl, a1⟩
    all_goals
      clear h2
      go_enter Tryd.func4, Tryd.ntmps4
      go_wp2_with (first | (go_at_call 26; refine (less_any _ _ _ (by assumption) (by assumption)).mono ?_; rintro e w' ⟨rfl, rfl⟩) | (go_at_call 27; refine (same_any _ _ _ (by assumption) (by assumption)).mono ?_; rintro e w' ⟨rfl, rfl⟩) | (go_at_call 12; refine Ca.out.mono ?_; rintro e w1 ⟨rfl, a1⟩))
      go_ret
      exact ⟨rfl, a1⟩
  refine main _ _ _ _ _ rfl rfl rfl rfl rfl ?_ ?_
  · rcases Nat.lt_trichotomy (rank x) (rank y) with h | h | h
    · left
      refine ⟨by simpa using h, by simp; omega, ?_⟩
      rw [decide_eq_false_iff_not, ← hi]; omega
    · right; right
      refine ⟨by simp; omega, by simp; omega, ?_⟩
      rw [decide_eq_true_eq, ← hi]; exact h
    · right; left
      refine ⟨by simp; omega, by simpa using h, ?_⟩
      rw [decide_eq_false_iff_not, ← hi]; omega
  · simp only [decide_eq_true_eq]
    omega
theorem walk_RealTotal (a : Int) (wa : (Lit.int .u64 a).wf = true) (b : Int) (wb : (Lit.int .u64 b).wf = true) (c : Int) (wc : (Lit.int .u64 c).wf = true) (w : World) (htab : Tab w) :
    Calls Tryd.prog 4 #[.int .u64 a, .int .u64 b, .int .u64 c] w fun e w' => e = .returned (.bool true) ∧ Touch [] w w' := by
  obtain ⟨x, rfl, hx⟩ := u64_nat wa
  obtain ⟨y, rfl, hy⟩ := u64_nat wb
  obtain ⟨z, rfl, hz⟩ := u64_nat wc
  exact total_nat x y z hx hy hz w htab
end Go.Proofs.YtjljflaejfbljaaDoor
