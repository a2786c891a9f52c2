/- The walk of CheckTwice. -/
import Derived.Test.YtfmaeaaaiagcbaaChkd
import Derived.OpenShut
namespace Go.Proofs.Ytfmaeaaaiagcbaa
open Go.RowKit Go.Lib Go.ChangeShapes

def seals : Nat → ByteArray → ByteArray
  | 0, s => s
  | n + 1, s => sealed (seals n s)
theorem seals_size (n : Nat) (s : ByteArray) : (seals n s).size = s.size + 4 * n := by
  induction n with
  | zero => rfl
  | succ n ih => show (sealed _).size = _; rw [sealed_size, ih]; omega

theorem twice_early (s : ByteArray) (n : Int) (w : World) (h : (2000 : Int) < s.size ∨ ((s.size : Int) ≤ 2000 ∧ n < 0) ∨ ((s.size : Int) ≤ 2000 ∧ 0 ≤ n ∧ 10 < n)) :
    Calls Try.prog 6 #[.string s, .int .i64 n] w fun e w' => e = .returned (.bool true) ∧ Touch [] w w' := by
  have C0 := hid (alive_true w)
  rcases h with h1 | ⟨h1, h2⟩ | ⟨h1, h2, h3⟩
  all_goals
    go_enter Try.func6, Try.ntmps6
    go_wp2_with (go_at_call 8; refine C0.out.mono ?_; rintro e w1 ⟨rfl, a1⟩)
    go_ret
    exact ⟨rfl, a1⟩

set_option maxHeartbeats 2000000 in
theorem twice_full (s : ByteArray) (n : Nat) (w : World) (h1 : (s.size : Int) ≤ 2000) (h2 : (n : Int) ≤ 10) :
    Calls Try.prog 6 #[.string s, .int .i64 n] w fun e w' => e = .returned (.bool true) ∧ Touch [] w w' := by
  have h0 : (0 : Int) ≤ n := by omega
  go_enter Try.func6, Try.ntmps6
  go_wp2
  go_loopw [5, 6] (fun tv iv wr => ∃ k : Nat, k ≤ n ∧ iv = .int .i64 k ∧ tv = .string (seals k s) ∧ Touch [] w wr) (fun _ iv _ => n - (RowKit.intOf iv).toNat)
  case atStart => exact ⟨0, Nat.zero_le _, rfl, rfl, Touch.refl _ _⟩
  case round =>
    obtain ⟨k, hk, rfl, rfl, ht⟩ := hrel
    have HT := hid ht; clear ht
    by_cases hlt : k < n
    · have hltI : (k : Int) < n := by omega
      have C := hid (seal_any (seals k s) wr (by rw [seals_size]; omega))
      have hs : Hid (sealed (seals k s) = seals (k + 1) s) := rfl
      generalize seals k s = t at *
      go_wp2_with (go_at_call 14; refine C.out.mono ?_; rintro e w1 ⟨rfl, a1⟩)
      go_roundw
      case rel => exact ⟨k + 1, by omega, by go_num, by rw [← hs.out], HT.out.trans a1 (by simp)⟩
      case measure => simp [RowKit.intOf]; omega
    · obtain rfl : k = n := by omega
      clear hk
      obtain ⟨wo, rfl⟩ : ∃ wo : World, wo = wr := ⟨_, rfl⟩
      have hz := seals_size k s
      have q : (((seals k s).size : Int) != (s.size : Int) + 4 * (k : Int)) = false := by rw [bne_eq_false_iff_eq]; omega
      obtain ⟨t0, ht0⟩ : ∃ t0, t0 = seals k s := ⟨_, rfl⟩
      rw [← ht0] at q ⊢
      have HT0 := hid ht0
      clear hz ht0
      go_wp2
      go_loopw [5, 7] (fun tv jv wr => ∃ j : Nat, j ≤ k ∧ jv = .int .i64 j ∧ tv = .string (seals (k - j) s) ∧ Touch [] w wr) (fun _ jv _ => k - (RowKit.intOf jv).toNat)
      case atStart => exact ⟨0, Nat.zero_le _, rfl, by rw [HT0.out]; rfl, HT.out⟩
      case round =>
        obtain ⟨j, hj, rfl, rfl, ht⟩ := hrel
        have HT2 := hid ht; clear ht
        by_cases hlt : j < k
        · have hltI : (j : Int) < k := by omega
          have hs : seals (k - j) s = sealed (seals (k - (j + 1)) s) := by rw [show k - j = (k - (j + 1)) + 1 by omega]; rfl
          have hz := seals_size (k - (j + 1)) s
          rw [hs]
          generalize hte : seals (k - (j + 1)) s = t at *
          have HTE := hid hte
          clear hte
          have C := hid (open_long (sealed t) wr (by rw [sealed_size]; omega) (by rw [sealed_size]; omega))
          rw [open_sealed] at C
          clear hs hz
          go_wp2_with (go_at_call 10; refine C.out.mono ?_; rintro e w1 ⟨rfl, a1⟩)
          go_roundw
          case rel => exact ⟨j + 1, by omega, by go_num, by rw [HTE.out], HT2.out.trans a1 (by simp)⟩
          case measure => simp [RowKit.intOf]; omega
        · obtain rfl : j = k := by omega
          have e0 : seals (j - j) s = s := by rw [Nat.sub_self]; rfl
          rw [e0]
          have C0 := hid (alive_true wr)
          clear e0 q
          go_wp2_with (go_at_call 8; refine C0.out.mono ?_; rintro e w1 ⟨rfl, a1⟩)
          go_ret
          exact ⟨rfl, HT2.out.trans a1 (by simp)⟩

theorem walk_CheckTwice (s : ByteArray) (_ws : s.size ≤ maxLen) (n : Int) (_wn : (Lit.int .i64 n).wf = true) (w : World) :
    Calls Try.prog 6 #[.string s, .int .i64 n] w fun e w' => e = .returned (.bool true) ∧ Touch [] w w' := by
  by_cases h : (s.size : Int) ≤ 2000 ∧ 0 ≤ n ∧ n ≤ 10
  · obtain ⟨h1, h2, h3⟩ := h
    obtain ⟨m, rfl⟩ := Int.eq_ofNat_of_zero_le h2
    exact twice_full s m w h1 h3
  · exact twice_early s n w (by omega)
end Go.Proofs.Ytfmaeaaaiagcbaa
