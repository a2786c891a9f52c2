/- sort.Search of a function that leaves what was there. -/
import Derived.Test.YtdjcpdlfapfmkaaGreatHeld
import Derived.Shelf.Abstract
import Derived.WalkKit
import Derived.Deep.LoopGhost
import Derived.Test.YtdjcpdlfapfmkaaGreatProg
namespace Go.Proofs.YtdjcpdlfapfmkaaGreat
open Go.RowKit Go.Lib
set_option maxRecDepth 100000

theorem count_boundary (p : Nat → Bool) (n c : Nat) (hc : c ≤ n) (h1 : ∀ t, t < c → p t = false) (h2 : ∀ t, c ≤ t → t < n → p t = true) : (List.range n).countP (fun i => !p i) = c := by
  induction n generalizing c with
  | zero => have : c = 0 := by omega
            subst this; rfl
  | succ n ih =>
    rw [List.range_succ, List.countP_append]
    by_cases h : c ≤ n
    · rw [ih c h h1 fun t a b => h2 t a (by omega)]
      simp [h2 n h (by omega)]
    · obtain rfl : c = n + 1 := by omega
      rw [ih n (Nat.le_refl _) (fun t a => h1 t (by omega)) fun t a b => by omega]
      simp [h1 n (by omega)]

set_option maxHeartbeats 4000000 in
/-- sort.Search(n, f): how many places ahead of n f is still false at, f being false up to one and true from it on. -/
theorem search_any (g : Nat) (cb : Array Value) (n c : Nat) (hc : c ≤ n) (w : World) (eg : ∀ args w, (callFunc g args).run Tryz.prog w = .ok (.enter g args) w) (hsz : n < 4611686018427387904)
    (hf : ∀ (w' : World) (i : Nat), i < n → Touch [] w w' → Calls Tryz.prog g (#[.int .i64 i] ++ cb) w' fun e w'' => e = .returned (.bool (!decide (i < c))) ∧ Touch [] w' w'') :
    Calls Tryz.prog 95 #[.int .i64 n, .func (.func g) #[] cb] w fun e w' => e = .returned (.int .i64 (c : Nat)) ∧ Touch [] w w' := by
  have HF := hid hf
  clear hf
  go_enter Tryz.func95, Tryz.ntmps95
  go_wp2
  go_loopg [5, 6] n (fun kx s5 s6 wr => ∃ (lo hi : Nat), s5 = .int .i64 lo ∧ s6 = .int .i64 hi ∧ lo ≤ c ∧ c ≤ hi ∧ hi ≤ n ∧ hi - lo ≤ kx ∧ Touch [] w wr)
  case atStart => exact ⟨0, n, rfl, rfl, Nat.zero_le _, hc, Nat.le_refl _, by omega, Touch.refl _ _⟩
  case round =>
    obtain ⟨lo, hi, rfl, rfl, hlc, hch, hin, hg, ht⟩ := hrel
    have HT := hid ht
    clear ht
    by_cases hlt : lo < hi
    · have hcc := HF.out wr ((lo + hi) / 2) (by omega) HT.out
      rw [show (((lo + hi) / 2 : Nat) : Int) = ((lo : Int) + (hi : Int)) / 2 by omega] at hcc
      by_cases hp : (lo + hi) / 2 < c
      · have HC := hid hcc
        have HP := hid hp
        rw [show (!decide ((lo + hi) / 2 < c)) = false by simp [hp]] at HC
        clear hcc hp
        go_wp2_with (go_at_fn g; refine HC.out.mono ?_; rintro e w' ⟨rfl, t1⟩; have T1 := hid (HT.out.trans t1 (by simp)); clear t1)
        go_roundg (hi - ((lo + hi) / 2 + 1))
        case measure => omega
        case rel => exact ⟨(lo + hi) / 2 + 1, hi, by rw [show ((lo : Int) + (hi : Int)) / 2 + 1 = (((lo + hi) / 2 + 1 : Nat) : Int) by omega], rfl, by have := HP.out; omega, hch, hin, Nat.le_refl _, T1.out⟩
      · have HC := hid hcc
        have HP := hid hp
        rw [show (!decide ((lo + hi) / 2 < c)) = true by simp [hp]] at HC
        clear hcc hp
        go_wp2_with (go_at_fn g; refine HC.out.mono ?_; rintro e w' ⟨rfl, t1⟩; have T1 := hid (HT.out.trans t1 (by simp)); clear t1)
        go_roundg ((lo + hi) / 2 - lo)
        case measure => omega
        case rel => exact ⟨lo, (lo + hi) / 2, rfl, by rw [show ((lo : Int) + (hi : Int)) / 2 = (((lo + hi) / 2 : Nat) : Int) by omega], hlc, by have := HP.out; omega, by omega, Nat.le_refl _, T1.out⟩
    · obtain rfl : lo = c := by omega
      obtain rfl : hi = lo := by omega
      go_wp2
      go_ret
      exact ⟨rfl, HT.out⟩
end Go.Proofs.YtdjcpdlfapfmkaaGreat
