/- codec.Out: its exported methods. -/
import Derived.Test.YtmaainnfflapiaaOutc
namespace Go.Proofs.Ytmaainnfflapiaa
set_option maxRecDepth 100000
open Go.RowKit Go.Lib

/-- What 'U8', 'U32' of n bytes do to the state. -/
def pSmall (n : Nat) (st : List UInt8 × Int) (v : Int) : List UInt8 × Int := if v < 0 ∨ (2 : Int) ^ (8 * n) ≤ v then pFail st 1 else pPut st (be n v.toNat)

theorem u32_st (o : Nat) (F : List Nat) (st : List UInt8 × Int) (v : Int) (w : World) (h : OutIs w o F st) (hb : st.1.length + 4 ≤ 140737488355328) :
    Calls Try.prog 83 #[.pointer (some ⟨o, 0, none⟩), .int .i64 v] w fun e w' => e = .returned (.pointer (some ⟨o, 0, none⟩)) ∧ StPost o F (pSmall 4 st v) w w' := by
  by_cases hv : v < 0 ∨ 4294967296 ≤ v
  · have C := hid (fail_st o F st 1 w h (by decide))
    have hs : pSmall 4 st v = pFail st 1 := by unfold pSmall; rw [if_pos (by simpa using hv)]
    rw [hs]
    clear h hs
    by_cases h0 : v < 0
    · clear hv
      go_enter Try.func83, Try.ntmps83
      go_wp2_with (go_at_call 93; refine C.out.mono ?_; rintro e w' ⟨rfl, hp⟩)
      go_ret
      exact ⟨rfl, hp⟩
    · have h1 : 4294967295 < v := by omega
      have h2 : 0 ≤ v := by omega
      clear hv h0
      go_enter Try.func83, Try.ntmps83
      go_wp2_with (go_at_call 93; refine C.out.mono ?_; rintro e w' ⟨rfl, hp⟩)
      go_ret
      exact ⟨rfl, hp⟩
  · obtain ⟨n, rfl⟩ := Int.eq_ofNat_of_zero_le (show 0 ≤ v by omega)
    have C := hid (number_st o F st 4 n w h (by omega) (by decide) (by decide))
    have hs : pSmall 4 st (n : Int) = pPut st (be 4 n) := by unfold pSmall; rw [if_neg (by simpa using hv)]; rfl
    rw [hs]
    have h1 : (n : Int) ≤ 4294967295 := by omega
    have h2 : (0 : Int) ≤ n := by omega
    clear h hs hv
    go_enter Try.func83, Try.ntmps83
    go_wp2_with (go_at_call 81; refine C.out.mono ?_; rintro e w' ⟨rfl, hp⟩)
    go_ret
    exact ⟨rfl, hp⟩
theorem u32_nil (v : Int) (w : World) :
    Calls Try.prog 83 #[.pointer none, .int .i64 v] w fun e w' => e = .returned (.pointer none) ∧ Touch [] w w' := by
  by_cases h0 : v < 0
  · go_enter Try.func83, Try.ntmps83
    go_wp2_with (go_at_call 93; refine (fail_nil _ _).mono ?_; rintro e w' ⟨rfl, rfl⟩)
    go_ret
    exact ⟨rfl, Touch.refl _ _⟩
  · obtain ⟨n, rfl⟩ := Int.eq_ofNat_of_zero_le (show 0 ≤ v by omega)
    by_cases h1 : (n : Int) ≤ 4294967295
    · have C := hid (number_nil 4 n w (by decide) (by decide))
      have h2 : (0 : Int) ≤ n := by omega
      clear h0
      go_enter Try.func83, Try.ntmps83
      go_wp2_with (go_at_call 81; refine C.out.mono ?_; rintro e w' ⟨rfl, hp⟩)
      go_ret
      exact ⟨rfl, hp⟩
    · have h1' : 4294967295 < (n : Int) := by omega
      have h2 : (0 : Int) ≤ n := by omega
      clear h0 h1
      go_enter Try.func83, Try.ntmps83
      go_wp2_with (go_at_call 93; refine (fail_nil _ _).mono ?_; rintro e w' ⟨rfl, rfl⟩)
      go_ret
      exact ⟨rfl, Touch.refl _ _⟩

/-- Text: ErrLong above 65,536. -/
def pText (st : List UInt8 × Int) (s : List UInt8) : List UInt8 × Int := if 65536 < s.length then pFail st 2 else pPut (pPut st (be 4 s.length)) s

end Go.Proofs.Ytmaainnfflapiaa
