/- codec.Out: its exported methods. -/
import Derived.Test.YtcihnfgfficmlaaOutc
namespace Go.Proofs.Ytcihnfgfficmlaa
set_option maxRecDepth 100000
open Go.RowKit Go.Lib

/-- What 'U8', 'U32' of n bytes do to the state. -/
def pSmall (n : Nat) (st : List UInt8 × Int) (v : Int) : List UInt8 × Int := if v < 0 ∨ (2 : Int) ^ (8 * n) ≤ v then pFail st 1 else pPut st (be n v.toNat)

theorem u8_st (o : Nat) (F : List Nat) (st : List UInt8 × Int) (v : Int) (w : World) (h : OutIs w o F st) (hb : st.1.length + 1 ≤ 140737488355328) :
    Calls Try.prog 38 #[.pointer (some ⟨o, 0, none⟩), .int .i64 v] w fun e w' => e = .returned (.pointer (some ⟨o, 0, none⟩)) ∧ StPost o F (pSmall 1 st v) w w' := by
  by_cases hv : v < 0 ∨ 256 ≤ v
  · have C := hid (fail_st o F st 1 w h (by decide))
    have hs : pSmall 1 st v = pFail st 1 := by unfold pSmall; rw [if_pos (by simpa using hv)]
    rw [hs]
    clear h hs
    by_cases h0 : v < 0
    · clear hv
      go_enter Try.func38, Try.ntmps38
      go_wp2_with (go_at_call 66; refine C.out.mono ?_; rintro e w' ⟨rfl, hp⟩)
      go_ret
      exact ⟨rfl, hp⟩
    · have h1 : 255 < v := by omega
      have h2 : 0 ≤ v := by omega
      clear hv h0
      go_enter Try.func38, Try.ntmps38
      go_wp2_with (go_at_call 66; refine C.out.mono ?_; rintro e w' ⟨rfl, hp⟩)
      go_ret
      exact ⟨rfl, hp⟩
  · obtain ⟨n, rfl⟩ := Int.eq_ofNat_of_zero_le (show 0 ≤ v by omega)
    have C := hid (number_st o F st 1 n w h (by omega) (by decide) (by decide))
    have hs : pSmall 1 st (n : Int) = pPut st (be 1 n) := by unfold pSmall; rw [if_neg (by simpa using hv)]; rfl
    rw [hs]
    have h1 : (n : Int) ≤ 255 := by omega
    have h2 : (0 : Int) ≤ n := by omega
    clear h hs hv
    go_enter Try.func38, Try.ntmps38
    go_wp2_with (go_at_call 67; refine C.out.mono ?_; rintro e w' ⟨rfl, hp⟩)
    go_ret
    exact ⟨rfl, hp⟩
theorem u8_nil (v : Int) (w : World) :
    Calls Try.prog 38 #[.pointer none, .int .i64 v] w fun e w' => e = .returned (.pointer none) ∧ Touch [] w w' := by
  by_cases h0 : v < 0
  · go_enter Try.func38, Try.ntmps38
    go_wp2_with (go_at_call 66; refine (fail_nil _ _).mono ?_; rintro e w' ⟨rfl, rfl⟩)
    go_ret
    exact ⟨rfl, Touch.refl _ _⟩
  · obtain ⟨n, rfl⟩ := Int.eq_ofNat_of_zero_le (show 0 ≤ v by omega)
    by_cases h1 : (n : Int) ≤ 255
    · have C := hid (number_nil 1 n w (by decide) (by decide))
      have h2 : (0 : Int) ≤ n := by omega
      clear h0
      go_enter Try.func38, Try.ntmps38
      go_wp2_with (go_at_call 67; refine C.out.mono ?_; rintro e w' ⟨rfl, hp⟩)
      go_ret
      exact ⟨rfl, hp⟩
    · have h1' : 255 < (n : Int) := by omega
      have h2 : (0 : Int) ≤ n := by omega
      clear h0 h1
      go_enter Try.func38, Try.ntmps38
      go_wp2_with (go_at_call 66; refine (fail_nil _ _).mono ?_; rintro e w' ⟨rfl, rfl⟩)
      go_ret
      exact ⟨rfl, Touch.refl _ _⟩

theorem u32_st (o : Nat) (F : List Nat) (st : List UInt8 × Int) (v : Int) (w : World) (h : OutIs w o F st) (hb : st.1.length + 4 ≤ 140737488355328) :
    Calls Try.prog 68 #[.pointer (some ⟨o, 0, none⟩), .int .i64 v] w fun e w' => e = .returned (.pointer (some ⟨o, 0, none⟩)) ∧ StPost o F (pSmall 4 st v) w w' := by
  by_cases hv : v < 0 ∨ 4294967296 ≤ v
  · have C := hid (fail_st o F st 1 w h (by decide))
    have hs : pSmall 4 st v = pFail st 1 := by unfold pSmall; rw [if_pos (by simpa using hv)]
    rw [hs]
    clear h hs
    by_cases h0 : v < 0
    · clear hv
      go_enter Try.func68, Try.ntmps68
      go_wp2_with (go_at_call 66; refine C.out.mono ?_; rintro e w' ⟨rfl, hp⟩)
      go_ret
      exact ⟨rfl, hp⟩
    · have h1 : 4294967295 < v := by omega
      have h2 : 0 ≤ v := by omega
      clear hv h0
      go_enter Try.func68, Try.ntmps68
      go_wp2_with (go_at_call 66; refine C.out.mono ?_; rintro e w' ⟨rfl, hp⟩)
      go_ret
      exact ⟨rfl, hp⟩
  · obtain ⟨n, rfl⟩ := Int.eq_ofNat_of_zero_le (show 0 ≤ v by omega)
    have C := hid (number_st o F st 4 n w h (by omega) (by decide) (by decide))
    have hs : pSmall 4 st (n : Int) = pPut st (be 4 n) := by unfold pSmall; rw [if_neg (by simpa using hv)]; rfl
    rw [hs]
    have h1 : (n : Int) ≤ 4294967295 := by omega
    have h2 : (0 : Int) ≤ n := by omega
    clear h hs hv
    go_enter Try.func68, Try.ntmps68
    go_wp2_with (go_at_call 67; refine C.out.mono ?_; rintro e w' ⟨rfl, hp⟩)
    go_ret
    exact ⟨rfl, hp⟩
theorem u32_nil (v : Int) (w : World) :
    Calls Try.prog 68 #[.pointer none, .int .i64 v] w fun e w' => e = .returned (.pointer none) ∧ Touch [] w w' := by
  by_cases h0 : v < 0
  · go_enter Try.func68, Try.ntmps68
    go_wp2_with (go_at_call 66; refine (fail_nil _ _).mono ?_; rintro e w' ⟨rfl, rfl⟩)
    go_ret
    exact ⟨rfl, Touch.refl _ _⟩
  · obtain ⟨n, rfl⟩ := Int.eq_ofNat_of_zero_le (show 0 ≤ v by omega)
    by_cases h1 : (n : Int) ≤ 4294967295
    · have C := hid (number_nil 4 n w (by decide) (by decide))
      have h2 : (0 : Int) ≤ n := by omega
      clear h0
      go_enter Try.func68, Try.ntmps68
      go_wp2_with (go_at_call 67; refine C.out.mono ?_; rintro e w' ⟨rfl, hp⟩)
      go_ret
      exact ⟨rfl, hp⟩
    · have h1' : 4294967295 < (n : Int) := by omega
      have h2 : (0 : Int) ≤ n := by omega
      clear h0 h1
      go_enter Try.func68, Try.ntmps68
      go_wp2_with (go_at_call 66; refine (fail_nil _ _).mono ?_; rintro e w' ⟨rfl, rfl⟩)
      go_ret
      exact ⟨rfl, Touch.refl _ _⟩

/-- Text: ErrLong above 65,536. -/
def pText (st : List UInt8 × Int) (s : List UInt8) : List UInt8 × Int := if 65536 < s.length then pFail st 2 else pPut (pPut st (be 4 s.length)) s

theorem text_st (o : Nat) (F : List Nat) (st : List UInt8 × Int) (s : ByteArray) (w : World) (h : OutIs w o F st) (hb : st.1.length + 4 + 65536 ≤ 140737488355328) :
    Calls Try.prog 40 #[.pointer (some ⟨o, 0, none⟩), .string s] w fun e w' => e = .returned (.pointer (some ⟨o, 0, none⟩)) ∧ StPost o F (pText st s.data.toList) w w' := by
  by_cases hl : 65536 < s.size
  · have C := hid (fail_st o F st 2 w h (by decide))
    have hs : pText st s.data.toList = pFail st 2 := by unfold pText; rw [if_pos (by rw [list_len]; exact hl)]
    rw [hs]
    have h1 : (65536 : Int) < s.size := by omega
    clear h hs hl
    go_enter Try.func40, Try.ntmps40
    go_wp2_with (go_at_call 66; refine C.out.mono ?_; rintro e w' ⟨rfl, hp⟩)
    go_ret
    exact ⟨rfl, hp⟩
  · have C := hid (u32_st o F st s.size w h (by omega))
    have hsm : pSmall 4 st s.size = pPut st (be 4 s.size) := by unfold pSmall; rw [if_neg (by simp; omega)]; rfl
    have hs : pText st s.data.toList = pPut (pPut st (be 4 s.size)) s.data.toList := by unfold pText; rw [if_neg (by rw [list_len]; exact hl), list_len]
    rw [hs]
    rw [hsm] at C
    have hlen : (pPut st (be 4 s.size)).1.length ≤ st.1.length + 4 := by
      unfold pPut
      split
      · simp [be_length]
      · omega
    have h1 : (s.size : Int) ≤ 65536 := by omega
    have h3 : s.size ≤ 65536 := by omega
    clear h hs hl hsm
    have Hl := hid hlen; clear hlen
    go_enter Try.func40, Try.ntmps40
    go_wp2_with (go_at_call 68; refine C.out.mono ?_; rintro e w1 ⟨rfl, hp⟩)
    obtain ⟨F1, hp1, hp2, hp3⟩ := hp
    have C2 := hid (put_st o F1 _ s w1 hp1 (by have := Hl.out; omega))
    have Hp2 := hid hp2; have Hp3 := hid hp3
    clear hp1 hp2 hp3
    go_wp2_with (go_at_call 69; refine C2.out.mono ?_; rintro e w' ⟨rfl, hp⟩)
    go_ret
    exact ⟨rfl, StPost.up hp Hp2.out Hp3.out⟩
end Go.Proofs.Ytcihnfgfficmlaa
