/- What the laws' own answer's Text returns. -/
import Derived.Test.YtiglfdefeaddmaaRefReal
import Derived.Test.YtiglfdefeaddmaaText
import Derived.Test.YtiglfdefeaddmaaRefDig
namespace Go.Proofs.Ytiglfdefeaddmaa
open Go.RowKit Go.Lib

theorem hexs_at (c k : Nat) (h : k < 16) : (hexs c).take (k + 1) = (hexs c).take k ++ [UInt8.ofNat (hexC (hexD c (15 - k)))] := by
  have hl : (hexs c).length = 16 := by simp [hexs]
  rw [List.take_succ_eq_append_getElem (by omega)]
  congr 2
  simp [hexs]
theorem digB_sub (d : Nat) (h : d < 16) : (digB.extract d (d + 1)) = ⟨#[UInt8.ofNat (hexC d)]⟩ := by
  have h2 : ∀ x : Fin 16, (digB.extract x.1 (x.1 + 1)).data = #[UInt8.ofNat (hexC x.1)] := by decide +kernel
  exact ByteArray.ext (h2 ⟨d, h⟩)
/-- The text behind so many digits. -/
def xHex (c k : Nat) : ByteArray := ⟨(120 :: (hexs c).take k).toArray⟩
theorem xHex_size (c k : Nat) (h : k ≤ 16) : (xHex c k).size = k + 1 := by
  show (120 :: (hexs c).take k).toArray.size = _
  have hl : (hexs c).length = 16 := by simp [hexs]
  simp
  omega
theorem xHex_next (c k : Nat) (h : k < 16) : xHex c (k + 1) = xHex c k ++ digB.extract (hexD c (15 - k)) (hexD c (15 - k) + 1) := by
  rw [digB_sub _ (hexD_lt _ _)]
  apply ByteArray.ext
  rw [ByteArray.data_append]
  unfold xHex
  rw [hexs_at c k h]
  simp
theorem cls_four {b : Nat} (hb : Wd b) (h : cls b = 4) : b = 0 := by
  have hf := sr_facts b hb.lt
  unfold cls at h
  split at h
  · simp at h
  · split at h
    · simp at h
    · split at h
      · simp at h
      · split at h
        · simp at h
        · split at h
          · simp at h
          · split at h
            · simp at h
            · rename_i q1 q2 q3
              rw [hf.2.2] at q3
              rw [hf.1] at q1
              rw [hf.2.1] at q2
              omega
theorem ival_zero : ival 0 = 0 := by
  unfold ival tr
  rw [show rung 0 = 0 by decide, show mv 0 = 0 by decide, Nat.zero_div]
  rfl
theorem text_zero : textOf 0 = [48] := by
  unfold textOf
  rw [show cls 0 = 4 by decide +kernel, show isW 0 = true by decide +kernel, ival_zero]
  simp only [Int.reduceEq, if_false]
  decide +kernel

theorem hslice (d : Nat) (h : d < 16) : ∀ w, (Instr.slice 9 (.string ⟨#[48, 49, 50, 51, 52, 53, 54, 55, 56, 57, 97, 98, 99, 100, 101, 102]⟩) (some (.int .i64 (d : Int))) (some (.int .i64 ((d : Int) + 1))) none).run Try.prog w = .ok (.string (digB.extract d (d + 1))) w := fun w => by
  have h2 := run_slice_string (P := Try.prog) (w := w) 9 digB .i64 .i64 (d : Int) ((d : Int) + 1) (by kernel_rfl) (by omega) (by omega) (by show (d : Int) + 1 ≤ 16; omega)
  rw [show ((d : Int)).toNat = d by omega, show ((d : Int) + 1).toNat = d + 1 by omega] at h2
  exact h2
set_option maxHeartbeats 4000000 in
theorem refText_hex (b : Nat) (w : World) (hb : Wd b) (hf : rung b < 9218868437227405312) (h0 : cls b ≠ 0) (h1 : cls b ≠ 1) (h6 : cls b ≠ 6) (h3 : cls b ≠ 3) (h4 : cls b ≠ 4) (hw : ¬ W b) :
    Calls Try.prog 18 #[.float .f64 b] w fun e w' => e = .returned (.string ⟨(120 :: hexs (can b)).toArray⟩) ∧ w = w' := by
  have C1 := hid (refClass_any b w hb)
  have C2 := hid (refBits_any b w hb)
  have q0 : (cls b == 0) = false := by simpa using h0
  have q1 : (cls b == 1) = false := by simpa using h1
  have q6 : (cls b == 6) = false := by simpa using h6
  have q3 : (cls b == 3) = false := by simpa using h3
  have q4 : (cls b == 4) = false := by simpa using h4
  have hcan := hb.can
  have hR : Hid (∀ k, k ≤ 16 → (xHex (can b) k).size = k + 1) := fun k hk => xHex_size _ k hk
  have hN : Hid (∀ k, k < 16 → xHex (can b) (k + 1) = xHex (can b) k ++ digB.extract (hexD (can b) (15 - k)) (hexD (can b) (15 - k) + 1)) := fun k hk => xHex_next _ k hk
  have hZ : Hid (xHex (can b) 16 = ⟨(120 :: hexs (can b)).toArray⟩) := by
    unfold Hid xHex
    rw [List.take_of_length_le (by simp [hexs])]
  have h00 : Hid (xHex (can b) 0 = ⟨#[120]⟩) := by unfold Hid xHex; rfl
  have hS : Hid (∀ k, bits .and .u64 ((can b : Int) / 2 ^ (4 * k)) 15 = (hexD (can b) k : Int)) := fun k => shr_bits (can b) k hcan
  have hD : Hid (∀ k, hexD (can b) k < 16) := fun k => hexD_lt _ k
  have key : ∀ (tA tB : Bool), (FloatKind.f64.format.order b 14054727237768577016 == some .gt || FloatKind.f64.format.order b 14054727237768577016 == some .eq) = tA → (FloatKind.f64.format.order b 4831355200913801208 == some .lt || FloatKind.f64.format.order b 4831355200913801208 == some .eq) = tB →
      (tA = true → tB = true → (FloatKind.f64.format.order (fl (ival b)) b == some .eq) = false ∧ ∀ w, (convert 30 3 (.float .f64 b)).run Try.prog w = .ok (.int .i64 (ival b)) w) →
      Calls Try.prog 18 #[.float .f64 b] w fun e w' => e = .returned (.string ⟨(120 :: hexs (can b)).toArray⟩) ∧ w = w' := by
    clear h0 h1 h6 h3 h4 hw hf hcan
    intro tA tB eA eB eC
    have hc2 : ∀ w, (convert 3 30 (.int .i64 (ival b))).run Try.prog w = .ok (.float .f64 (fl (ival b))) w := fun w => run_convert_int_float w _ _ _ _ _ (by kernel_rfl) (by kernel_rfl)
    generalize can b = c at *
    cases tA
    case false =>
      clear eC eB hc2
      go_enter Try.func18, Try.ntmps18
      go_wp2_with (first | (go_at_call 23; refine C1.out.mono ?_; rintro e w' ⟨rfl, rfl⟩) | (go_at_call 32; refine C2.out.mono ?_; rintro e w' ⟨rfl, rfl⟩))
      go_loop [4, 5] (fun sv iv => ∃ j : Nat, j ≤ 16 ∧ iv = .int .i64 (4 * (j : Int) - 4) ∧ sv = .string (xHex c (16 - j))) (fun _ iv => ((RowKit.intOf iv) + 4).toNat)
      case atStart => exact ⟨16, Nat.le_refl _, rfl, by rw [← h00.out]⟩
      case round =>
        obtain ⟨j, hj, rfl, rfl⟩ := hrel
        cases j with
        | zero =>
          have ej : (4 * ((0 : Nat) : Int) - 4) = -4 := by decide
          rw [ej, hZ.out]
          go_wp2
          go_ret
          exact ⟨rfl, rfl⟩
        | succ m =>
          have ej : (4 * ((m + 1 : Nat) : Int) - 4) = 4 * (m : Int) := by omega
          have em : 16 - (m + 1) = 15 - m := by omega
          rw [ej, em]
          have hm : m < 16 := by omega
          have hmI : (m : Int) < 16 := by omega
          have hs := hS.out m
          have hd := hD.out m
          have hsz := hR.out (15 - m) (by omega)
          have hx := hN.out (15 - m) (by omega)
          rw [show 15 - m + 1 = 16 - m by omega, show 15 - (15 - m) = m by omega] at hx
          have Hx := hid hx
          clear hx ej em
          generalize hexD c m = d at *
          generalize xHex c (15 - m) = X at *
          have hszI : (X.size : Int) ≤ 16 := by omega
          have hdI : (d : Int) < 16 := by omega
          have hd0 : (0 : Int) ≤ d := by omega
          have hsl := hslice d hd
          clear hsz hd
          go_wp2
          go_round
          case rel => exact ⟨m, by omega, by go_num, by rw [Hx.out]⟩
          case measure => simp [RowKit.intOf]; omega
    case true =>
      cases tB
      case false =>
        clear eC hc2
        go_enter Try.func18, Try.ntmps18
        go_wp2_with (first | (go_at_call 23; refine C1.out.mono ?_; rintro e w' ⟨rfl, rfl⟩) | (go_at_call 32; refine C2.out.mono ?_; rintro e w' ⟨rfl, rfl⟩))
        go_loop [4, 5] (fun sv iv => ∃ j : Nat, j ≤ 16 ∧ iv = .int .i64 (4 * (j : Int) - 4) ∧ sv = .string (xHex c (16 - j))) (fun _ iv => ((RowKit.intOf iv) + 4).toNat)
        case atStart => exact ⟨16, Nat.le_refl _, rfl, by rw [← h00.out]⟩
        case round =>
          obtain ⟨j, hj, rfl, rfl⟩ := hrel
          cases j with
          | zero =>
            have ej : (4 * ((0 : Nat) : Int) - 4) = -4 := by decide
            rw [ej, hZ.out]
            go_wp2
            go_ret
            exact ⟨rfl, rfl⟩
          | succ m =>
            have ej : (4 * ((m + 1 : Nat) : Int) - 4) = 4 * (m : Int) := by omega
            have em : 16 - (m + 1) = 15 - m := by omega
            rw [ej, em]
            have hm : m < 16 := by omega
            have hmI : (m : Int) < 16 := by omega
            have hs := hS.out m
            have hd := hD.out m
            have hsz := hR.out (15 - m) (by omega)
            have hx := hN.out (15 - m) (by omega)
            rw [show 15 - m + 1 = 16 - m by omega, show 15 - (15 - m) = m by omega] at hx
            have Hx := hid hx
            clear hx ej em
            generalize hexD c m = d at *
            generalize xHex c (15 - m) = X at *
            have hszI : (X.size : Int) ≤ 16 := by omega
            have hdI : (d : Int) < 16 := by omega
            have hd0 : (0 : Int) ≤ d := by omega
            have hsl := hslice d hd
            clear hsz hd
            go_wp2
            go_round
            case rel => exact ⟨m, by omega, by go_num, by rw [Hx.out]⟩
            case measure => simp [RowKit.intOf]; omega
      case true =>
        obtain ⟨e3, e4⟩ := eC rfl rfl
        clear eC
        generalize fl (ival b) = f at *
        generalize ival b = v at *
        go_enter Try.func18, Try.ntmps18
        go_wp2_with (first | (go_at_call 23; refine C1.out.mono ?_; rintro e w' ⟨rfl, rfl⟩) | (go_at_call 32; refine C2.out.mono ?_; rintro e w' ⟨rfl, rfl⟩))
        go_loop [4, 5] (fun sv iv => ∃ j : Nat, j ≤ 16 ∧ iv = .int .i64 (4 * (j : Int) - 4) ∧ sv = .string (xHex c (16 - j))) (fun _ iv => ((RowKit.intOf iv) + 4).toNat)
        case atStart => exact ⟨16, Nat.le_refl _, rfl, by rw [← h00.out]⟩
        case round =>
          obtain ⟨j, hj, rfl, rfl⟩ := hrel
          cases j with
          | zero =>
            have ej : (4 * ((0 : Nat) : Int) - 4) = -4 := by decide
            rw [ej, hZ.out]
            go_wp2
            go_ret
            exact ⟨rfl, rfl⟩
          | succ m =>
            have ej : (4 * ((m + 1 : Nat) : Int) - 4) = 4 * (m : Int) := by omega
            have em : 16 - (m + 1) = 15 - m := by omega
            rw [ej, em]
            have hm : m < 16 := by omega
            have hmI : (m : Int) < 16 := by omega
            have hs := hS.out m
            have hd := hD.out m
            have hsz := hR.out (15 - m) (by omega)
            have hx := hN.out (15 - m) (by omega)
            rw [show 15 - m + 1 = 16 - m by omega, show 15 - (15 - m) = m by omega] at hx
            have Hx := hid hx
            clear hx ej em
            generalize hexD c m = d at *
            generalize xHex c (15 - m) = X at *
            have hszI : (X.size : Int) ≤ 16 := by omega
            have hdI : (d : Int) < 16 := by omega
            have hd0 : (0 : Int) ≤ d := by omega
            have hsl := hslice d hd
            clear hsz hd
            go_wp2
            go_round
            case rel => exact ⟨m, by omega, by go_num, by rw [Hx.out]⟩
            case measure => simp [RowKit.intOf]; omega
  refine key _ _ rfl rfl fun eA eB => ?_
  have hr : refW b = true := by
    unfold refW
    rw [eA, eB]; rfl
  have ht := refW_tr b hb.lt hf hr
  have hi := refW_iff b hb.lt hf
  refine ⟨?_, fun w => run_convert_float_int w 30 3 .f64 .i64 b (ival b) (by kernel_rfl) (by kernel_rfl) (toInt_ival b hb.lt hf (by omega))⟩
  cases h : (FloatKind.f64.format.order (fl (ival b)) b == some .eq)
  · rfl
  · exact absurd (hi.2 ⟨hr, h⟩) hw

set_option maxHeartbeats 2000000 in
theorem refText_any (b : Nat) (w : World) (hb : Wd b) :
    Calls Try.prog 18 #[.float .f64 b] w fun e w' => e = .returned (.string ⟨(textOf b).toArray⟩) ∧ Touch [] w w' := by
  have C1 := hid (refClass_any b w hb)
  have lit : ∀ (k : Int) (l : List UInt8), cls b = k → textOf b = l → ((k = 0 ∧ l = [110, 97, 110]) ∨ (k = 1 ∧ l = [45, 105, 110, 102]) ∨ (k = 6 ∧ l = [105, 110, 102]) ∨ (k = 3 ∧ l = [45, 48]) ∨ (k = 4 ∧ l = [48])) →
      Calls Try.prog 18 #[.float .f64 b] w fun e w' => e = .returned (.string ⟨(textOf b).toArray⟩) ∧ Touch [] w w' := by
    intro k l hk hl h
    rw [hk] at C1
    rw [hl]
    clear hk hl
    rcases h with ⟨rfl, rfl⟩ | ⟨rfl, rfl⟩ | ⟨rfl, rfl⟩ | ⟨rfl, rfl⟩ | ⟨rfl, rfl⟩
    all_goals
      go_enter Try.func18, Try.ntmps18
      go_wp2_with (go_at_call 23; refine C1.out.mono ?_; rintro e w' ⟨rfl, rfl⟩)
      go_ret
      exact ⟨rfl, Touch.refl _ _⟩
  by_cases h0 : cls b = 0
  · exact lit 0 _ h0 (by unfold textOf; rw [if_pos h0]) (.inl ⟨rfl, rfl⟩)
  by_cases h1 : cls b = 1
  · exact lit 1 _ h1 (by unfold textOf; rw [if_neg h0, if_pos h1]) (.inr (.inl ⟨rfl, rfl⟩))
  by_cases h6 : cls b = 6
  · exact lit 6 _ h6 (by unfold textOf; rw [if_neg h0, if_neg h1, if_pos h6]) (.inr (.inr (.inl ⟨rfl, rfl⟩)))
  by_cases h3 : cls b = 3
  · exact lit 3 _ h3 (by unfold textOf; rw [if_neg h0, if_neg h1, if_neg h6, if_pos h3]) (.inr (.inr (.inr (.inl ⟨rfl, rfl⟩))))
  by_cases h4 : cls b = 4
  · exact lit 4 _ h4 (by rw [cls_four hb h4]; exact text_zero) (.inr (.inr (.inr (.inr ⟨rfl, rfl⟩))))
  clear lit
  obtain ⟨hf, hn⟩ := cls_fin hb h0 h1 h6
  have hW := isW_iff b hb.lt hf
  have ht : textOf b = if isW b = true then itoa (ival b) else 120 :: hexs (can b) := by unfold textOf; rw [if_neg h0, if_neg h1, if_neg h6, if_neg h3]
  by_cases hw : W b
  · rw [ht, if_pos (hW.2 hw)]
    obtain ⟨r1, r2⟩ := (refW_iff b hb.lt hf).1 hw
    have ha := ival_abs b
    have hw2 := hw.2
    have hconv : ∀ w, (convert 30 3 (.float .f64 b)).run Try.prog w = .ok (.int .i64 (ival b)) w := fun w =>
      run_convert_float_int w 30 3 .f64 .i64 b (ival b) (by kernel_rfl) (by kernel_rfl) (toInt_ival b hb.lt hf (by omega))
    have hc2 : ∀ w, (convert 3 30 (.int .i64 (ival b))).run Try.prog w = .ok (.float .f64 (fl (ival b))) w := fun w => run_convert_int_float w _ _ _ _ _ (by kernel_rfl) (by kernel_rfl)
    have C4 := hid (refDigits_any (ival b) w (by omega) (by omega))
    have q0 : (cls b == 0) = false := by simpa using h0
    have q1 : (cls b == 1) = false := by simpa using h1
    have q6 : (cls b == 6) = false := by simpa using h6
    have q3 : (cls b == 3) = false := by simpa using h3
    have q4 : (cls b == 4) = false := by simpa using h4
    unfold refW at r1
    rw [Bool.and_eq_true] at r1
    obtain ⟨r3, r4⟩ := r1
    clear h0 h1 h6 h3 h4 hf hn hW ht hw hw2 ha
    generalize fl (ival b) = f at *
    generalize ival b = v at *
    go_enter Try.func18, Try.ntmps18
    go_wp2_with (first | (go_at_call 23; refine C1.out.mono ?_; rintro e w' ⟨rfl, rfl⟩) | (go_at_call 34; refine C4.out.mono ?_; rintro e w' ⟨rfl, hp⟩))
    go_ret
    exact ⟨rfl, hp⟩
  · rw [ht, if_neg (fun h => hw (hW.1 h))]
    exact (refText_hex b w hb hf h0 h1 h6 h3 h4 hw).mono fun e w' ⟨he, hq⟩ => ⟨he, by rw [← hq]; exact Touch.refl _ _⟩
end Go.Proofs.Ytiglfdefeaddmaa
