/- What real.Text returns. -/
import Derived.Test.YtjljflaejfbljaaDoorRealb
import Derived.Test.YtjljflaejfbljaaDoorHex
import Derived.Test.YtjljflaejfbljaaDoorWhole
import Derived.Test.YtjljflaejfbljaaDoorInb
namespace Go.Proofs.YtjljflaejfbljaaDoor
open Go.RowKit Go.Lib

abbrev Tab (w : World) : Prop := TabIs Tryd.prog w "internal/strconv.uint64pow10" .u64 pow10Tab
theorem Tab.touch {w w' : World} (h : Tab w) (ht : Touch [] w w') : Tab w' := by
  unfold Tab TabIs World.var? at *
  cases hg : Program.globalNamed Tryd.prog "internal/strconv.uint64pow10" with
  | none => rw [hg] at h; simp at h
  | some g =>
    rw [hg] at h
    simp only [Option.bind_some] at h ⊢
    have hlt : g < w.heap.size := by
      rcases Nat.lt_or_ge g w.heap.size with h' | h'
      · exact h'
      · simp [Array.getElem?_eq_none h'] at h
    rw [ht.block g hlt (by simp)]
    exact h

theorem archTrunc_run (b : Nat) (w : World) (hb : Wd b) (hn : isNan b = false) : (callFunc 54 #[.float .f64 b]).run Tryd.prog w = .ok (.value (.float .f64 (trB b))) w := by
  rw [run_callFunc_extern Tryd.func54 (by kernel_rfl) (by kernel_rfl) (by kernel_rfl) (e := Extern.MathFloor.toIntegral "math.archTrunc" .zero) (by kernel_rfl)]
  have h : ∃ s m p, FloatKind.f64.decode b = .number s m p ∨ FloatKind.f64.decode b = .infinity s := by
    rw [show FloatKind.f64.decode b = DD.read b from rfl, read_eq b hb.lt]
    unfold isNan at hn
    simp only [decide_eq_false_iff_not] at hn
    by_cases h1 : rung b < 9218868437227405312
    · rw [if_pos h1]; exact ⟨_, _, _, .inl rfl⟩
    · rw [if_neg h1, if_pos (by omega)]; exact ⟨neg b, 0, 0, .inr rfl⟩
  obtain ⟨s, m, p, h⟩ := h
  have e : Extern.MathFloor.toIntegral "math.archTrunc" .zero #[.float .f64 b] = pure (Value.float .f64 (FloatKind.f64.encode ((FloatKind.f64.decode b).integral .zero))) := by
    conv => lhs; whnf
    rcases h with h | h <;> rw [h]
  rw [e]
  rfl
theorem trunc_any (b : Nat) (w : World) (hb : Wd b) (hn : isNan b = false) :
    Calls Tryd.prog 43 #[.float .f64 b] w fun e w' => e = .returned (.float .f64 (trB b)) ∧ w = w' := by
  have h := fun w => archTrunc_run b w hb hn
  clear hn
  go_enter Tryd.func43, Tryd.ntmps43
  go_wp2
  go_ret
  exact ⟨rfl, rfl⟩

/-- What Text tells. -/
noncomputable def textOf (b : Nat) : List UInt8 :=
  if cls b = 0 then [110, 97, 110] else if cls b = 1 then [45, 105, 110, 102] else if cls b = 6 then [105, 110, 102] else if cls b = 3 then [45, 48]
  else if isW b = true then itoa (ival b) else 120 :: hexs (can b)
theorem cls_fin {b : Nat} (hb : Wd b) (h0 : cls b ≠ 0) (h1 : cls b ≠ 1) (h6 : cls b ≠ 6) : rung b < 9218868437227405312 ∧ isNan b = false := by
  have hn : isNan b = false := by
    apply isNan_false
    intro h
    exact h0 (by unfold cls; rw [if_pos h])
  refine ⟨?_, hn⟩
  have q1 : b ≠ 18442240474082181120 := fun h => h1 (by unfold cls; rw [hn, if_neg (by simp), if_pos h])
  have q6 : b ≠ 9218868437227405312 := fun h => h6 (by unfold cls; rw [hn, if_neg (by simp), if_neg (by rw [h]; decide), if_pos h])
  unfold isNan at hn
  have := hb.lt
  unfold rung at *
  simp at hn
  omega

theorem add_x (l : List UInt8) : (⟨#[120]⟩ : ByteArray) ++ ⟨l.toArray⟩ = ⟨(120 :: l).toArray⟩ := by
  apply ByteArray.ext
  rw [ByteArray.data_append]
  simp

set_option maxHeartbeats 1000000 in
theorem text_any (b : Nat) (w : World) (hb : Wd b) (htab : Tab w) :
    Calls Tryd.prog 24 #[.float .f64 b] w fun e w' => e = .returned (.string ⟨(textOf b).toArray⟩) ∧ Touch [] w w' := by
  have C1 := hid (class_any b w hb)
  have Ht := hid htab
  clear htab
  by_cases h0 : cls b = 0
  · have hc := hid (show textOf b = [110, 97, 110] by unfold textOf; rw [if_pos h0])
    rw [h0] at C1
    clear h0
    go_enter Tryd.func24, Tryd.ntmps24
    go_wp2_with (go_at_call 22; refine C1.out.mono ?_; rintro e w' ⟨rfl, rfl⟩)
    go_ret
    exact ⟨by rw [hc.out]; rfl, Touch.refl _ _⟩
  by_cases h1 : cls b = 1
  · have hc := hid (show textOf b = [45, 105, 110, 102] by unfold textOf; rw [if_neg h0, if_pos h1])
    rw [h1] at C1
    clear h0 h1
    go_enter Tryd.func24, Tryd.ntmps24
    go_wp2_with (go_at_call 22; refine C1.out.mono ?_; rintro e w' ⟨rfl, rfl⟩)
    go_ret
    exact ⟨by rw [hc.out]; rfl, Touch.refl _ _⟩
  by_cases h6 : cls b = 6
  · have hc := hid (show textOf b = [105, 110, 102] by unfold textOf; rw [if_neg h0, if_neg h1, if_pos h6])
    rw [h6] at C1
    clear h0 h1 h6
    go_enter Tryd.func24, Tryd.ntmps24
    go_wp2_with (go_at_call 22; refine C1.out.mono ?_; rintro e w' ⟨rfl, rfl⟩)
    go_ret
    exact ⟨by rw [hc.out]; rfl, Touch.refl _ _⟩
  by_cases h3 : cls b = 3
  · have hc := hid (show textOf b = [45, 48] by unfold textOf; rw [if_neg h0, if_neg h1, if_neg h6, if_pos h3])
    rw [h3] at C1
    clear h0 h1 h6 h3
    go_enter Tryd.func24, Tryd.ntmps24
    go_wp2_with (go_at_call 22; refine C1.out.mono ?_; rintro e w' ⟨rfl, rfl⟩)
    go_ret
    exact ⟨by rw [hc.out]; rfl, Touch.refl _ _⟩
  obtain ⟨hf, hn⟩ := cls_fin hb h0 h1 h6
  have q0 : (cls b == 0) = false := by simpa using h0
  have q1 : (cls b == 1) = false := by simpa using h1
  have q6 : (cls b == 6) = false := by simpa using h6
  have q3 : (cls b == 3) = false := by simpa using h3
  have C2 := hid (trunc_any b w hb hn)
  have C3 := hid (abs_any b w hb)
  have ht : textOf b = if isW b = true then itoa (ival b) else 120 :: hexs (can b) := by unfold textOf; rw [if_neg h0, if_neg h1, if_neg h6, if_neg h3]
  have hW := isW_iff b hb.lt hf
  by_cases hw : isW b = true
  · have hw2 := hW.1 hw
    have ha := ival_abs b
    have hc := hid (show textOf b = itoa (ival b) by rw [ht, if_pos hw])
    have hconv : ∀ w, (convert 24 3 (.float .f64 b)).run Tryd.prog w = .ok (.int .i64 (ival b)) w := fun w =>
      run_convert_float_int w 24 3 .f64 .i64 b (ival b) (by kernel_rfl) (by kernel_rfl) (toInt_ival b hb.lt hf (by have := hw2.2; omega))
    have C4 := hid (digits_any (ival b) w (by have := hw2.2; omega) (by have := hw2.2; omega) Ht.out)
    unfold isW at hw
    rw [Bool.and_eq_true] at hw
    obtain ⟨t1, t2⟩ := hw
    clear h0 h1 h6 h3 hf hn ht hW hw2 ha
    go_enter Tryd.func24, Tryd.ntmps24
    go_wp2_with (first | (go_at_call 22; refine C1.out.mono ?_; rintro e w' ⟨rfl, rfl⟩) | (go_at_call 43; refine C2.out.mono ?_; rintro e w' ⟨rfl, rfl⟩) | (go_at_call 44; refine C3.out.mono ?_; rintro e w' ⟨rfl, rfl⟩) | (go_at_call 45; refine C4.out.mono ?_; rintro e w' ⟨rfl, hp⟩))
    go_ret
    exact ⟨by rw [hc.out]; rfl, hp⟩
  · have hc := hid (show textOf b = 120 :: hexs (can b) by rw [ht, if_neg hw])
    have C4 := hid (bits_any b w hb)
    have C5 := hid (hex_any (can b) w hb.can)
    have hadd := hid (add_x (hexs (can b)))
    obtain ⟨H, hH⟩ : ∃ H : ByteArray, H = ⟨(hexs (can b)).toArray⟩ := ⟨_, rfl⟩
    have hsz : (H.size : Int) = 16 := by rw [hH]; show (((hexs (can b)).toArray.size : Nat) : Int) = 16; simp [hexs]
    rw [← hH] at hadd C5
    clear hH
    unfold isW at hw
    rw [Bool.and_eq_true] at hw
    clear h0 h1 h6 h3 hf hn ht hW
    by_cases t1 : (FloatKind.f64.format.order b (trB b) == some .eq) = true
    · have t2 : (FloatKind.f64.format.order (rung b) 4831355200913801216 == some .lt) = false := by
        cases h : (FloatKind.f64.format.order (rung b) 4831355200913801216 == some .lt)
        · rfl
        · exact absurd ⟨t1, h⟩ hw
      clear hw
      go_enter Tryd.func24, Tryd.ntmps24
      go_wp2_with (first | (go_at_call 22; refine C1.out.mono ?_; rintro e w' ⟨rfl, rfl⟩) | (go_at_call 43; refine C2.out.mono ?_; rintro e w' ⟨rfl, rfl⟩) | (go_at_call 44; refine C3.out.mono ?_; rintro e w' ⟨rfl, rfl⟩) | (go_at_call 16; refine C4.out.mono ?_; rintro e w' ⟨rfl, rfl⟩) | (go_at_call 46; refine C5.out.mono ?_; rintro e w' ⟨rfl, hp⟩))
      go_ret
      exact ⟨by rw [hc.out, ← hadd.out]; rfl, hp⟩
    · have t2 : (FloatKind.f64.format.order b (trB b) == some .eq) = false := by simpa using t1
      clear hw t1
      go_enter Tryd.func24, Tryd.ntmps24
      go_wp2_with (first | (go_at_call 22; refine C1.out.mono ?_; rintro e w' ⟨rfl, rfl⟩) | (go_at_call 43; refine C2.out.mono ?_; rintro e w' ⟨rfl, rfl⟩) | (go_at_call 44; refine C3.out.mono ?_; rintro e w' ⟨rfl, rfl⟩) | (go_at_call 16; refine C4.out.mono ?_; rintro e w' ⟨rfl, rfl⟩) | (go_at_call 46; refine C5.out.mono ?_; rintro e w' ⟨rfl, hp⟩))
      go_ret
      exact ⟨by rw [hc.out, ← hadd.out]; rfl, hp⟩
end Go.Proofs.YtjljflaejfbljaaDoor
