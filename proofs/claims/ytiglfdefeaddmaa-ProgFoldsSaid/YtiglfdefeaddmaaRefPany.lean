/- The laws' own Parse, whole. -/
import Derived.Test.YtiglfdefeaddmaaRefParse
namespace Go.Proofs.Ytiglfdefeaddmaa
open Go.RowKit Go.Lib

theorem pre_x (s : ByteArray) : hasPrefix s.data.toList [120] = true ↔ ∃ h : 0 < s.size, s[0].toNat = 120 := by
  have hl := list_len s
  cases h : s.data.toList with
  | nil =>
    rw [h] at hl
    simp at hl
    simp [hasPrefix]
    omega
  | cons c t =>
    rw [h] at hl
    simp at hl
    have h0 : 0 < s.size := by omega
    have e : s[0] = c := by
      show s.data.toList[0]'(by rw [list_len]; exact h0) = c
      simp [h]
    constructor
    · intro hp
      simp [hasPrefix] at hp
      exact ⟨h0, by rw [e, ← hp]; rfl⟩
    · rintro ⟨_, hq⟩
      rw [e] at hq
      simp [hasPrefix]
      exact (UInt8.toNat_inj.1 hq).symm
theorem trim_x {l : List UInt8} (h : hasPrefix l [120] = true) : trimPrefix l [120] = l.drop 1 := by
  unfold trimPrefix
  rw [if_pos h]
  rfl
theorem first_count (s : ByteArray) : (s.size = 0 ∧ (trimPrefix s.data.toList [45]).length = 0) ∨ (∃ h : 0 < s.size, ((s[0].toNat : Int) == 45) = true ∧ s.size = (trimPrefix s.data.toList [45]).length + 1) ∨ (∃ h : 0 < s.size, ((s[0].toNat : Int) == 45) = false ∧ s.size = (trimPrefix s.data.toList [45]).length) := by
  have hl := list_len s
  cases h : s.data.toList with
  | nil =>
    rw [h] at hl
    simp at hl
    exact .inl ⟨by omega, by decide⟩
  | cons c t =>
    rw [h] at hl
    simp at hl
    have h0 : 0 < s.size := by omega
    have e : s[0] = c := by
      show s.data.toList[0]'(by rw [list_len]; exact h0) = c
      simp [h]
    by_cases hc : c = 45
    · subst hc
      rw [trim_neg]
      exact .inr (.inl ⟨h0, by rw [e]; decide, by omega⟩)
    · rw [trim_pos _ (by simp; exact hc)]
      refine .inr (.inr ⟨h0, ?_, by simp; omega⟩)
      rw [e]
      have : c.toNat ≠ 45 := fun h => hc (UInt8.toNat_inj.1 h)
      simp; omega

set_option maxHeartbeats 1000000 in
theorem refParse_any (s : ByteArray) (w : World) (hle : s.size ≤ 100000) :
    Calls Try.prog 29 #[.string s] w fun e w' => e = .returned (.tuple #[.float .f64 (parseOf s.data.toList).1, .int .i64 (parseOf s.data.toList).2]) ∧ w = w' := by
  have q : ∀ l, (s.toList == l) = decide (s.data.toList = l) := list_eq s
  have word : ∀ (l : List UInt8), s.data.toList = l → (l = [110, 97, 110] ∨ l = [105, 110, 102] ∨ l = [45, 105, 110, 102] ∨ l = [48] ∨ l = [45, 48]) →
      Calls Try.prog 29 #[.string s] w fun e w' => e = .returned (.tuple #[.float .f64 (parseOf s.data.toList).1, .int .i64 (parseOf s.data.toList).2]) ∧ w = w' := by
    intro l hl h
    have g1 := q [110, 97, 110]
    have g2 := q [105, 110, 102]
    have g3 := q [45, 105, 110, 102]
    have g4 := q [48]
    have g5 := q [45, 48]
    rw [hl] at g1 g2 g3 g4 g5 ⊢
    clear hl q hle
    rcases h with rfl | rfl | rfl | rfl | rfl
    · rw [show parseOf [110, 97, 110] = (9221120237041090560, 0) from rfl]
      have C := hid (refOf_any 9221120237041090560 w (by decide))
      rw [show can 9221120237041090560 = 9221120237041090560 by decide] at C
      go_enter Try.func29, Try.ntmps29
      go_wp2_with (go_at_call 17; refine C.out.mono ?_; rintro e w' ⟨rfl, rfl⟩)
      go_ret2
      exact ⟨rfl, rfl⟩
    · rw [show parseOf [105, 110, 102] = (9218868437227405312, 0) by decide +kernel]
      have C := hid (refOf_any 9218868437227405312 w (by decide))
      rw [show can 9218868437227405312 = 9218868437227405312 by decide] at C
      go_enter Try.func29, Try.ntmps29
      go_wp2_with (go_at_call 17; refine C.out.mono ?_; rintro e w' ⟨rfl, rfl⟩)
      go_ret2
      exact ⟨rfl, rfl⟩
    · rw [show parseOf [45, 105, 110, 102] = (18442240474082181120, 0) by decide +kernel]
      have C := hid (refOf_any 18442240474082181120 w (by decide))
      rw [show can 18442240474082181120 = 18442240474082181120 by decide] at C
      go_enter Try.func29, Try.ntmps29
      go_wp2_with (go_at_call 17; refine C.out.mono ?_; rintro e w' ⟨rfl, rfl⟩)
      go_ret2
      exact ⟨rfl, rfl⟩
    · rw [show parseOf [48] = (0, 0) by decide +kernel]
      go_enter Try.func29, Try.ntmps29
      go_wp2
      go_ret2
      exact ⟨rfl, rfl⟩
    · rw [show parseOf [45, 48] = (9223372036854775808, 0) by decide +kernel]
      have C := hid (refOf_any 9223372036854775808 w (by decide))
      rw [show can 9223372036854775808 = 9223372036854775808 by decide] at C
      go_enter Try.func29, Try.ntmps29
      go_wp2_with (go_at_call 17; refine C.out.mono ?_; rintro e w' ⟨rfl, rfl⟩)
      go_ret2
      exact ⟨rfl, rfl⟩
  by_cases h1 : s.data.toList = [110, 97, 110]
  · exact word _ h1 (.inl rfl)
  by_cases h2 : s.data.toList = [105, 110, 102]
  · exact word _ h2 (.inr (.inl rfl))
  by_cases h3 : s.data.toList = [45, 105, 110, 102]
  · exact word _ h3 (.inr (.inr (.inl rfl)))
  by_cases h4 : s.data.toList = [48]
  · exact word _ h4 (.inr (.inr (.inr (.inl rfl))))
  by_cases h5 : s.data.toList = [45, 48]
  · exact word _ h5 (.inr (.inr (.inr (.inr rfl))))
  have hw : NoWord s := ⟨by rw [q, decide_eq_false h1], by rw [q, decide_eq_false h2], by rw [q, decide_eq_false h3], by rw [q, decide_eq_false h4], by rw [q, decide_eq_false h5]⟩
  have hp : parseOf s.data.toList = if hasPrefix s.data.toList [120] = true then (if unhexOk (trimPrefix s.data.toList [120]) then (can (hv (trimPrefix s.data.toList [120])), 0) else (0, 6))
      else if (numP s.data.toList).2 ≠ 0 ∨ (numP s.data.toList).1 ≤ -1000000000000000 ∨ 1000000000000000 ≤ (numP s.data.toList).1 then (0, 6) else (fl (numP s.data.toList).1, 0) := by
    unfold parseOf
    rw [if_neg h1, if_neg h3, if_neg h2, if_neg h5]
  clear word q h1 h2 h3 h4 h5
  have hl := list_len s
  by_cases hx : s.size = 17 ∧ ∃ h : 0 < s.size, s[0].toNat = 120
  · have hpre := (pre_x s).2 hx.2
    rw [hp, if_pos hpre, trim_x hpre]
    refine (refParse_x s w hw hx.1 hx.2).mono fun e w' ⟨he, hq⟩ => ⟨?_, hq⟩
    rw [he]
    split <;> rfl
  · have hA : ((s.size : Int) == 17) = false ∨ (((s.size : Int) == 17) = true ∧ ∃ h : 0 < s.size, ((s[0].toNat : Int) == 120) = false) := by
      by_cases h17 : s.size = 17
      · have h0 : 0 < s.size := by omega
        refine .inr ⟨by simp; omega, h0, ?_⟩
        have : s[0].toNat ≠ 120 := fun e => hx ⟨h17, h0, e⟩
        simp; omega
      · exact .inl (by simp; omega)
    obtain ⟨v, e, hve⟩ : ∃ v e, numP s.data.toList = (v, e) := ⟨_, _, rfl⟩
    have h15 := num15 s.data.toList
    refine (refParse_num s w hw v e (trimPrefix s.data.toList [45]).length hve (by omega) hA (first_count s)).mono fun e' w' ⟨he, hq⟩ => ⟨?_, hq⟩
    rw [he, hp]
    rw [hve] at h15 ⊢
    simp only [] at h15 ⊢
    by_cases hpre : hasPrefix s.data.toList [120] = true
    · rw [if_pos hpre]
      have hno : ¬ unhexOk (trimPrefix s.data.toList [120]) := fun hok => by
        have h16 := hok.1
        rw [trim_x hpre, List.length_drop, hl] at h16
        exact hx ⟨by omega, (pre_x s).1 hpre⟩
      rw [if_neg hno]
      have hm : (120 : UInt8) ∈ s.data.toList := by
        cases h : s.data.toList with
        | nil => rw [h] at hpre; simp [hasPrefix] at hpre
        | cons c t =>
          rw [h] at hpre
          simp [hasPrefix] at hpre
          simp [hpre]
      have hb := numP_of (numSpec_badByte s.data.toList 120 (by decide) (by decide) hm)
      rw [hve] at hb
      have he1 : e = 1 := congrArg Prod.snd hb
      rw [if_pos (.inl (by omega))]
    · rw [if_neg hpre]
      by_cases he0 : e = 0
      · have h15' := h15 he0
        by_cases hn : 15 < (trimPrefix s.data.toList [45]).length
        · rw [if_pos (.inr hn), if_pos (.inr (h15'.1 hn))]
        · rw [if_neg (by simp [he0]; omega), if_neg (by rintro (h | h); exact h he0; exact hn (h15'.2 h))]
      · rw [if_pos (.inl he0), if_pos (.inl he0)]

end Go.Proofs.Ytiglfdefeaddmaa
