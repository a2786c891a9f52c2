/- What the laws' own answer's Parse returns. -/
import Derived.Test.YtiglfdefeaddmaaRefReal
import Derived.Test.YtiglfdefeaddmaaRefNum
import Derived.Test.YtiglfdefeaddmaaParse
namespace Go.Proofs.Ytiglfdefeaddmaa
open Go.RowKit Go.Lib

theorem tail_at (s : ByteArray) (i : Nat) (h1 : 1 ≤ i) (h : i < s.size) : ∃ hk : i - 1 < (s.data.toList.drop 1).length, (s.data.toList.drop 1)[i - 1] = s[i] := by
  have hl := list_len s
  refine ⟨by rw [List.length_drop]; omega, ?_⟩
  rw [List.getElem_drop]
  simp only [show 1 + (i - 1) = i by omega]
  rfl
/-- The words that Parse knows are none of these. -/
structure NoWord (s : ByteArray) : Prop where
  g1 : (s.toList == [110, 97, 110]) = false
  g2 : (s.toList == [105, 110, 102]) = false
  g3 : (s.toList == [45, 105, 110, 102]) = false
  g4 : (s.toList == [48]) = false
  g5 : (s.toList == [45, 48]) = false

set_option maxHeartbeats 4000000 in
theorem refParse_x (s : ByteArray) (w : World) (hw : NoWord s) (hsz : s.size = 17) (hx : ∃ h : 0 < s.size, s[0].toNat = 120) :
    Calls Try.prog 29 #[.string s] w fun e w' => e = .returned (if unhexOk (s.data.toList.drop 1) then .tuple #[.float .f64 (can (hv (s.data.toList.drop 1))), .int .i64 0] else .tuple #[.float .f64 0, .int .i64 6]) ∧ w = w' := by
  obtain ⟨g1, g2, g3, g4, g5⟩ := hw
  obtain ⟨hp, hx⟩ := hx
  have hl : (s.data.toList.drop 1).length = 16 := by rw [List.length_drop, list_len]; omega
  have hszI : (s.size : Int) = 17 := by omega
  have HT := hid (fun i h1 h => tail_at s i h1 h)
  obtain ⟨t, ht⟩ : ∃ t, t = s.data.toList.drop 1 := ⟨_, rfl⟩
  rw [← ht] at hl ⊢
  have HT2 : Hid (∀ i (_ : 1 ≤ i) (h : i < s.size), ∃ hk : i - 1 < t.length, t[i - 1] = s[i]) := by rw [ht]; exact HT.out
  have Hl := hid hl
  clear HT ht hl
  go_enter Try.func29, Try.ntmps29
  go_wp2
  go_loop [4, 5] (fun bv iv => ∃ i : Nat, 1 ≤ i ∧ i ≤ 17 ∧ iv = .int .i64 i ∧ bv = .int .u64 (hv (t.take (i - 1))) ∧ ∀ c ∈ t.take (i - 1), isHex c = true) (fun _ iv => 17 - (RowKit.intOf iv).toNat)
  case atStart => exact ⟨1, Nat.le_refl _, by decide, rfl, rfl, by simp⟩
  case round =>
    obtain ⟨i, hi1, hi2, rfl, rfl, hall⟩ := hrel
    have Hall := hid hall; clear hall
    clear hx
    by_cases h17 : i < 17
    · have hI : (i : Int) < 17 := by omega
      have hI2 : (i : Int) < s.size := by omega
      have hI3 : i < s.size := by omega
      obtain ⟨hk, he⟩ := HT2.out i hi1 hI3
      have hV := hv_lt16 t (i - 1) (by omega)
      have hbad : Hid (hexV s[i].toNat < 0 → ¬ unhexOk t) := fun h hok => by
        have := hok.2 t[i - 1] (List.getElem_mem hk)
        rw [he] at this
        simp [isHex] at this
        omega
      have hgood : Hid (0 ≤ hexV s[i].toNat → (hv (t.take i) = hv (t.take (i - 1)) * 16 + (hexV s[i].toNat).toNat ∧ ∀ c ∈ t.take i, isHex c = true)) := fun h => by
        have h2 := hv_take t (i - 1) hk
        have h3 := hex_all t (i - 1) Hall.out hk (by rw [he]; simp [isHex]; exact h)
        rw [show i - 1 + 1 = i by omega] at h2 h3
        rw [he] at h2
        exact ⟨h2, h3⟩
      have hVI : (hv (t.take (i - 1)) : Int) < 1152921504606846976 := by omega
      have hV0 : (0 : Int) ≤ hv (t.take (i - 1)) := by omega
      clear hV he hk
      generalize hv (t.take (i - 1)) = V at *
      have hc := s[i].toNat_lt
      by_cases k1 : s[i].toNat < 48
      · have t1 : decide ((48 : Int) ≤ (s[i].toNat : Int)) = false := by simp; omega
        have t2 : decide ((s[i].toNat : Int) ≤ 57) = true := by simp; omega
        have t3 : decide ((97 : Int) ≤ (s[i].toNat : Int)) = false := by simp; omega
        have t4 : decide ((s[i].toNat : Int) ≤ 102) = true := by simp; omega
        have hh := hid (hbad.out (by unfold hexV; split <;> (try split) <;> omega))
        clear hbad hgood hc hVI hV0
        go_wp2
        go_ret2
        exact ⟨by first | rfl | (rw [if_neg hh.out]; rfl), rfl⟩
      by_cases k2 : s[i].toNat ≤ 57
      · have t1 : decide ((48 : Int) ≤ (s[i].toNat : Int)) = true := by simp; omega
        have t2 : decide ((s[i].toNat : Int) ≤ 57) = true := by simp; omega
        have t3 : decide ((97 : Int) ≤ (s[i].toNat : Int)) = false := by simp; omega
        have t4 : decide ((s[i].toNat : Int) ≤ 102) = true := by simp; omega
        have hh := hid (hgood.out (by unfold hexV; split <;> (try split) <;> omega))
        have hval : Hid (hexV s[i].toNat = (s[i].toNat : Int) - 48) := by unfold Hid hexV; split <;> (try split) <;> omega
        have hc2 : (s[i].toNat : Int) < 256 := by omega
        have hc3 : (48 : Int) ≤ (s[i].toNat : Int) := by omega
        have hc4 : (s[i].toNat : Int) ≤ 57 := by omega
        clear hbad hgood hc
        go_wp2
        go_round
        case rel => exact ⟨i + 1, by omega, by omega, by go_num, by rw [show i + 1 - 1 = i by omega, hh.out.1, hval.out]; congr 1; omega, by rw [show i + 1 - 1 = i by omega]; exact hh.out.2⟩
        case measure => simp [RowKit.intOf]; omega
      by_cases k3 : s[i].toNat < 97
      · have t1 : decide ((48 : Int) ≤ (s[i].toNat : Int)) = true := by simp; omega
        have t2 : decide ((s[i].toNat : Int) ≤ 57) = false := by simp; omega
        have t3 : decide ((97 : Int) ≤ (s[i].toNat : Int)) = false := by simp; omega
        have t4 : decide ((s[i].toNat : Int) ≤ 102) = true := by simp; omega
        have hh := hid (hbad.out (by unfold hexV; split <;> (try split) <;> omega))
        clear hbad hgood hc hVI hV0
        go_wp2
        go_ret2
        exact ⟨by first | rfl | (rw [if_neg hh.out]; rfl), rfl⟩
      by_cases k4 : s[i].toNat ≤ 102
      · have t1 : decide ((48 : Int) ≤ (s[i].toNat : Int)) = true := by simp; omega
        have t2 : decide ((s[i].toNat : Int) ≤ 57) = false := by simp; omega
        have t3 : decide ((97 : Int) ≤ (s[i].toNat : Int)) = true := by simp; omega
        have t4 : decide ((s[i].toNat : Int) ≤ 102) = true := by simp; omega
        have hh := hid (hgood.out (by unfold hexV; split <;> (try split) <;> omega))
        have hval : Hid (hexV s[i].toNat = (s[i].toNat : Int) - 87) := by unfold Hid hexV; split <;> (try split) <;> omega
        have hc2 : (s[i].toNat : Int) < 256 := by omega
        have hc3 : (97 : Int) ≤ (s[i].toNat : Int) := by omega
        have hc4 : (s[i].toNat : Int) ≤ 102 := by omega
        clear hbad hgood hc
        go_wp2
        go_round
        case rel => exact ⟨i + 1, by omega, by omega, by go_num, by rw [show i + 1 - 1 = i by omega, hh.out.1, hval.out]; congr 1; omega, by rw [show i + 1 - 1 = i by omega]; exact hh.out.2⟩
        case measure => simp [RowKit.intOf]; omega
      · have t1 : decide ((48 : Int) ≤ (s[i].toNat : Int)) = true := by simp; omega
        have t2 : decide ((s[i].toNat : Int) ≤ 57) = false := by simp; omega
        have t3 : decide ((97 : Int) ≤ (s[i].toNat : Int)) = true := by simp; omega
        have t4 : decide ((s[i].toNat : Int) ≤ 102) = false := by simp; omega
        have hh := hid (hbad.out (by unfold hexV; split <;> (try split) <;> omega))
        clear hbad hgood hc hVI hV0
        go_wp2
        go_ret2
        exact ⟨by first | rfl | (rw [if_neg hh.out]; rfl), rfl⟩
    · obtain rfl : i = 17 := by omega
      have hw : t.take (17 - 1) = t := List.take_of_length_le (by have := Hl.out; omega)
      rw [hw]
      have hok : unhexOk t := ⟨Hl.out, by have := Hall.out; rw [hw] at this; exact this⟩
      have hh := hid (if_pos hok : (if unhexOk t then Value.tuple #[.float .f64 (can (hv t)), .int .i64 0] else .tuple #[.float .f64 0, .int .i64 6]) = _)
      have C := hid (fun w => refOf_any (hv t) w (hv_word hok))
      have HK := hid hok
      clear hok hi1 hi2 h17 hw
      generalize hV : hv t = V at *
      have HV := hid hV
      clear hV
      go_wp2_with (go_at_call 17; refine (C.out _).mono ?_; rintro e w' ⟨rfl, rfl⟩)
      go_ret2
      all_goals first | exact ⟨by first | rfl | (rw [HV.out]; rfl) | (rw [hh.out]; rfl), rfl⟩ | exact absurd HK.out (by assumption)

theorem dv_ge_aux : ∀ (l : List UInt8) (a : Nat), a * 10 ^ l.length ≤ l.foldl (fun v c => v * 10 + (c.toNat - 48)) a
  | [], a => by simp
  | c :: l, a => by
    have h := dv_ge_aux l (a * 10 + (c.toNat - 48))
    simp only [List.foldl_cons, List.length_cons]
    refine Nat.le_trans ?_ h
    rw [Nat.pow_succ, Nat.mul_comm (10 ^ l.length) 10, ← Nat.mul_assoc]
    exact Nat.mul_le_mul_right _ (by omega)
theorem dv_ge (l : List UInt8) (hd : ∀ c ∈ l, isDig c = true) (h0 : l.head? ≠ some 48) (h1 : l ≠ []) : 10 ^ (l.length - 1) ≤ dv l := by
  cases l with
  | nil => exact absurd rfl h1
  | cons c t =>
    have h := dv_ge_aux t (0 * 10 + (c.toNat - 48))
    have hc := hd c (by simp)
    simp [isDig] at hc
    have hne : c.toNat ≠ 48 := fun e => h0 (by rw [List.head?_cons]; congr 1; exact UInt8.toNat_inj.1 e)
    have : 10 ^ t.length ≤ (0 * 10 + (c.toNat - 48)) * 10 ^ t.length := Nat.le_mul_of_pos_left _ (by omega)
    show 10 ^ t.length ≤ _
    exact Nat.le_trans this h
/-- Of what Number reads the ints of at most 15 digits are those below a thousand times a thousand thousand thousand thousand. -/
theorem num15 (l : List UInt8) (h : (numP l).2 = 0) : (15 < (trimPrefix l [45]).length ↔ ((numP l).1 ≤ -1000000000000000 ∨ 1000000000000000 ≤ (numP l).1)) := by
  unfold numP at h ⊢
  split
  · rename_i h1; rw [if_pos h1] at h; simp at h
  · rename_i h1
    rw [if_neg h1] at h
    split
    · rename_i h2
      have hd := dv_lt _ h2
      have e15 : (10 : Nat) ^ 15 = 1000000000000000 := by decide
      have key : 15 < (trimPrefix l [45]).length ↔ 1000000000000000 ≤ dv (trimPrefix l [45]) := by
        constructor
        · intro h3
          have hne : trimPrefix l [45] ≠ [] := fun e => by rw [e] at h3; simp at h3
          have hh : (trimPrefix l [45]).head? ≠ some 48 := fun e => h1 (.inr (.inr ⟨e, fun e2 => by rw [e2] at h3; revert h3; decide⟩))
          have h4 := dv_ge _ h2 hh hne
          have h5 : 10 ^ 15 ≤ 10 ^ ((trimPrefix l [45]).length - 1) := Nat.pow_le_pow_right (by decide) (by omega)
          omega
        · intro h3
          rcases Nat.lt_or_ge 15 (trimPrefix l [45]).length with h4 | h4
          · exact h4
          · have h5 : 10 ^ (trimPrefix l [45]).length ≤ 10 ^ 15 := Nat.pow_le_pow_right (by decide) h4
            omega
      rw [key]
      simp only []
      split <;> omega
    · rename_i h2; rw [if_neg h2] at h; simp at h

set_option maxHeartbeats 4000000 in
theorem refParse_num (s : ByteArray) (w : World) (hw : NoWord s) (v e : Int) (n : Nat) (hv : numP s.data.toList = (v, e)) (hle : (s.size : Int) ≤ 100000)
    (hA : ((s.size : Int) == 17) = false ∨ (((s.size : Int) == 17) = true ∧ ∃ h : 0 < s.size, ((s[0].toNat : Int) == 120) = false))
    (hB : (s.size = 0 ∧ n = 0) ∨ (∃ h : 0 < s.size, ((s[0].toNat : Int) == 45) = true ∧ s.size = n + 1) ∨ (∃ h : 0 < s.size, ((s[0].toNat : Int) == 45) = false ∧ s.size = n)) :
    Calls Try.prog 29 #[.string s] w fun e' w' => e' = .returned (if e ≠ 0 ∨ 15 < n then .tuple #[.float .f64 0, .int .i64 6] else .tuple #[.float .f64 (fl v), .int .i64 0]) ∧ w = w' := by
  obtain ⟨g1, g2, g3, g4, g5⟩ := hw
  have C := hid (refNumber_any s w)
  rw [numSpec_eq, hv] at C
  simp only [] at C
  clear hv
  have key : ∀ (R : Value), ((e != 0) = true ∧ R = .tuple #[.float .f64 0, .int .i64 6]) ∨ (e = 0 ∧ decide (15 < n) = true ∧ R = .tuple #[.float .f64 0, .int .i64 6]) ∨ (e = 0 ∧ decide (15 < n) = false ∧ R = .tuple #[.float .f64 (fl v), .int .i64 0]) →
      Calls Try.prog 29 #[.string s] w fun e' w' => e' = .returned R ∧ w = w' := by
    intro R hR
    have hF : Hid (fl v = floatOfInt .f64 v) := rfl
    have hcv : ∀ w, (convert 3 30 (.int .i64 v)).run Try.prog w = .ok (.float .f64 (fl v)) w := fun w => run_convert_int_float w _ _ _ _ _ (by kernel_rfl) (by kernel_rfl)
    clear hF
    rcases hB with ⟨b1, b2⟩ | ⟨b0, b1, b2⟩ | ⟨b0, b1, b2⟩
    · obtain rfl : s = ⟨#[]⟩ := ByteArray.ext (Array.eq_empty_of_size_eq_zero b1)
      subst b2
      clear hA b1 g1 g2 g3 g4 g5
      rcases hR with ⟨r1, rfl⟩ | ⟨rfl, r1, rfl⟩ | ⟨rfl, r1, rfl⟩
      · go_enter Try.func29, Try.ntmps29
        go_wp2_with (go_at_call 41; refine C.out.mono ?_; rintro e' w' ⟨rfl, rfl⟩)
        go_ret2
        exact ⟨rfl, rfl⟩
      · simp at r1
      · clear r1
        go_enter Try.func29, Try.ntmps29
        go_wp2_with (go_at_call 41; refine C.out.mono ?_; rintro e' w' ⟨rfl, rfl⟩)
        go_ret2
        exact ⟨rfl, rfl⟩
    · have hN : decide ((15 : Int) < (s.size : Int) - 1) = decide (15 < n) := by rw [decide_eq_decide]; omega
      have hz : (0 : Int) < (s.size : Int) := by omega
      clear b2
      rcases hA with hA | ⟨hA, _, hA2⟩
      all_goals
        rcases hR with ⟨r1, rfl⟩ | ⟨rfl, r1, rfl⟩ | ⟨rfl, r1, rfl⟩
        · clear hN
          go_enter Try.func29, Try.ntmps29
          go_wp2_with (go_at_call 41; refine C.out.mono ?_; rintro e' w' ⟨rfl, rfl⟩)
          go_ret2
          exact ⟨rfl, rfl⟩
        · rw [r1] at hN
          clear r1
          go_enter Try.func29, Try.ntmps29
          go_wp2_with (go_at_call 41; refine C.out.mono ?_; rintro e' w' ⟨rfl, rfl⟩)
          go_ret2
          exact ⟨rfl, rfl⟩
        · rw [r1] at hN
          clear r1
          go_enter Try.func29, Try.ntmps29
          go_wp2_with (go_at_call 41; refine C.out.mono ?_; rintro e' w' ⟨rfl, rfl⟩)
          go_ret2
          exact ⟨rfl, rfl⟩
    · have hN : decide ((15 : Int) < (s.size : Int)) = decide (15 < n) := by rw [decide_eq_decide]; omega
      have hz : (0 : Int) < (s.size : Int) := by omega
      clear b2
      rcases hA with hA | ⟨hA, _, hA2⟩
      all_goals
        rcases hR with ⟨r1, rfl⟩ | ⟨rfl, r1, rfl⟩ | ⟨rfl, r1, rfl⟩
        · clear hN
          go_enter Try.func29, Try.ntmps29
          go_wp2_with (go_at_call 41; refine C.out.mono ?_; rintro e' w' ⟨rfl, rfl⟩)
          go_ret2
          exact ⟨rfl, rfl⟩
        · rw [r1] at hN
          clear r1
          go_enter Try.func29, Try.ntmps29
          go_wp2_with (go_at_call 41; refine C.out.mono ?_; rintro e' w' ⟨rfl, rfl⟩)
          go_ret2
          exact ⟨rfl, rfl⟩
        · rw [r1] at hN
          clear r1
          go_enter Try.func29, Try.ntmps29
          go_wp2_with (go_at_call 41; refine C.out.mono ?_; rintro e' w' ⟨rfl, rfl⟩)
          go_ret2
          exact ⟨rfl, rfl⟩
  refine key _ ?_
  by_cases h1 : e = 0
  · by_cases h2 : 15 < n
    · exact .inr (.inl ⟨h1, by simpa using h2, if_pos (.inr h2)⟩)
    · exact .inr (.inr ⟨h1, by simpa using h2, if_neg (by simp [h1]; omega)⟩)
  · exact .inl ⟨by simpa using h1, if_pos (.inl h1)⟩
end Go.Proofs.Ytiglfdefeaddmaa
