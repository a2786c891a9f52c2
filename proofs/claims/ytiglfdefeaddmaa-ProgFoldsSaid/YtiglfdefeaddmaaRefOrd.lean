/- The laws' own order: rank, Less, Canon, Least, Most. -/
import Derived.Test.YtiglfdefeaddmaaMost
import Derived.Test.YtiglfdefeaddmaaRefReal
namespace Go.Proofs.Ytiglfdefeaddmaa
open Go.RowKit Go.Lib

def rrank (b : Nat) : Nat := if isNan b = true then 18446744073709551615 else rank b
theorem rank_num {b : Nat} (hb : Wd b) (h : isNan b = false) : rank b < 18444492273895866368 := by
  unfold rank
  rw [can_num h]
  unfold isNan rung at h
  simp only [decide_eq_false_iff_not] at h
  have := hb.lt
  split <;> omega
theorem rank_nan {b : Nat} (h : isNan b = true) : rank b = 18444492273895866368 := by
  unfold rank
  rw [can_nan h]; decide
theorem rrank_lt {a b : Nat} (ha : Wd a) (hb : Wd b) : (rrank a < rrank b) ↔ (rank a < rank b) := by
  unfold rrank
  by_cases na : isNan a = true
  · by_cases nb : isNan b = true
    · rw [if_pos na, if_pos nb, rank_nan na, rank_nan nb]; omega
    · have := rank_num hb (isNan_false b nb)
      rw [if_pos na, if_neg nb, rank_nan na]; omega
  · have h1 := rank_num ha (isNan_false a na)
    by_cases nb : isNan b = true
    · rw [if_neg na, if_pos nb, rank_nan nb]; omega
    · rw [if_neg na, if_neg nb]

theorem refRank_any (b : Nat) (w : World) (hb : Wd b) :
    Calls Try.prog 38 #[.float .f64 b] w fun e w' => e = .returned (.int .u64 (rrank b)) ∧ w = w' := by
  have hn := nan_order hb.lt
  have C := hid (refBits_any b w hb)
  by_cases h : isNan b = true
  · rw [h] at hn
    have hr := hid (show rrank b = 18446744073709551615 by unfold rrank; rw [if_pos h])
    clear h
    go_enter Try.func38, Try.ntmps38
    go_wp2_with (go_at_call 32; refine C.out.mono ?_; rintro e w' ⟨rfl, rfl⟩)
    go_ret
    exact ⟨by rw [hr.out]; rfl, rfl⟩
  · have h2 := isNan_false b h
    rw [h2] at hn
    rw [can_num h2] at C
    have hr : rrank b = if 9223372036854775808 ≤ b then 18446744073709551615 - b else b + 9223372036854775808 := by
      unfold rrank rank
      rw [if_neg h, can_num h2]
    have hlt := hb.lt
    by_cases hm : 9223372036854775808 ≤ b
    · rw [if_pos hm] at hr
      have hs : ((b : Int) / 9223372036854775808 == 1) = true := by rw [beq_iff_eq]; omega
      have hr2 : Hid ((18446744073709551615 - b : Int) = ((rrank b : Nat) : Int)) := by unfold Hid; rw [hr]; omega
      have i1 : (b : Int) ≤ 18446744073709551615 := by omega
      have i2 : (9223372036854775808 : Int) ≤ b := by omega
      clear h h2 hr hb hlt hm
      generalize rrank b = r at *
      go_enter Try.func38, Try.ntmps38
      go_wp2_with (go_at_call 32; refine C.out.mono ?_; rintro e w' ⟨rfl, rfl⟩)
      go_ret
      exact ⟨by rw [← hr2.out]; rfl, rfl⟩
    · rw [if_neg hm] at hr
      have hs : ((b : Int) / 9223372036854775808 == 1) = false := by
        rw [Bool.eq_false_iff]; intro e; rw [beq_iff_eq] at e; omega
      have hor : bits .or .u64 (b : Int) 9223372036854775808 = ((rrank b : Nat) : Int) := by
        rw [hr]
        have := bits_or b 9223372036854775808 hlt (by decide)
        rw [or_top b (by omega)] at this
        exact this
      clear h h2 hr hb hlt hm
      generalize rrank b = r at *
      go_enter Try.func38, Try.ntmps38
      go_wp2_with (go_at_call 32; refine C.out.mono ?_; rintro e w' ⟨rfl, rfl⟩)
      go_ret
      exact ⟨rfl, rfl⟩
theorem refLess_any (a b : Nat) (w : World) (ha : Wd a) (hb : Wd b) :
    Calls Try.prog 20 #[.float .f64 a, .float .f64 b] w fun e w' => e = .returned (.bool (decide (rank a < rank b))) ∧ w = w' := by
  have h := hid (show decide (rrank a < rrank b) = decide (rank a < rank b) from decide_eq_decide.2 (rrank_lt ha hb))
  go_enter Try.func20, Try.ntmps20
  go_wp2_with (go_at_call 38; refine (refRank_any _ _ (by assumption)).mono ?_; rintro e w' ⟨rfl, rfl⟩)
  go_ret
  exact ⟨by rw [← h.out]; rfl, rfl⟩
theorem refCanon_any (b : Nat) (w : World) (hb : Wd b) :
    Calls Try.prog 30 #[.float .f64 b] w fun e w' => e = .returned (.float .f64 (can b)) ∧ w = w' := by
  have C := hid (refBits_any b w hb)
  have D := hid (refOf_any (can b) w hb.can)
  rw [can_can] at D
  clear hb
  generalize can b = c at *
  go_enter Try.func30, Try.ntmps30
  go_wp2_with (first | (go_at_call 32; refine C.out.mono ?_; rintro e w' ⟨rfl, rfl⟩) | (go_at_call 17; refine D.out.mono ?_; rintro e w' ⟨rfl, rfl⟩))
  go_ret
  exact ⟨rfl, rfl⟩
theorem refLessL (a b : Nat) (w : World) (ha : Wd a) (hb : Wd b) :
    Calls Try.prog 20 #[.float .f64 a, .float .f64 b] w fun e w' => e = .returned (.bool (aheadL a b)) ∧ w = w' := refLess_any a b w ha hb
theorem refLessM (a b : Nat) (w : World) (ha : Wd a) (hb : Wd b) :
    Calls Try.prog 20 #[.float .f64 a, .float .f64 b] w fun e w' => e = .returned (.bool (aheadM b a)) ∧ w = w' := refLess_any a b w ha hb

set_option maxHeartbeats 1000000 in
theorem refLeast_any (x : Option Addr) (cap : Nat) (a : Nat) (t : List Nat) (w : World) (hlen : t.length ≤ 1000000) (hc : Flts w x (a :: t)) :
    Calls Try.prog 21 #[.slice x (t.length + 1) cap] w fun e w' => e = .returned (.float .f64 (leastOf (a :: t))) ∧ w = w' := by
  obtain ⟨b, off, rfl, h0, hwa⟩ := hc 0 (by simp)
  have HC : Hid (∀ i (h : i < t.length), w.cell? ⟨b, off + (i + 1), none⟩ = some (.float .f64 t[i]) ∧ Wd t[i]) := fun i hi => by
    obtain ⟨b', off', e, h1, h2⟩ := hc (i + 1) (by simp; omega)
    simp at e
    obtain ⟨rfl, rfl⟩ := e
    exact ⟨h1, h2⟩
  simp only [List.getElem_cons_zero, Nat.add_zero] at h0 hwa
  clear hc
  have hz : ((t.length : Int) + 1 == 0) = false := by simp; omega
  have hall : Hid (∀ x ∈ t, Wd x) := fun y hy => by
    obtain ⟨i, hi, rfl⟩ := List.getElem_of_mem hy
    exact (HC.out i hi).2
  go_enter Try.func21, Try.ntmps21
  go_wp2
  go_loop [3, 4] (fun sv iv => ∃ k : Nat, k ≤ t.length ∧ iv = .int .i64 (k + 1) ∧ sv = .float .f64 ((t.take k).foldl (pickB aheadL) a)) (fun _ iv => t.length + 1 - (RowKit.intOf iv).toNat)
  case atStart => exact ⟨0, Nat.zero_le _, rfl, rfl⟩
  case round =>
    obtain ⟨k, hk, rfl, rfl⟩ := hrel
    have hs := pick_wd aheadL (t.take k) a hwa (fun x hx => hall.out x (List.mem_of_mem_take hx))
    by_cases hlt : k < t.length
    · obtain ⟨c0, c1⟩ := HC.out k hlt
      have hn := pick_take aheadL t a k hlt
      generalize t[k] = f at *
      generalize (t.take k).foldl (pickB aheadL) a = m at *
      have hl2 : decide (k < t.length) = true := by simpa using hlt
      have hl3 : decide ((k : Int) + 1 < (t.length : Int) + 1) = true := by simp; omega
      cases hb : aheadL f m
      all_goals
        have Hn := hid hn
        clear hn
        go_wp2_with (go_at_call 20; refine (refLessL _ _ _ (by assumption) (by assumption)).mono ?_; rintro e w' ⟨rfl, rfl⟩)
        go_round
        case rel => exact ⟨k + 1, by omega, by go_num, by rw [Hn.out]; simp [pickB, hb]⟩
        case measure => simp [RowKit.intOf]; omega
    · obtain rfl : k = t.length := by omega
      rw [List.take_of_length_le (Nat.le_refl _)] at *
      have Hn : Hid (can (t.foldl (pickB aheadL) a) = leastOf (a :: t)) := rfl
      generalize t.foldl (pickB aheadL) a = m at *
      go_wp2_with (go_at_call 30; refine (refCanon_any _ _ (by assumption)).mono ?_; rintro e w' ⟨rfl, rfl⟩)
      go_ret
      exact ⟨by rw [← Hn.out]; rfl, rfl⟩

set_option maxHeartbeats 1000000 in
theorem refMost_any (x : Option Addr) (cap : Nat) (a : Nat) (t : List Nat) (w : World) (hlen : t.length ≤ 1000000) (hc : Flts w x (a :: t)) :
    Calls Try.prog 22 #[.slice x (t.length + 1) cap] w fun e w' => e = .returned (.float .f64 (mostOf (a :: t))) ∧ w = w' := by
  obtain ⟨b, off, rfl, h0, hwa⟩ := hc 0 (by simp)
  have HC : Hid (∀ i (h : i < t.length), w.cell? ⟨b, off + (i + 1), none⟩ = some (.float .f64 t[i]) ∧ Wd t[i]) := fun i hi => by
    obtain ⟨b', off', e, h1, h2⟩ := hc (i + 1) (by simp; omega)
    simp at e
    obtain ⟨rfl, rfl⟩ := e
    exact ⟨h1, h2⟩
  simp only [List.getElem_cons_zero, Nat.add_zero] at h0 hwa
  clear hc
  have hz : ((t.length : Int) + 1 == 0) = false := by simp; omega
  have hall : Hid (∀ x ∈ t, Wd x) := fun y hy => by
    obtain ⟨i, hi, rfl⟩ := List.getElem_of_mem hy
    exact (HC.out i hi).2
  go_enter Try.func22, Try.ntmps22
  go_wp2
  go_loop [3, 4] (fun sv iv => ∃ k : Nat, k ≤ t.length ∧ iv = .int .i64 (k + 1) ∧ sv = .float .f64 ((t.take k).foldl (pickB aheadM) a)) (fun _ iv => t.length + 1 - (RowKit.intOf iv).toNat)
  case atStart => exact ⟨0, Nat.zero_le _, rfl, rfl⟩
  case round =>
    obtain ⟨k, hk, rfl, rfl⟩ := hrel
    have hs := pick_wd aheadM (t.take k) a hwa (fun x hx => hall.out x (List.mem_of_mem_take hx))
    by_cases hlt : k < t.length
    · obtain ⟨c0, c1⟩ := HC.out k hlt
      have hn := pick_take aheadM t a k hlt
      generalize t[k] = f at *
      generalize (t.take k).foldl (pickB aheadM) a = m at *
      have hl2 : decide (k < t.length) = true := by simpa using hlt
      have hl3 : decide ((k : Int) + 1 < (t.length : Int) + 1) = true := by simp; omega
      cases hb : aheadM f m
      all_goals
        have Hn := hid hn
        clear hn
        go_wp2_with (go_at_call 20; refine (refLessM _ _ _ (by assumption) (by assumption)).mono ?_; rintro e w' ⟨rfl, rfl⟩)
        go_round
        case rel => exact ⟨k + 1, by omega, by go_num, by rw [Hn.out]; simp [pickB, hb]⟩
        case measure => simp [RowKit.intOf]; omega
    · obtain rfl : k = t.length := by omega
      rw [List.take_of_length_le (Nat.le_refl _)] at *
      have Hn : Hid (can (t.foldl (pickB aheadM) a) = mostOf (a :: t)) := rfl
      generalize t.foldl (pickB aheadM) a = m at *
      go_wp2_with (go_at_call 30; refine (refCanon_any _ _ (by assumption)).mono ?_; rintro e w' ⟨rfl, rfl⟩)
      go_ret
      exact ⟨by rw [← Hn.out]; rfl, rfl⟩
end Go.Proofs.Ytiglfdefeaddmaa
