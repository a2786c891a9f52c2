/- MetaBounds, walked. -/
import Derived.Test.YtepbflcmghkieaaDoorWr15
namespace Go.Proofs.YtepbflcmghkieaaDoor
open Go.RowKit Go.Lib
set_option maxRecDepth 100000

def wantV (count : Int) (n : Nat) : Int := if 0 < count then max ((n : Int) - count) 0 else 0
def oldV (age now : Int) (l : List Int) : Int := if 0 < age then (firstY age now l : Int) else 0
theorem bnd_count (count now : Int) (l : List Int) : floorV (count, 0, 0) 0 now l = wantV count l.length := by
  unfold floorV wantV
  dsimp only
  split <;> omega
theorem bnd_age (age now : Int) (l : List Int) : floorV (0, age, 0) 0 now l = oldV age now l := by
  have := firstY_le age now l
  unfold floorV oldV
  dsimp only
  split <;> omega
theorem bnd_before (bf now : Int) (l : List Int) (h : 0 ≤ bf) : floorV (0, 0, bf) 0 now l = min bf l.length := by
  unfold floorV
  dsimp only
  omega
theorem bnd_all (count age bf now : Int) (l : List Int) (h : 0 ≤ bf) : floorV (count, age, bf) 0 now l = max (max (wantV count l.length) (oldV age now l)) (min bf l.length) := by
  have := firstY_le age now l
  unfold floorV wantV oldV
  dsimp only
  split <;> split <;> omega
theorem bnd_none (now : Int) (l : List Int) : floorV (0, 0, 0) 0 now l = 0 := by
  unfold floorV
  dsimp only
  omega
/-- Times that rise. -/
theorem rising {l : List Int} (h : ∀ (j : Nat) (h0 : 0 < j) (hj : j < l.length), l[j - 1]'(by omega) ≤ l[j]) : ∀ (i j : Nat) (hi : i ≤ j) (hj : j < l.length), l[i]'(by omega) ≤ l[j]
  | i, 0, hi, hj => by
    obtain rfl : i = 0 := by omega
    exact Int.le_refl _
  | i, j + 1, hi, hj => by
    by_cases he : i = j + 1
    · subst he; exact Int.le_refl _
    · have h1 := rising h i j (by omega) (by omega)
      have h2 := h (j + 1) (by omega) hj
      simp only [Nat.add_sub_cancel] at h2
      omega
theorem firstY_at {age now : Int} : ∀ {l : List Int} (h : firstY age now l < l.length), yng age now (l[firstY age now l]) = true
  | [], h => by simp at h
  | t :: l, h => by
    cases ht : yng age now t
    · have e : firstY age now (t :: l) = firstY age now l + 1 := by
        unfold firstY
        rw [List.takeWhile_cons, ht]
        simp
      have h2 : firstY age now l < l.length := by rw [e] at h; simpa using h
      have := firstY_at h2
      simp only [e, List.getElem_cons_succ]
      exact this
    · have e : firstY age now (t :: l) = 0 := by
        unfold firstY
        rw [List.takeWhile_cons, ht]
        simp
      simp only [e, List.getElem_cons_zero]
      exact ht
theorem firstY_below {age now : Int} : ∀ {l : List Int} {k : Nat} (hk : k < firstY age now l) (h : k < l.length), yng age now l[k] = false
  | [], k, _, h => by simp at h
  | t :: l, 0, hk, _ => by
    cases ht : yng age now t
    · exact ht
    · exfalso
      unfold firstY at hk
      rw [List.takeWhile_cons, ht] at hk
      simp at hk
  | t :: l, k + 1, hk, h => by
    cases ht : yng age now t
    · have e : firstY age now (t :: l) = firstY age now l + 1 := by
        unfold firstY
        rw [List.takeWhile_cons, ht]
        simp
      exact firstY_below (l := l) (k := k) (by omega) (by simpa using h)
    · exfalso
      unfold firstY at hk
      rw [List.takeWhile_cons, ht] at hk
      simp at hk
/-- How many are old, up to the k-th. -/
theorem old_step {age now : Int} {l : List Int} (hr : ∀ (j : Nat) (h0 : 0 < j) (hj : j < l.length), l[j - 1]'(by omega) ≤ l[j]) {k : Nat} (h : k < l.length) : decide (age ≤ now - l[k]) = decide (k < firstY age now l) := by
  rw [Bool.eq_iff_iff, decide_eq_true_eq, decide_eq_true_eq]
  constructor
  · intro h1
    by_cases hk : k < firstY age now l
    · exact hk
    · exfalso
      have h2 := firstY_at (age := age) (now := now) (l := l) (by omega)
      have h3 := rising hr (firstY age now l) k (by omega) h
      unfold yng at h2
      rw [decide_eq_true_eq] at h2
      omega
  · intro h1
    have h2 := firstY_below h1 h
    unfold yng at h2
    rw [decide_eq_false_iff_not] at h2
    omega
def guardB (count age before now : Int) (k : Nat) : Prop := count < 0 ∨ 1099511627776 < count ∨ age < 0 ∨ 1099511627776 < age ∨ before < 0 ∨ 1099511627776 < before ∨ now < 0 ∨ 1099511627776 < now ∨ 40 < (k : Int)
set_option maxHeartbeats 8000000 in
theorem bounds_early (count age before now : Int) (x : Option Addr) (c : Nat) (l : List Int) (W : World) (htab : Tab W) (hlen : l.length ≤ 9223372036854775807) (h : guardB count age before now l.length) :
    Calls Tryd.prog 5 #[.int .i64 count, .int .i64 age, .int .i64 before, .int .i64 now, .slice x l.length c] W fun e W' => e = .returned (.bool true) ∧ Touch [] W W' := by
  have CA := hid fun w (t : Touch [] W w) => alive15_true w (htab.touch t)
  clear htab
  by_cases g0 : count < 0
  · have d0 : decide (count < 0) = true := by rw [decide_eq_true_eq]; omega
    clear h g0
    go_enter Tryd.func5, Tryd.ntmps5
    go_wp2_with fail
    refine (CA.out _ (Touch.refl [] W)).mono ?_
    rintro e w1 ⟨rfl, t1⟩
    have T1 := hid t1
    clear t1
    go_wp2
    go_ret
    exact ⟨rfl, T1.out⟩
  · have d0 : decide (count < 0) = false := by rw [decide_eq_false_iff_not]; exact g0
    by_cases g1 : 1099511627776 < count
    · have d1 : decide (1099511627776 < count) = true := by rw [decide_eq_true_eq]; omega
      clear h g1
      go_enter Tryd.func5, Tryd.ntmps5
      go_wp2_with fail
      refine (CA.out _ (Touch.refl [] W)).mono ?_
      rintro e w1 ⟨rfl, t1⟩
      have T1 := hid t1
      clear t1
      go_wp2
      go_ret
      exact ⟨rfl, T1.out⟩
    · have d1 : decide (1099511627776 < count) = false := by rw [decide_eq_false_iff_not]; exact g1
      by_cases g2 : age < 0
      · have d2 : decide (age < 0) = true := by rw [decide_eq_true_eq]; omega
        clear h g2
        go_enter Tryd.func5, Tryd.ntmps5
        go_wp2_with fail
        refine (CA.out _ (Touch.refl [] W)).mono ?_
        rintro e w1 ⟨rfl, t1⟩
        have T1 := hid t1
        clear t1
        go_wp2
        go_ret
        exact ⟨rfl, T1.out⟩
      · have d2 : decide (age < 0) = false := by rw [decide_eq_false_iff_not]; exact g2
        by_cases g3 : 1099511627776 < age
        · have d3 : decide (1099511627776 < age) = true := by rw [decide_eq_true_eq]; omega
          clear h g3
          go_enter Tryd.func5, Tryd.ntmps5
          go_wp2_with fail
          refine (CA.out _ (Touch.refl [] W)).mono ?_
          rintro e w1 ⟨rfl, t1⟩
          have T1 := hid t1
          clear t1
          go_wp2
          go_ret
          exact ⟨rfl, T1.out⟩
        · have d3 : decide (1099511627776 < age) = false := by rw [decide_eq_false_iff_not]; exact g3
          by_cases g4 : before < 0
          · have d4 : decide (before < 0) = true := by rw [decide_eq_true_eq]; omega
            clear h g4
            go_enter Tryd.func5, Tryd.ntmps5
            go_wp2_with fail
            refine (CA.out _ (Touch.refl [] W)).mono ?_
            rintro e w1 ⟨rfl, t1⟩
            have T1 := hid t1
            clear t1
            go_wp2
            go_ret
            exact ⟨rfl, T1.out⟩
          · have d4 : decide (before < 0) = false := by rw [decide_eq_false_iff_not]; exact g4
            by_cases g5 : 1099511627776 < before
            · have d5 : decide (1099511627776 < before) = true := by rw [decide_eq_true_eq]; omega
              clear h g5
              go_enter Tryd.func5, Tryd.ntmps5
              go_wp2_with fail
              refine (CA.out _ (Touch.refl [] W)).mono ?_
              rintro e w1 ⟨rfl, t1⟩
              have T1 := hid t1
              clear t1
              go_wp2
              go_ret
              exact ⟨rfl, T1.out⟩
            · have d5 : decide (1099511627776 < before) = false := by rw [decide_eq_false_iff_not]; exact g5
              by_cases g6 : now < 0
              · have d6 : decide (now < 0) = true := by rw [decide_eq_true_eq]; omega
                clear h g6
                go_enter Tryd.func5, Tryd.ntmps5
                go_wp2_with fail
                refine (CA.out _ (Touch.refl [] W)).mono ?_
                rintro e w1 ⟨rfl, t1⟩
                have T1 := hid t1
                clear t1
                go_wp2
                go_ret
                exact ⟨rfl, T1.out⟩
              · have d6 : decide (now < 0) = false := by rw [decide_eq_false_iff_not]; exact g6
                by_cases g7 : 1099511627776 < now
                · have d7 : decide (1099511627776 < now) = true := by rw [decide_eq_true_eq]; omega
                  clear h g7
                  go_enter Tryd.func5, Tryd.ntmps5
                  go_wp2_with fail
                  refine (CA.out _ (Touch.refl [] W)).mono ?_
                  rintro e w1 ⟨rfl, t1⟩
                  have T1 := hid t1
                  clear t1
                  go_wp2
                  go_ret
                  exact ⟨rfl, T1.out⟩
                · have d7 : decide (1099511627776 < now) = false := by rw [decide_eq_false_iff_not]; exact g7
                  have g8 : 40 < (l.length : Int) := by
                    unfold guardB at h
                    omega
                  have d8 : decide (40 < l.length) = true := by rw [decide_eq_true_eq]; omega
                  have d99 : decide ((40 : Int) < (l.length : Int)) = true := by rw [decide_eq_true_eq]; omega
                  clear h g8
                  go_enter Tryd.func5, Tryd.ntmps5
                  go_wp2_with fail
                  refine (CA.out _ (Touch.refl [] W)).mono ?_
                  rintro e w1 ⟨rfl, t1⟩
                  have T1 := hid t1
                  clear t1
                  go_wp2
                  go_ret
                  exact ⟨rfl, T1.out⟩
set_option maxHeartbeats 8000000 in
theorem bounds_main (count age before now : Int) (x : Option Addr) (c : Nat) (l : List Int) (W : World) (htab : Tab W) (hx : IntX W x l) (hw : Wl l) (h : ¬ guardB count age before now l.length) :
    Calls Tryd.prog 5 #[.int .i64 count, .int .i64 age, .int .i64 before, .int .i64 now, .slice x l.length c] W fun e W' => e = .returned (.bool true) ∧ Touch [] W W' := by
  have hg : 0 ≤ count ∧ count ≤ 1099511627776 ∧ 0 ≤ age ∧ age ≤ 1099511627776 ∧ 0 ≤ before ∧ before ≤ 1099511627776 ∧ 0 ≤ now ∧ now ≤ 1099511627776 ∧ l.length ≤ 40 := by
    unfold guardB at h
    omega
  obtain ⟨g0, g1, g2, g3, g4, g5, g6, g7, g8⟩ := hg
  clear h
  have CA := hid fun w (t : Touch [] W w) => alive15_true w (htab.touch t)
  have CF : Hid (∀ (k : MetaD), k.1 ≤ 1099511627776 → k.2.1 ≤ 1099511627776 → ∀ w, Touch [] W w → Calls Tryd.prog 13 #[.agg #[.int .i64 k.1, .int .i64 k.2.1, .int .i64 k.2.2], .int .i64 0, .int .i64 now, .slice x l.length c] w fun e w' => e = .returned (.int .i64 (floorV k 0 now l)) ∧ Touch [] w w') := hid fun k h1 h2 w t => floor_any k 0 now x c l w (hx.t0 t) (by omega) hw (by decide) (by decide) (by omega) (by omega) (by omega) (by omega)
  have C1 : Hid (∀ w, Touch [] W w → Calls Tryd.prog 13 #[.agg #[.int .i64 count, .int .i64 0, .int .i64 0], .int .i64 0, .int .i64 now, .slice x l.length c] w fun e w' => e = .returned (.int .i64 (wantV count l.length)) ∧ Touch [] w w') := hid fun w t => by
    have := CF.out (count, 0, 0) g1 (Int.le_of_lt (show (0 : Int) < 1099511627776 by decide)) w t
    rwa [bnd_count] at this
  have C2 : Hid (∀ w, Touch [] W w → Calls Tryd.prog 13 #[.agg #[.int .i64 0, .int .i64 age, .int .i64 0], .int .i64 0, .int .i64 now, .slice x l.length c] w fun e w' => e = .returned (.int .i64 (oldV age now l)) ∧ Touch [] w w') := hid fun w t => by
    have := CF.out (0, age, 0) (Int.le_of_lt (show (0 : Int) < 1099511627776 by decide)) g3 w t
    rwa [bnd_age] at this
  have C3 : Hid (∀ w, Touch [] W w → Calls Tryd.prog 13 #[.agg #[.int .i64 0, .int .i64 0, .int .i64 before], .int .i64 0, .int .i64 now, .slice x l.length c] w fun e w' => e = .returned (.int .i64 (min before l.length)) ∧ Touch [] w w') := hid fun w t => by
    have := CF.out (0, 0, before) (Int.le_of_lt (show (0 : Int) < 1099511627776 by decide)) (Int.le_of_lt (show (0 : Int) < 1099511627776 by decide)) w t
    rwa [bnd_before before now l g4] at this
  have C4 : Hid (∀ w, Touch [] W w → Calls Tryd.prog 13 #[.agg #[.int .i64 count, .int .i64 age, .int .i64 before], .int .i64 0, .int .i64 now, .slice x l.length c] w fun e w' => e = .returned (.int .i64 (max (max (wantV count l.length) (oldV age now l)) (min before l.length))) ∧ Touch [] w w') := hid fun w t => by
    have := CF.out (count, age, before) g1 g3 w t
    rwa [bnd_all count age before now l g4] at this
  have C5 : Hid (∀ w, Touch [] W w → Calls Tryd.prog 13 #[.agg #[.int .i64 0, .int .i64 0, .int .i64 0], .int .i64 0, .int .i64 now, .slice x l.length c] w fun e w' => e = .returned (.int .i64 0) ∧ Touch [] w w') := hid fun w t => by
    have := CF.out (0, 0, 0) (by decide) (by decide) w t
    rwa [bnd_none] at this
  have HX : Hid (∀ w, Touch [] W w → IntX w x l) := hid fun w t => hx.t0 t
  have FL := hid (firstY_le age now l)
  have d0 : decide (count < 0) = false := by rw [decide_eq_false_iff_not]; omega
  have d1 : decide (1099511627776 < count) = false := by rw [decide_eq_false_iff_not]; omega
  have d2 : decide (age < 0) = false := by rw [decide_eq_false_iff_not]; omega
  have d3 : decide (1099511627776 < age) = false := by rw [decide_eq_false_iff_not]; omega
  have d4 : decide (before < 0) = false := by rw [decide_eq_false_iff_not]; omega
  have d5 : decide (1099511627776 < before) = false := by rw [decide_eq_false_iff_not]; omega
  have d6 : decide (now < 0) = false := by rw [decide_eq_false_iff_not]; omega
  have d7 : decide (1099511627776 < now) = false := by rw [decide_eq_false_iff_not]; omega
  have d8 : decide (40 < l.length) = false := by rw [decide_eq_false_iff_not]; omega
  have d99 : decide ((40 : Int) < (l.length : Int)) = false := by rw [decide_eq_false_iff_not]; omega
  clear htab hx hw CF
  go_enter Tryd.func5, Tryd.ntmps5
  go_wp2
  go_loopw [11] (fun iv wr => ∃ k : Nat, k ≤ l.length ∧ iv = .int .i64 k ∧ Hid (Touch [] W wr) ∧ Hid (∀ (j : Nat) (hj : j < k) (h : j < l.length), 0 ≤ l[j] ∧ l[j] ≤ now) ∧ Hid (∀ (j : Nat) (h0 : 0 < j) (hj : j < k) (h : j < l.length), l[j - 1]'(by omega) ≤ l[j])) (fun iv _ => l.length - (RowKit.intOf iv).toNat)
  case atStart => exact ⟨0, Nat.zero_le _, rfl, hid (Touch.refl _ _), hid (fun j h => absurd h (by omega)), hid (fun j _ h => absurd h (by omega))⟩
  case round =>
    obtain ⟨k, hk, rfl, ht, hr1, hr2⟩ := hrel
    by_cases hlt : k < l.length
    · have hlt2 : decide (k < l.length) = true := by simpa using hlt
      have hI : (k : Int) < l.length := by omega
      have HXr := HX.out _ ht.out
      obtain ⟨b, off, hxe, e0⟩ := HXr k hlt
      subst hxe
      have HXp : ∀ (h0 : 0 < k), wr.cell? ⟨b, off + (k - 1), none⟩ = some (.int .i64 (l[k - 1]'(by omega))) := fun h0 => by
        obtain ⟨b', off', e, h1⟩ := HXr (k - 1) (by omega)
        cases e
        exact h1
      clear HXr
      have BAD : Hid (∀ w, Touch [] wr w → Calls Tryd.prog 7 #[] w fun e w' => e = .returned (.bool true) ∧ Touch [] W w') := hid fun w t => (CA.out _ (ht.out.trans t (by simp))).mono fun e w' ⟨he, h2⟩ => ⟨he, (ht.out.trans t (by simp)).trans h2 (by simp)⟩
      clear C1 C2 C3 C4 C5 FL CA
      by_cases b1 : l[k] < 0
      · have e1 : decide (l[k] < 0) = true := by simpa using b1
        generalize l[k] = tk at *
        clear HXp b1
        go_wp2
        go_quiet (fail)
        go_wp2_with fail
        refine (BAD.out _ ((Touch.refl [] wr).drewN _)).mono ?_
        rintro e w1 ⟨rfl, t1⟩
        have T1 := hid t1
        clear t1
        go_wp2
        go_ret
        exact ⟨rfl, T1.out⟩
      · have e1 : decide (l[k] < 0) = false := by simpa using b1
        by_cases b2 : now < l[k]
        · have e2 : decide (now < l[k]) = true := by simpa using b2
          generalize l[k] = tk at *
          clear HXp b1 b2
          go_wp2
          go_quiet (fail)
          go_wp2_with fail
          refine (BAD.out _ ((Touch.refl [] wr).drewN _)).mono ?_
          rintro e w1 ⟨rfl, t1⟩
          have T1 := hid t1
          clear t1
          go_wp2
          go_ret
          exact ⟨rfl, T1.out⟩
        · have e2 : decide (now < l[k]) = false := by simpa using b2
          by_cases h0 : 0 < k
          · have z1 : decide (0 < k) = true := by simpa using h0
            have z2 : decide ((0 : Int) < (k : Int)) = true := by rw [decide_eq_true_eq]; omega
            have p0 := HXp h0
            have pk : (k : Int) - 1 < l.length := by omega
            have pk0 : 0 ≤ (k : Int) - 1 := by omega
            have pn : ((k : Int) - 1).toNat = k - 1 := by omega
            have p00 : wr.cell? ⟨b, off + ((k : Int) - 1).toNat, none⟩ = some (.int .i64 (l[k - 1]'(by omega))) := by rw [pn]; exact p0
            have pw : IntKind.i64.wrap ((k : Int) - 1) = (k : Int) - 1 := IntWalk.i64_in _ (by omega)
            by_cases b3 : l[k] < l[k - 1]'(by omega)
            · have e3 : decide (l[k] < l[k - 1]'(by omega)) = true := by simpa using b3
              generalize l[k] = tk at *
              generalize l[k - 1]'(by omega) = tp at *
              clear HXp b1 b2 b3
              go_wp2
              go_quiet (fail)
              go_wp2_with fail
              refine (BAD.out _ ((Touch.refl [] wr).drewN _)).mono ?_
              rintro e w1 ⟨rfl, t1⟩
              have T1 := hid t1
              clear t1
              go_wp2
              go_ret
              exact ⟨rfl, T1.out⟩
            · have e3 : decide (l[k] < l[k - 1]'(by omega)) = false := by simpa using b3
              have R1 : Hid (∀ (j : Nat) (hj : j < k + 1) (h : j < l.length), 0 ≤ l[j] ∧ l[j] ≤ now) := hid fun j hj h => by
                by_cases hjk : j = k
                · subst hjk; omega
                · exact hr1.out j (by omega) h
              have R2 : Hid (∀ (j : Nat) (h0 : 0 < j) (hj : j < k + 1) (h : j < l.length), l[j - 1]'(by omega) ≤ l[j]) := hid fun j h0 hj h => by
                by_cases hjk : j = k
                · subst hjk; omega
                · exact hr2.out j h0 (by omega) h
              generalize l[k] = tk at *
              generalize l[k - 1]'(by omega) = tp at *
              clear HXp b1 b2 b3 BAD
              go_wp2
              go_quiet (fail)
              go_wp2
              go_roundw
              case rel => exact ⟨k + 1, by omega, by go_num, hid (ht.out.drewN _), R1, R2⟩
              case measure => simp [RowKit.intOf]; omega
          · have R1 : Hid (∀ (j : Nat) (hj : j < k + 1) (h : j < l.length), 0 ≤ l[j] ∧ l[j] ≤ now) := hid fun j hj h => by
              obtain rfl : j = k := by omega
              omega
            have R2 : Hid (∀ (j : Nat) (h0 : 0 < j) (hj : j < k + 1) (h : j < l.length), l[j - 1]'(by omega) ≤ l[j]) := hid fun j h0' hj h => absurd hj (by omega)
            have z1 : decide (0 < k) = false := by simpa using h0
            have z2 : decide ((0 : Int) < (k : Int)) = false := by rw [decide_eq_false_iff_not]; omega
            generalize l[k] = tk at *
            clear HXp b1 b2 BAD
            go_wp2
            go_quiet (fail)
            go_wp2
            go_roundw
            case rel => exact ⟨k + 1, by omega, by go_num, hid (ht.out.drewN _), R1, R2⟩
            case measure => simp [RowKit.intOf]; omega
    · obtain rfl : k = l.length := by omega
      have hlt2 : decide (l.length < l.length) = false := by simp
      have HTW := hid ht.out
      have OS : Hid (∀ (k : Nat) (h : k < l.length), decide (age ≤ now - l[k]) = decide (k < firstY age now l)) := hid fun k h => old_step (fun j h0 hj => hr2.out j h0 hj hj) h
      have RG : Hid (∀ (k : Nat) (h : k < l.length), 0 ≤ l[k] ∧ l[k] ≤ now) := hid fun k h => hr1.out k h h
      have OV : Hid (∀ v, (if 0 < age then (firstY age now l : Int) else 0) = v → oldV age now l = v) := hid fun v h => h
      have WV : Hid (∀ v, (if 0 < count then max ((l.length : Int) - count) 0 else 0) = v → wantV count l.length = v) := hid fun v h => h
      generalize firstY age now l = fy at *
      generalize oldV age now l = ov at *
      generalize wantV count l.length = wv at *
      clear ht hr1 hr2
      go_wp2_with fail
      refine (C1.out _ HTW.out).mono ?_
      rintro e w1 ⟨rfl, t1⟩
      have T1 := hid (HTW.out.trans t1 (by simp))
      clear t1 C1
      go_wp2_with fail
      refine (C2.out _ T1.out).mono ?_
      rintro e w2 ⟨rfl, t2⟩
      have T2 := hid (T1.out.trans t2 (by simp))
      clear t2 C2
      obtain ⟨mb, hmb⟩ : ∃ mb, mb = min before (l.length : Int) := ⟨_, rfl⟩
      rw [← hmb] at C3 C4
      obtain ⟨mx, hmx⟩ : ∃ mx, mx = max (max wv ov) mb := ⟨_, rfl⟩
      rw [← hmx] at C4
      have HMB := hid hmb
      have HMX := hid hmx
      clear hmb hmx
      go_wp2_with fail
      refine (C3.out _ T2.out).mono ?_
      rintro e w3 ⟨rfl, t3⟩
      have T3 := hid (T2.out.trans t3 (by simp))
      clear t3 C3
      go_wp2_with fail
      refine (C4.out _ T3.out).mono ?_
      rintro e w4 ⟨rfl, t4⟩
      have T4 := hid (T3.out.trans t4 (by simp))
      clear t4 C4
      by_cases ha : 0 < age
      · have da : decide (0 < age) = true := by simpa using ha
        have OV2 := hid (OV.out _ (if_pos ha))
        clear OV
        go_wp2
        go_loopw [17, 18] (fun ov iv w5 => ∃ k : Nat, k ≤ l.length ∧ iv = .int .i64 k ∧ ov = .int .i64 ((min k fy : Nat) : Int) ∧ w4 = w5) (fun _ iv _ => l.length - (RowKit.intOf iv).toNat)
        case atStart => exact ⟨0, Nat.zero_le _, rfl, by rw [Nat.zero_min]; rfl, rfl⟩
        case round =>
          obtain ⟨k, hk, rfl, rfl, hw4⟩ := hrel
          subst hw4
          by_cases hkl : k < l.length
          · have hlt3 : decide (k < l.length) = true := by simpa using hkl
            have hI : (k : Int) < l.length := by omega
            obtain ⟨b, off, hxe, e0⟩ := HX.out _ T4.out k hkl
            have OSk := OS.out k hkl
            obtain ⟨r1, r2⟩ := RG.out k hkl
            subst hxe
            have HS : Hid (((min (k + 1) fy : Nat) : Int) = ((min k fy : Nat) : Int) + (if k < fy then 1 else 0)) := hid (by split <;> omega)
            have hm40 : min k fy ≤ 40 := by omega
            generalize l[k] = tk at *
            generalize hmk : min k fy = mk at *
            clear hmk
            by_cases hf : k < fy
            · rw [decide_eq_true hf] at OSk
              rw [if_pos hf] at HS
              clear hf
              go_wp2
              go_roundw
              case rel => exact ⟨k + 1, by omega, by go_num, by rw [HS.out], trivial⟩
              case measure => simp [RowKit.intOf]; omega
            · rw [decide_eq_false hf] at OSk
              rw [if_neg hf, Int.add_zero] at HS
              clear hf
              go_wp2
              go_roundw
              case rel => exact ⟨k + 1, by omega, by go_num, by rw [HS.out], trivial⟩
              case measure => simp [RowKit.intOf]; omega
          · obtain rfl : k = l.length := by omega
            have hlt3 : decide (l.length < l.length) = false := by simp
            have e1 : ((min l.length fy : Nat) : Int) = ov := by rw [OV2.out, Nat.min_eq_right FL.out]
            rw [e1]
            clear e1 OV2
            have MBx := HMB.out
            by_cases hcn : 0 < count
            · have dc : decide (0 < count) = true := by simpa using hcn
              have WVx := WV.out _ (if_pos hcn)
              have b1 : (wv == max ((l.length : Int) - count) 0) = true := by simpa using WVx
              have b3 : (mb == min before (l.length : Int)) = true := by simpa using MBx
              clear WV WVx MBx
              go_wp2_with fail
              refine (CA.out _ T4.out).mono ?_
              rintro e w5 ⟨rfl, t5⟩
              have T5 := hid (T4.out.trans t5 (by simp))
              clear t5
              go_wp2_with (go_at_call 13; refine (C5.out _ T5.out).mono ?_; rintro e w6 ⟨rfl, t6⟩; have T6 := hid (T5.out.trans t6 (by simp)); clear t6)
              all_goals first
                | (exfalso; have := HMX.out; omega)
                | (exfalso; have h9 := HMX.out; have h8 := OV2.out; omega)
                | (go_ret; exact ⟨rfl, T6.out⟩)
            · have dc : decide (0 < count) = false := by simpa using hcn
              have WVx := WV.out _ (if_neg hcn)
              have b1 : (wv == 0) = true := by simpa using WVx
              have b3 : (mb == min before (l.length : Int)) = true := by simpa using MBx
              clear WV WVx MBx
              go_wp2_with fail
              refine (CA.out _ T4.out).mono ?_
              rintro e w5 ⟨rfl, t5⟩
              have T5 := hid (T4.out.trans t5 (by simp))
              clear t5
              go_wp2_with (go_at_call 13; refine (C5.out _ T5.out).mono ?_; rintro e w6 ⟨rfl, t6⟩; have T6 := hid (T5.out.trans t6 (by simp)); clear t6)
              all_goals first
                | (exfalso; have := HMX.out; omega)
                | (exfalso; have h9 := HMX.out; have h8 := OV2.out; omega)
                | (go_ret; exact ⟨rfl, T6.out⟩)
      · have da : decide (0 < age) = false := by simpa using ha
        have OV2 := hid (OV.out _ (if_neg ha))
        clear OV
        go_wp2
        go_loopw [17, 18] (fun ov iv w5 => iv = .int .i64 0 ∧ ov = .int .i64 0 ∧ w4 = w5) (fun _ _ _ => 0)
        case atStart => exact ⟨rfl, rfl, rfl⟩
        case round =>
          obtain ⟨rfl, rfl, hw4⟩ := hrel
          subst hw4
          have b2 : (ov == 0) = true := by simpa using OV2.out
          by_cases hln : 0 < l.length
          · have z1 : decide (0 < l.length) = true := by simpa using hln
            have z2 : decide ((0 : Int) < (l.length : Int)) = true := by rw [decide_eq_true_eq]; omega
            have MBx := HMB.out
            by_cases hcn : 0 < count
            · have dc : decide (0 < count) = true := by simpa using hcn
              have WVx := WV.out _ (if_pos hcn)
              have b1 : (wv == max ((l.length : Int) - count) 0) = true := by simpa using WVx
              have b3 : (mb == min before (l.length : Int)) = true := by simpa using MBx
              clear WV WVx MBx
              go_wp2_with fail
              refine (CA.out _ T4.out).mono ?_
              rintro e w5 ⟨rfl, t5⟩
              have T5 := hid (T4.out.trans t5 (by simp))
              clear t5
              go_wp2_with (go_at_call 13; refine (C5.out _ T5.out).mono ?_; rintro e w6 ⟨rfl, t6⟩; have T6 := hid (T5.out.trans t6 (by simp)); clear t6)
              all_goals first
                | (exfalso; have := HMX.out; omega)
                | (exfalso; have h9 := HMX.out; have h8 := OV2.out; omega)
                | (go_ret; exact ⟨rfl, T6.out⟩)
            · have dc : decide (0 < count) = false := by simpa using hcn
              have WVx := WV.out _ (if_neg hcn)
              have b1 : (wv == 0) = true := by simpa using WVx
              have b3 : (mb == min before (l.length : Int)) = true := by simpa using MBx
              clear WV WVx MBx
              go_wp2_with fail
              refine (CA.out _ T4.out).mono ?_
              rintro e w5 ⟨rfl, t5⟩
              have T5 := hid (T4.out.trans t5 (by simp))
              clear t5
              go_wp2_with (go_at_call 13; refine (C5.out _ T5.out).mono ?_; rintro e w6 ⟨rfl, t6⟩; have T6 := hid (T5.out.trans t6 (by simp)); clear t6)
              all_goals first
                | (exfalso; have := HMX.out; omega)
                | (exfalso; have h9 := HMX.out; have h8 := OV2.out; omega)
                | (go_ret; exact ⟨rfl, T6.out⟩)
          · have z1 : decide (0 < l.length) = false := by simpa using hln
            have z2 : decide ((0 : Int) < (l.length : Int)) = false := by rw [decide_eq_false_iff_not]; omega
            have MBx := HMB.out
            by_cases hcn : 0 < count
            · have dc : decide (0 < count) = true := by simpa using hcn
              have WVx := WV.out _ (if_pos hcn)
              have b1 : (wv == max ((l.length : Int) - count) 0) = true := by simpa using WVx
              have b3 : (mb == min before (l.length : Int)) = true := by simpa using MBx
              clear WV WVx MBx
              go_wp2_with fail
              refine (CA.out _ T4.out).mono ?_
              rintro e w5 ⟨rfl, t5⟩
              have T5 := hid (T4.out.trans t5 (by simp))
              clear t5
              go_wp2_with (go_at_call 13; refine (C5.out _ T5.out).mono ?_; rintro e w6 ⟨rfl, t6⟩; have T6 := hid (T5.out.trans t6 (by simp)); clear t6)
              all_goals first
                | (exfalso; have := HMX.out; omega)
                | (exfalso; have h9 := HMX.out; have h8 := OV2.out; omega)
                | (go_ret; exact ⟨rfl, T6.out⟩)
            · have dc : decide (0 < count) = false := by simpa using hcn
              have WVx := WV.out _ (if_neg hcn)
              have b1 : (wv == 0) = true := by simpa using WVx
              have b3 : (mb == min before (l.length : Int)) = true := by simpa using MBx
              clear WV WVx MBx
              go_wp2_with fail
              refine (CA.out _ T4.out).mono ?_
              rintro e w5 ⟨rfl, t5⟩
              have T5 := hid (T4.out.trans t5 (by simp))
              clear t5
              go_wp2_with (go_at_call 13; refine (C5.out _ T5.out).mono ?_; rintro e w6 ⟨rfl, t6⟩; have T6 := hid (T5.out.trans t6 (by simp)); clear t6)
              all_goals first
                | (exfalso; have := HMX.out; omega)
                | (exfalso; have h9 := HMX.out; have h8 := OV2.out; omega)
                | (go_ret; exact ⟨rfl, T6.out⟩)
theorem walk_MetaBounds (count : Int) (_w0 : (Lit.int .i64 count).wf = true) (age : Int) (_w1 : (Lit.int .i64 age).wf = true) (before : Int) (_w2 : (Lit.int .i64 before).wf = true) (now : Int) (_w3 : (Lit.int .i64 now).wf = true) (v : Value) (l : List Int) (W : World) (hl : IntsW W v l) (htab : Tab W) :
    Calls Tryd.prog 5 #[.int .i64 count, .int .i64 age, .int .i64 before, .int .i64 now, v] W fun e W' => e = .returned (.bool true) ∧ Touch [] W W' := by
  obtain ⟨x, c, rfl, hc, hx, hlen, hw⟩ := hl
  by_cases h : guardB count age before now l.length
  · exact bounds_early count age before now x c l W htab hlen h
  · exact bounds_main count age before now x c l W htab hx hw h
end Go.Proofs.YtepbflcmghkieaaDoor
