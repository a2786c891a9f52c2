/- meta.Floor. -/
import Derived.Test.YtepbflcmghkieaaDoorPt15
import Derived.Test.YtepbflcmghkieaaDoorSj15
namespace Go.Proofs.YtepbflcmghkieaaDoor
open Go.RowKit Go.Lib
set_option maxRecDepth 100000

def yng (age now t : Int) : Bool := decide (now - age < t)
theorem young_any (t age now : Int) (w : World) (t0 : -9223372036854775808 ≤ t) (t1 : t ≤ 9223372036854775807) (a0 : 0 < age) (a1 : age ≤ 9223372036854775807) (n0 : -9223372036854775808 ≤ now) (n1 : now ≤ 9223372036854775807) :
    Calls Tryd.prog 39 #[.int .i64 t, .int .i64 age, .int .i64 now] w fun e w' => e = .returned (.bool (yng age now t)) ∧ w = w' := by
  by_cases h : now ≤ t
  · have hy : yng age now t = true := by unfold yng; rw [decide_eq_true_eq]; omega
    have d : decide (now ≤ t) = true := by simpa using h
    rw [hy]
    clear h hy t0 t1 a0 a1 n0 n1
    go_enter Tryd.func39, Tryd.ntmps39
    go_wp2
    go_ret
    exact ⟨rfl, rfl⟩
  · have d : decide (now ≤ t) = false := by simpa using h
    have HW : Hid (IntKind.u64.wrap (IntKind.u64.wrap now - IntKind.u64.wrap t) = now - t) := hid (by
      have e : ∀ x : Int, IntKind.u64.wrap x = x % 18446744073709551616 := fun x => by
        simp [IntKind.wrap, IntKind.signed, IntKind.bits]
      rw [e, e, e]
      omega)
    have HY : Hid (decide (now - t < age) = yng age now t) := hid (by
      unfold yng
      rw [Bool.eq_iff_iff, decide_eq_true_eq, decide_eq_true_eq]
      omega)
    go_enter Tryd.func39, Tryd.ntmps39
    go_wp2
    go_ret
    rw [← HY.out, ← HW.out]
    exact ⟨rfl, rfl⟩
theorem young1_any (t age now : Int) (ba bn : Nat) (w : World) (ha : w.cell? ⟨ba, 0, none⟩ = some (.int .i64 age)) (hn : w.cell? ⟨bn, 0, none⟩ = some (.int .i64 now)) (t0 : -9223372036854775808 ≤ t) (t1 : t ≤ 9223372036854775807) (a0 : 0 < age) (a1 : age ≤ 9223372036854775807) (n0 : -9223372036854775808 ≤ now) (n1 : now ≤ 9223372036854775807) :
    Calls Tryd.prog 38 #[.int .i64 t, .pointer (some ⟨ba, 0, none⟩), .pointer (some ⟨bn, 0, none⟩)] w fun e w' => e = .returned (.bool (yng age now t)) ∧ w = w' := by
  have C := hid (young_any t age now w t0 t1 a0 a1 n0 n1)
  clear t0 t1 a0 a1 n0 n1
  go_enter Tryd.func38, Tryd.ntmps38
  go_wp2_with (go_at_call 39; refine C.out.mono ?_; rintro e w' ⟨rfl, rfl⟩)
  go_ret
  exact ⟨rfl, rfl⟩
/-- The first one that is young, or how many there are. -/
def firstY (age now : Int) (l : List Int) : Nat := (l.takeWhile fun t => !yng age now t).length
theorem firstY_le (age now : Int) (l : List Int) : firstY age now l ≤ l.length := (List.takeWhile_sublist _).length_le
theorem firstY_yes {age now : Int} : ∀ {l : List Int} {k : Nat} (h : k < l.length), k ≤ firstY age now l → yng age now l[k] = true → firstY age now l = k
  | [], k, h, _, _ => by simp at h
  | t :: l, 0, _, _, hy => by
    simp only [List.getElem_cons_zero] at hy
    unfold firstY
    rw [List.takeWhile_cons, hy]
    rfl
  | t :: l, k + 1, h, hk, hy => by
    unfold firstY at hk ⊢
    rw [List.takeWhile_cons] at hk ⊢
    cases ht : yng age now t
    · rw [ht] at hk
      simp only [Bool.not_false, if_true, List.length_cons] at hk ⊢
      simp only [List.getElem_cons_succ] at hy
      have := firstY_yes (l := l) (k := k) (by simpa using h) (by unfold firstY; omega) hy
      unfold firstY at this
      omega
    · rw [ht] at hk
      simp at hk
theorem firstY_no {age now : Int} : ∀ {l : List Int} {k : Nat} (h : k < l.length), k ≤ firstY age now l → yng age now l[k] = false → k + 1 ≤ firstY age now l
  | [], k, h, _, _ => by simp at h
  | t :: l, 0, _, _, hy => by
    simp only [List.getElem_cons_zero] at hy
    unfold firstY
    rw [List.takeWhile_cons, hy]
    simp
  | t :: l, k + 1, h, hk, hy => by
    unfold firstY at hk ⊢
    rw [List.takeWhile_cons] at hk ⊢
    cases ht : yng age now t
    · rw [ht] at hk
      simp only [Bool.not_false, if_true, List.length_cons] at hk ⊢
      simp only [List.getElem_cons_succ] at hy
      have := firstY_no (l := l) (k := k) (by simpa using h) (by unfold firstY; omega) hy
      unfold firstY at this
      omega
    · rw [ht] at hk
      simp at hk
/-- Each number in an int's bounds. -/
def Wl (l : List Int) : Prop := ∀ t ∈ l, -9223372036854775808 ≤ t ∧ t ≤ 9223372036854775807
def idxY (age now : Int) (l : List Int) : Int := if firstY age now l < l.length then (firstY age now l : Int) else -1
theorem indexY_any (x : Option Addr) (c : Nat) (l : List Int) (age now : Int) (ba bn : Nat) (w : World) (hx : IntX w x l) (hl : l.length ≤ 1000000) (hw : Wl l) (ha : w.cell? ⟨ba, 0, none⟩ = some (.int .i64 age)) (hn : w.cell? ⟨bn, 0, none⟩ = some (.int .i64 now)) (a0 : 0 < age) (a1 : age ≤ 9223372036854775807) (n0 : -9223372036854775808 ≤ now) (n1 : now ≤ 9223372036854775807) :
    Calls Tryd.prog 37 #[.slice x l.length c, .func (.func 38) #[] #[.pointer (some ⟨ba, 0, none⟩), .pointer (some ⟨bn, 0, none⟩)]] w fun e w' => e = .returned (.int .i64 (idxY age now l)) ∧ w = w' := by
  have CY := hid fun t ht => young1_any t age now ba bn w ha hn (hw t ht).1 (hw t ht).2 a0 a1 n0 n1
  have HX := hid hx
  have FL := hid (firstY_le age now l)
  clear hx hw ha hn a0 a1 n0 n1
  go_enter Tryd.func37, Tryd.ntmps37
  go_wp2
  go_loopw [8] (fun iv wr => ∃ k : Nat, k ≤ l.length ∧ iv = .int .i64 k ∧ Hid (k ≤ firstY age now l) ∧ w = wr) (fun iv _ => l.length - (RowKit.intOf iv).toNat)
  case atStart => exact ⟨0, Nat.zero_le _, rfl, hid (Nat.zero_le _), rfl⟩
  case round =>
    obtain ⟨k, hk, rfl, hf, hwr⟩ := hrel
    subst hwr
    by_cases hlt : k < l.length
    · have hlt2 : decide (k < l.length) = true := by simpa using hlt
      have hI : (k : Int) < l.length := by omega
      obtain ⟨b, off, rfl, g0⟩ := HX.out k hlt
      have CK := hid (CY.out l[k] (List.getElem_mem hlt))
      cases hy : yng age now l[k]
      · have FN := hid (firstY_no hlt hf.out hy)
        rw [hy] at CK
        clear hy
        generalize l[k] = t at *
        go_wp2_with (go_at_call 38; refine CK.out.mono ?_; rintro e w' ⟨rfl, rfl⟩)
        go_roundw
        case rel => exact ⟨k + 1, by omega, by go_num, FN, trivial⟩
        case measure => simp [RowKit.intOf]; omega
      · have FN := hid (firstY_yes hlt hf.out hy)
        rw [hy] at CK
        clear hy
        generalize l[k] = t at *
        go_wp2_with (go_at_call 38; refine CK.out.mono ?_; rintro e w' ⟨rfl, rfl⟩)
        go_ret
        unfold idxY
        rw [FN.out, if_pos hlt]
        exact ⟨rfl, rfl⟩
    · obtain rfl : k = l.length := by omega
      have hlt2 : decide (l.length < l.length) = false := by simp
      go_wp2
      go_ret
      unfold idxY
      rw [if_neg (by have := hf.out; omega)]
      exact ⟨rfl, rfl⟩
theorem firstYoung_any (x : Option Addr) (c : Nat) (l : List Int) (age now : Int) (w : World) (hx : IntX w x l) (hl : l.length ≤ 1000000) (hw : Wl l) (a0 : 0 < age) (a1 : age ≤ 9223372036854775807) (n0 : -9223372036854775808 ≤ now) (n1 : now ≤ 9223372036854775807) :
    Calls Tryd.prog 26 #[.int .i64 age, .int .i64 now, .slice x l.length c] w fun e w' => e = .returned (.int .i64 (firstY age now l : Nat)) ∧ Touch [] w w' := by
  obtain ⟨W0, hW0⟩ : ∃ W0, W0 = (w.alloc (.cells #[.int .i64 age] TInt)).alloc (.cells #[.int .i64 now] TInt) := ⟨_, rfl⟩
  have t0 : Touch [] w W0 := by rw [hW0]; exact ((Touch.refl [] w).alloc _).alloc _
  have c1 : W0.cell? ⟨w.heap.size, 0, none⟩ = some (.int .i64 age) := by rw [hW0]; exact cell_of (heap_alloc_keep (heap_alloc_new w _) _) 0
  have c2 : W0.cell? ⟨w.heap.size + 1, 0, none⟩ = some (.int .i64 now) := by
    rw [hW0]
    have := cell_of (heap_alloc_new (w.alloc (.cells #[.int .i64 age] TInt)) (.cells #[.int .i64 now] TInt)) 0
    rwa [World.size_alloc] at this
  have C := hid (indexY_any x c l age now w.heap.size (w.heap.size + 1) W0 (hx.t0 t0) hl hw c1 c2 a0 a1 n0 n1)
  have FL := firstY_le age now l
  have T0 := hid t0
  unfold idxY at C
  generalize firstY age now l = f at *
  clear hx hw a0 a1 n0 n1 c1 c2 t0
  by_cases hf : f < l.length
  · rw [if_pos hf] at C
    have d : decide ((f : Int) < 0) = false := by simp
    clear hf
    go_enter Tryd.func26, Tryd.ntmps26
    go_upto_region 1 with fail
    rw [← hW0]
    clear hW0
    go_wp2_with (go_at_call 37; refine C.out.mono ?_; rintro e w' ⟨rfl, rfl⟩)
    go_ret
    exact ⟨rfl, T0.out⟩
  · rw [if_neg hf] at C
    have e : f = l.length := by omega
    have E := hid e
    clear hf e
    go_enter Tryd.func26, Tryd.ntmps26
    go_upto_region 1 with fail
    rw [← hW0]
    clear hW0
    go_wp2_with (go_at_call 37; refine C.out.mono ?_; rintro e w' ⟨rfl, rfl⟩)
    go_ret
    rw [E.out]
    exact ⟨rfl, T0.out⟩
def floorV (m : MetaD) (fl now : Int) (l : List Int) : Int :=
  min (max (max (max (max fl 0) m.2.2) (if 0 < m.1 then (l.length : Int) - m.1 else max (max fl 0) m.2.2)) (if 0 < m.2.1 then (firstY m.2.1 now l : Int) else max (max fl 0) m.2.2)) l.length
set_option maxHeartbeats 4000000 in
theorem floor_any (m : MetaD) (fl now : Int) (x : Option Addr) (c : Nat) (l : List Int) (w : World) (hx : IntX w x l) (hl : l.length ≤ 1000000) (hw : Wl l) (f0 : -9223372036854775808 ≤ fl) (f1 : fl ≤ 9223372036854775807) (a1 : m.2.1 ≤ 9223372036854775807) (m1 : m.1 ≤ 9223372036854775807) (n0 : -9223372036854775808 ≤ now) (n1 : now ≤ 9223372036854775807) :
    Calls Tryd.prog 13 #[metaV m.1 m.2.1 m.2.2, .int .i64 fl, .int .i64 now, .slice x l.length c] w fun e w' => e = .returned (.int .i64 (floorV m fl now l)) ∧ Touch [] w w' := by
  have CY : 0 < m.2.1 → Hid (∀ W, Touch [] w W → Calls Tryd.prog 26 #[.int .i64 m.2.1, .int .i64 now, .slice x l.length c] W fun e w' => e = .returned (.int .i64 (firstY m.2.1 now l : Nat)) ∧ Touch [] W w') := fun h => hid fun W t => firstYoung_any x c l m.2.1 now W (hx.t0 t) hl hw h a1 n0 n1
  obtain ⟨W0, hW0⟩ : ∃ W0, W0 = w.alloc (.cells #[.int .i64 m.1, .int .i64 m.2.1, .int .i64 m.2.2] TMeta) := ⟨_, rfl⟩
  have t0 : Touch [] w W0 := by rw [hW0]; exact (Touch.refl [] w).alloc _
  have B0 : MetaB W0 w.heap.size m := by rw [hW0]; exact heap_alloc_new w _
  have c0 := B0.at (k := 0) (by decide)
  have c1 := B0.at (k := 1) (by decide)
  have c2 := B0.at (k := 2) (by decide)
  simp only [vk] at c0 c1 c2
  have T0 := hid t0
  have FV : Hid (∀ r, r = min (max (max (max (max fl 0) m.2.2) (if 0 < m.1 then (l.length : Int) - m.1 else max (max fl 0) m.2.2)) (if 0 < m.2.1 then (firstY m.2.1 now l : Int) else max (max fl 0) m.2.2)) l.length → r = floorV m fl now l) := hid fun r h => h
  have FL := firstY_le m.2.1 now l
  generalize floorV m fl now l = fv at *
  unfold metaV
  generalize firstY m.2.1 now l = fy at *
  clear hx hw n0 n1 t0 B0
  obtain ⟨a, b, d⟩ := m
  dsimp only at *
  by_cases ha : 0 < a
  · have A : Hid ((if 0 < a then (l.length : Int) - a else max (max fl 0) d) = (l.length : Int) - a) := hid (if_pos ha)
    rw [A.out] at FV
    have da : decide (0 < a) = true := by simpa using ha
    by_cases hb : 0 < b
    · have db : decide (0 < b) = true := by simpa using hb
      rw [if_pos hb] at FV
      have CB := CY hb
      clear CY A
      go_enter Tryd.func13, Tryd.ntmps13
      go_upto_region 1 with fail
      rw [← hW0]
      clear hW0
      go_wp2_with (go_at_call 26; refine (CB.out _ T0.out).mono ?_; rintro e w' ⟨rfl, t1⟩; have T1 := hid (T0.out.trans t1 (by simp)); clear t1)
      go_ret
      rw [← FV.out _ rfl]
      exact ⟨by simp only [Ending.returned.injEq, Array.getD, Value.int.injEq, true_and]; simp; omega, T1.out⟩
    · have db : decide (0 < b) = false := by simpa using hb
      rw [if_neg hb] at FV
      clear CY A
      go_enter Tryd.func13, Tryd.ntmps13
      go_upto_region 1 with fail
      rw [← hW0]
      clear hW0
      go_wp2
      go_ret
      rw [← FV.out _ rfl]
      exact ⟨by simp only [Ending.returned.injEq, Array.getD, Value.int.injEq, true_and]; simp; omega, T0.out⟩
  · have A : Hid ((if 0 < a then (l.length : Int) - a else max (max fl 0) d) = max (max fl 0) d) := hid (if_neg ha)
    rw [A.out] at FV
    have da : decide (0 < a) = false := by simpa using ha
    by_cases hb : 0 < b
    · have db : decide (0 < b) = true := by simpa using hb
      rw [if_pos hb] at FV
      have CB := CY hb
      clear CY A
      go_enter Tryd.func13, Tryd.ntmps13
      go_upto_region 1 with fail
      rw [← hW0]
      clear hW0
      go_wp2_with (go_at_call 26; refine (CB.out _ T0.out).mono ?_; rintro e w' ⟨rfl, t1⟩; have T1 := hid (T0.out.trans t1 (by simp)); clear t1)
      go_ret
      rw [← FV.out _ rfl]
      exact ⟨by simp only [Ending.returned.injEq, Array.getD, Value.int.injEq, true_and]; simp; omega, T1.out⟩
    · have db : decide (0 < b) = false := by simpa using hb
      rw [if_neg hb] at FV
      clear CY A
      go_enter Tryd.func13, Tryd.ntmps13
      go_upto_region 1 with fail
      rw [← hW0]
      clear hW0
      go_wp2
      go_ret
      rw [← FV.out _ rfl]
      exact ⟨by simp only [Ending.returned.injEq, Array.getD, Value.int.injEq, true_and]; simp; omega, T0.out⟩
end Go.Proofs.YtepbflcmghkieaaDoor
