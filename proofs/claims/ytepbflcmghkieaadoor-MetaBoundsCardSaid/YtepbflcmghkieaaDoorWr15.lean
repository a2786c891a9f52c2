/- MetaRises, walked. -/
import Derived.Test.YtepbflcmghkieaaDoorAg15
import Derived.Test.YtepbflcmghkieaaDoorFl15
import Derived.BigQuiet
import Derived.Deep.QuietTactic
import Derived.Deep.DeepCutAuto
import Derived.Deep.RegionLaw
import Derived.Laws.OwnMore
namespace Go.Proofs.YtepbflcmghkieaaDoor
open Go.RowKit Go.Lib
set_option maxRecDepth 100000

theorem firstY_later {age now now' : Int} (h : now ≤ now') : ∀ l : List Int, firstY age now l ≤ firstY age now' l
  | [] => Nat.le_refl _
  | t :: l => by
    unfold firstY
    rw [List.takeWhile_cons, List.takeWhile_cons]
    cases h1 : yng age now t
    · have h2 : yng age now' t = false := by
        unfold yng at h1 ⊢
        rw [decide_eq_false_iff_not] at h1 ⊢
        omega
      rw [h2]
      have := firstY_later (age := age) h l
      unfold firstY at this
      simpa using this
    · simp
theorem firstY_more (age now : Int) : ∀ (l m : List Int), firstY age now l ≤ firstY age now (l ++ m)
  | [], _ => Nat.zero_le _
  | t :: l, m => by
    unfold firstY
    rw [List.cons_append, List.takeWhile_cons, List.takeWhile_cons]
    cases yng age now t
    · have := firstY_more age now l m
      unfold firstY at this
      simpa using this
    · simp
theorem floor_low (m : MetaD) (fl now : Int) (l : List Int) : 0 ≤ floorV m fl now l ∧ floorV m fl now l ≤ l.length := by
  unfold floorV
  omega
theorem floor_self (m : MetaD) (fl now : Int) (l : List Int) (h : fl ≤ l.length) : fl ≤ floorV m fl now l := by
  unfold floorV
  omega
theorem floor_later (m : MetaD) (fl : Int) {now now' : Int} (h : now ≤ now') (l : List Int) : floorV m fl now l ≤ floorV m fl now' l := by
  have := firstY_later (age := m.2.1) h l
  unfold floorV
  split <;> split <;> omega
theorem floor_more (m : MetaD) (fl now x : Int) (l : List Int) : floorV m fl now l ≤ floorV m fl now (l ++ [x]) := by
  have := firstY_more m.2.1 now l [x]
  have e : (l ++ [x]).length = l.length + 1 := by simp
  unfold floorV
  rw [e]
  split <;> split <;> omega
/-- append of ints of a list, nil or not, to a nil one, at a step of a region that draws. -/
theorem step_append_ints0 {w : World} {ops : Array Oper} {o : Oper} {a : Act} {K : Act → World → Prop} {Q : Exit → Act → World → Prop} {E : Prop} (hgd : o.guard = none) (s xo : Operand)
    (ho : o.op = .call { callee := .builtin .append, args := #[s, xo], argTypes := #[TInts, TInts] }) (x : Option Addr) (l : List Int) (c : Nat) (hs : a.eval s = .slice none 0 0) (hx : a.eval xo = .slice x l.length c) (hX : IntX w x l) (hnil : x = none → c = 0 ∧ l = [])
    (hl : l.length ≤ 1000000) (h : ∀ y cap w', w'.ownsRow w.heap.size TInt 1 (.slice y l.length cap) l.length (intV l) → Touch [] w w' → K (a.put o.dst (.slice y l.length cap)) w') :
    if Region.wanted o (yielded ops a.tmps) = true then Oper.wp Tryd.prog o a w K Q else E := by
  rw [if_pos (by simp [Region.wanted, hgd])]
  obtain ⟨i0, hi, hz0, hz1, hz2⟩ := info_parts infoInt
  cases x with
  | none =>
    obtain ⟨rfl, rfl⟩ := hnil rfl
    have hr := run_append_owned_none (P := Tryd.prog) (w := w) w.heap.size TInts o.type TInt i0 1 Tryd.underlying24 hi (.slice none 0 0) 0 [] ⟨rfl, .inl ⟨rfl, rfl⟩⟩
    unfold Oper.wp execOp
    rw [List.length_nil] at hx
    simp only [ho, resolve, invoke, builtin, Sem.run_bind, Sem.run_pure, Result.andThen_ok, List.map_toArray, List.map_cons, List.map_nil, hs, hx, hr]
    exact h none 0 w ⟨rfl, .inl ⟨rfl, rfl⟩⟩ (Touch.refl _ _)
  | some ad =>
    obtain ⟨v', w', hr, hG⟩ := append_full (P := Tryd.prog) w w.heap.size TInts o.type TInt i0 (.int .i64 0) 1 8 Tryd.underlying24 hi hz0 hz1 hz2 rfl (by decide) (.slice none 0 0) 0 [] ⟨rfl, .inl ⟨rfl, rfl⟩⟩ ad l.length c (intV l) (by rw [intV_len]; omega) (intX_cells hX) (intV_one l) (by omega) (by decide) (Nat.le_refl _)
    obtain ⟨y, cap', rfl, _, _⟩ := slice_form hG.own
    have h1 := hG.own
    have h2 : Touch [] w w' := hG.touch ⟨rfl, .inl ⟨rfl, rfl⟩⟩ (Touch.refl [] w) (Nat.le_refl _)
    rw [Nat.zero_add] at h1
    rw [List.nil_append] at h1
    unfold Oper.wp execOp
    simp only [ho, resolve, invoke, builtin, Sem.run_bind, Sem.run_pure, Result.andThen_ok, List.map_toArray, List.map_cons, List.map_nil, hs, hx, hr]
    rw [Nat.zero_add]
    exact h y cap' w' h1 h2
def guardR (m n : MetaD) (now more : Int) (k : Nat) : Prop := m.1 < 0 ∨ m.2.1 < 0 ∨ m.2.2 < 0 ∨ n.1 < 0 ∨ n.2.1 < 0 ∨ n.2.2 < 0 ∨ 1099511627776 < m.2.1 ∨ 1099511627776 < n.2.1 ∨ now < 0 ∨ 1099511627776 < now ∨ more < 0 ∨ 1099511627776 < more ∨ 40 < (k : Int)
set_option maxHeartbeats 8000000 in
theorem rises_early (m n : MetaD) (wm : wfM m) (wn : wfM n) (fl now more t : Int) (x : Option Addr) (c : Nat) (l : List Int) (W : World) (htab : Tab W) (hlen : l.length ≤ 9223372036854775807) (h : guardR m n now more l.length) :
    Calls Tryd.prog 4 #[metaV m.1 m.2.1 m.2.2, metaV n.1 n.2.1 n.2.2, .int .i64 fl, .int .i64 now, .int .i64 more, .slice x l.length c, .int .i64 t] W fun e W' => e = .returned (.bool true) ∧ Touch [] W W' := by
  obtain ⟨W0, hW0⟩ : ∃ W0, W0 = (W.alloc (.cells #[.int .i64 m.1, .int .i64 m.2.1, .int .i64 m.2.2] TMeta)).alloc (.cells #[.int .i64 n.1, .int .i64 n.2.1, .int .i64 n.2.2] TMeta) := ⟨_, rfl⟩
  have A0 : MetaB W0 W.heap.size m := by rw [hW0]; exact heap_alloc_keep (heap_alloc_new W _) _
  have B0 : MetaB W0 (W.heap.size + 1) n := by
    rw [hW0]
    have := heap_alloc_new (W.alloc (.cells #[.int .i64 m.1, .int .i64 m.2.1, .int .i64 m.2.2] TMeta)) (.cells #[.int .i64 n.1, .int .i64 n.2.1, .int .i64 n.2.2] TMeta)
    rwa [World.size_alloc] at this
  have t0 : Touch [] W W0 := by rw [hW0]; exact ((Touch.refl [] W).alloc _).alloc _
  have T0 := hid t0
  have CA := hid fun w (t : Touch [] W0 w) => alive15_true w (htab.touch (t0.trans t (by simp)))
  have K : Hid (∀ w, Touch [] W0 w → (w.cell? ⟨W.heap.size, 0, none⟩ = some (.int .i64 m.1) ∧ w.cell? ⟨W.heap.size, 1, none⟩ = some (.int .i64 m.2.1) ∧ w.cell? ⟨W.heap.size, 2, none⟩ = some (.int .i64 m.2.2)) ∧ w.cell? ⟨W.heap.size + 1, 0, none⟩ = some (.int .i64 n.1) ∧ w.cell? ⟨W.heap.size + 1, 1, none⟩ = some (.int .i64 n.2.1) ∧ w.cell? ⟨W.heap.size + 1, 2, none⟩ = some (.int .i64 n.2.2)) := hid fun w t => ⟨(A0.t t).c, (B0.t t).c⟩
  unfold metaV
  clear A0 B0 htab wm wn t0
  by_cases g0 : m.1 < 0
  · have d0 : decide (m.1 < 0) = true := by rw [decide_eq_true_eq]; omega
    clear h g0
    go_enter Tryd.func4, Tryd.ntmps4
    go_upto_region 1 with fail
    rw [← hW0]
    clear hW0
    obtain ⟨⟨k0, k1, k2⟩, k3, k4, k5⟩ := K.out _ (Touch.refl [] W0)
    go_wp2_with fail
    refine (CA.out _ (Touch.refl [] W0)).mono ?_
    rintro e w1 ⟨rfl, t1⟩
    have T1 := hid (T0.out.trans t1 (by simp))
    clear t1
    go_wp2
    go_ret
    exact ⟨rfl, T1.out⟩
  · have d0 : decide (m.1 < 0) = false := by rw [decide_eq_false_iff_not]; exact g0
    by_cases g1 : m.2.1 < 0
    · have d1 : decide (m.2.1 < 0) = true := by rw [decide_eq_true_eq]; omega
      clear h g1
      go_enter Tryd.func4, Tryd.ntmps4
      go_upto_region 1 with fail
      rw [← hW0]
      clear hW0
      obtain ⟨⟨k0, k1, k2⟩, k3, k4, k5⟩ := K.out _ (Touch.refl [] W0)
      go_wp2_with fail
      refine (CA.out _ (Touch.refl [] W0)).mono ?_
      rintro e w1 ⟨rfl, t1⟩
      have T1 := hid (T0.out.trans t1 (by simp))
      clear t1
      go_wp2
      go_ret
      exact ⟨rfl, T1.out⟩
    · have d1 : decide (m.2.1 < 0) = false := by rw [decide_eq_false_iff_not]; exact g1
      by_cases g2 : m.2.2 < 0
      · have d2 : decide (m.2.2 < 0) = true := by rw [decide_eq_true_eq]; omega
        clear h g2
        go_enter Tryd.func4, Tryd.ntmps4
        go_upto_region 1 with fail
        rw [← hW0]
        clear hW0
        obtain ⟨⟨k0, k1, k2⟩, k3, k4, k5⟩ := K.out _ (Touch.refl [] W0)
        go_wp2_with fail
        refine (CA.out _ (Touch.refl [] W0)).mono ?_
        rintro e w1 ⟨rfl, t1⟩
        have T1 := hid (T0.out.trans t1 (by simp))
        clear t1
        go_wp2
        go_ret
        exact ⟨rfl, T1.out⟩
      · have d2 : decide (m.2.2 < 0) = false := by rw [decide_eq_false_iff_not]; exact g2
        by_cases g3 : n.1 < 0
        · have d3 : decide (n.1 < 0) = true := by rw [decide_eq_true_eq]; omega
          clear h g3
          go_enter Tryd.func4, Tryd.ntmps4
          go_upto_region 1 with fail
          rw [← hW0]
          clear hW0
          obtain ⟨⟨k0, k1, k2⟩, k3, k4, k5⟩ := K.out _ (Touch.refl [] W0)
          go_wp2_with fail
          refine (CA.out _ (Touch.refl [] W0)).mono ?_
          rintro e w1 ⟨rfl, t1⟩
          have T1 := hid (T0.out.trans t1 (by simp))
          clear t1
          go_wp2
          go_ret
          exact ⟨rfl, T1.out⟩
        · have d3 : decide (n.1 < 0) = false := by rw [decide_eq_false_iff_not]; exact g3
          by_cases g4 : n.2.1 < 0
          · have d4 : decide (n.2.1 < 0) = true := by rw [decide_eq_true_eq]; omega
            clear h g4
            go_enter Tryd.func4, Tryd.ntmps4
            go_upto_region 1 with fail
            rw [← hW0]
            clear hW0
            obtain ⟨⟨k0, k1, k2⟩, k3, k4, k5⟩ := K.out _ (Touch.refl [] W0)
            go_wp2_with fail
            refine (CA.out _ (Touch.refl [] W0)).mono ?_
            rintro e w1 ⟨rfl, t1⟩
            have T1 := hid (T0.out.trans t1 (by simp))
            clear t1
            go_wp2
            go_ret
            exact ⟨rfl, T1.out⟩
          · have d4 : decide (n.2.1 < 0) = false := by rw [decide_eq_false_iff_not]; exact g4
            by_cases g5 : n.2.2 < 0
            · have d5 : decide (n.2.2 < 0) = true := by rw [decide_eq_true_eq]; omega
              clear h g5
              go_enter Tryd.func4, Tryd.ntmps4
              go_upto_region 1 with fail
              rw [← hW0]
              clear hW0
              obtain ⟨⟨k0, k1, k2⟩, k3, k4, k5⟩ := K.out _ (Touch.refl [] W0)
              go_wp2_with fail
              refine (CA.out _ (Touch.refl [] W0)).mono ?_
              rintro e w1 ⟨rfl, t1⟩
              have T1 := hid (T0.out.trans t1 (by simp))
              clear t1
              go_wp2
              go_ret
              exact ⟨rfl, T1.out⟩
            · have d5 : decide (n.2.2 < 0) = false := by rw [decide_eq_false_iff_not]; exact g5
              by_cases g6 : 1099511627776 < m.2.1
              · have d6 : decide (1099511627776 < m.2.1) = true := by rw [decide_eq_true_eq]; omega
                clear h g6
                go_enter Tryd.func4, Tryd.ntmps4
                go_upto_region 1 with fail
                rw [← hW0]
                clear hW0
                obtain ⟨⟨k0, k1, k2⟩, k3, k4, k5⟩ := K.out _ (Touch.refl [] W0)
                go_wp2_with fail
                refine (CA.out _ (Touch.refl [] W0)).mono ?_
                rintro e w1 ⟨rfl, t1⟩
                have T1 := hid (T0.out.trans t1 (by simp))
                clear t1
                go_wp2
                go_ret
                exact ⟨rfl, T1.out⟩
              · have d6 : decide (1099511627776 < m.2.1) = false := by rw [decide_eq_false_iff_not]; exact g6
                by_cases g7 : 1099511627776 < n.2.1
                · have d7 : decide (1099511627776 < n.2.1) = true := by rw [decide_eq_true_eq]; omega
                  clear h g7
                  go_enter Tryd.func4, Tryd.ntmps4
                  go_upto_region 1 with fail
                  rw [← hW0]
                  clear hW0
                  obtain ⟨⟨k0, k1, k2⟩, k3, k4, k5⟩ := K.out _ (Touch.refl [] W0)
                  go_wp2_with fail
                  refine (CA.out _ (Touch.refl [] W0)).mono ?_
                  rintro e w1 ⟨rfl, t1⟩
                  have T1 := hid (T0.out.trans t1 (by simp))
                  clear t1
                  go_wp2
                  go_ret
                  exact ⟨rfl, T1.out⟩
                · have d7 : decide (1099511627776 < n.2.1) = false := by rw [decide_eq_false_iff_not]; exact g7
                  by_cases g8 : now < 0
                  · have d8 : decide (now < 0) = true := by rw [decide_eq_true_eq]; omega
                    clear h g8
                    go_enter Tryd.func4, Tryd.ntmps4
                    go_upto_region 1 with fail
                    rw [← hW0]
                    clear hW0
                    obtain ⟨⟨k0, k1, k2⟩, k3, k4, k5⟩ := K.out _ (Touch.refl [] W0)
                    go_wp2_with fail
                    refine (CA.out _ (Touch.refl [] W0)).mono ?_
                    rintro e w1 ⟨rfl, t1⟩
                    have T1 := hid (T0.out.trans t1 (by simp))
                    clear t1
                    go_wp2
                    go_ret
                    exact ⟨rfl, T1.out⟩
                  · have d8 : decide (now < 0) = false := by rw [decide_eq_false_iff_not]; exact g8
                    by_cases g9 : 1099511627776 < now
                    · have d9 : decide (1099511627776 < now) = true := by rw [decide_eq_true_eq]; omega
                      clear h g9
                      go_enter Tryd.func4, Tryd.ntmps4
                      go_upto_region 1 with fail
                      rw [← hW0]
                      clear hW0
                      obtain ⟨⟨k0, k1, k2⟩, k3, k4, k5⟩ := K.out _ (Touch.refl [] W0)
                      go_wp2_with fail
                      refine (CA.out _ (Touch.refl [] W0)).mono ?_
                      rintro e w1 ⟨rfl, t1⟩
                      have T1 := hid (T0.out.trans t1 (by simp))
                      clear t1
                      go_wp2
                      go_ret
                      exact ⟨rfl, T1.out⟩
                    · have d9 : decide (1099511627776 < now) = false := by rw [decide_eq_false_iff_not]; exact g9
                      by_cases g10 : more < 0
                      · have d10 : decide (more < 0) = true := by rw [decide_eq_true_eq]; omega
                        clear h g10
                        go_enter Tryd.func4, Tryd.ntmps4
                        go_upto_region 1 with fail
                        rw [← hW0]
                        clear hW0
                        obtain ⟨⟨k0, k1, k2⟩, k3, k4, k5⟩ := K.out _ (Touch.refl [] W0)
                        go_wp2_with fail
                        refine (CA.out _ (Touch.refl [] W0)).mono ?_
                        rintro e w1 ⟨rfl, t1⟩
                        have T1 := hid (T0.out.trans t1 (by simp))
                        clear t1
                        go_wp2
                        go_ret
                        exact ⟨rfl, T1.out⟩
                      · have d10 : decide (more < 0) = false := by rw [decide_eq_false_iff_not]; exact g10
                        by_cases g11 : 1099511627776 < more
                        · have d11 : decide (1099511627776 < more) = true := by rw [decide_eq_true_eq]; omega
                          clear h g11
                          go_enter Tryd.func4, Tryd.ntmps4
                          go_upto_region 1 with fail
                          rw [← hW0]
                          clear hW0
                          obtain ⟨⟨k0, k1, k2⟩, k3, k4, k5⟩ := K.out _ (Touch.refl [] W0)
                          go_wp2_with fail
                          refine (CA.out _ (Touch.refl [] W0)).mono ?_
                          rintro e w1 ⟨rfl, t1⟩
                          have T1 := hid (T0.out.trans t1 (by simp))
                          clear t1
                          go_wp2
                          go_ret
                          exact ⟨rfl, T1.out⟩
                        · have d11 : decide (1099511627776 < more) = false := by rw [decide_eq_false_iff_not]; exact g11
                          have g12 : 40 < (l.length : Int) := by
                            unfold guardR at h
                            omega
                          have d12 : decide (40 < l.length) = true := by rw [decide_eq_true_eq]; omega
                          have d13 : decide ((40 : Int) < (l.length : Int)) = true := by rw [decide_eq_true_eq]; omega
                          clear h g12
                          go_enter Tryd.func4, Tryd.ntmps4
                          go_upto_region 1 with fail
                          rw [← hW0]
                          clear hW0
                          obtain ⟨⟨k0, k1, k2⟩, k3, k4, k5⟩ := K.out _ (Touch.refl [] W0)
                          go_wp2_with fail
                          refine (CA.out _ (Touch.refl [] W0)).mono ?_
                          rintro e w1 ⟨rfl, t1⟩
                          have T1 := hid (T0.out.trans t1 (by simp))
                          clear t1
                          go_wp2
                          go_ret
                          exact ⟨rfl, T1.out⟩
set_option maxHeartbeats 8000000 in
theorem rises_main (m n : MetaD) (wm : wfM m) (wn : wfM n) (fl now more t : Int) (x : Option Addr) (c : Nat) (l : List Int) (W : World) (htab : Tab W) (f0 : -9223372036854775808 ≤ fl) (f1 : fl ≤ 9223372036854775807) (hx : IntX W x l) (hc : x = none → c = 0 ∧ l = []) (hw : Wl l) (h : ¬ guardR m n now more l.length) :
    Calls Tryd.prog 4 #[metaV m.1 m.2.1 m.2.2, metaV n.1 n.2.1 n.2.2, .int .i64 fl, .int .i64 now, .int .i64 more, .slice x l.length c, .int .i64 t] W fun e W' => e = .returned (.bool true) ∧ Touch [] W W' := by
  have hg : 0 ≤ m.1 ∧ 0 ≤ m.2.1 ∧ 0 ≤ m.2.2 ∧ 0 ≤ n.1 ∧ 0 ≤ n.2.1 ∧ 0 ≤ n.2.2 ∧ m.2.1 ≤ 1099511627776 ∧ n.2.1 ≤ 1099511627776 ∧ 0 ≤ now ∧ now ≤ 1099511627776 ∧ 0 ≤ more ∧ more ≤ 1099511627776 ∧ l.length ≤ 40 := by
    unfold guardR at h
    omega
  obtain ⟨g0, g1, g2, g3, g4, g5, g6, g7, g8, g9, g10, g11, g12⟩ := hg
  clear h
  obtain ⟨W0, hW0⟩ : ∃ W0, W0 = (W.alloc (.cells #[.int .i64 m.1, .int .i64 m.2.1, .int .i64 m.2.2] TMeta)).alloc (.cells #[.int .i64 n.1, .int .i64 n.2.1, .int .i64 n.2.2] TMeta) := ⟨_, rfl⟩
  have A0 : MetaB W0 W.heap.size m := by rw [hW0]; exact heap_alloc_keep (heap_alloc_new W _) _
  have B0 : MetaB W0 (W.heap.size + 1) n := by
    rw [hW0]
    have := heap_alloc_new (W.alloc (.cells #[.int .i64 m.1, .int .i64 m.2.1, .int .i64 m.2.2] TMeta)) (.cells #[.int .i64 n.1, .int .i64 n.2.1, .int .i64 n.2.2] TMeta)
    rwa [World.size_alloc] at this
  have t0 : Touch [] W W0 := by rw [hW0]; exact ((Touch.refl [] W).alloc _).alloc _
  have T0 := hid t0
  have CA := hid fun w (t : Touch [] W0 w) => alive15_true w (htab.touch (t0.trans t (by simp)))
  have K : Hid (∀ w, Touch [] W0 w → (w.cell? ⟨W.heap.size, 0, none⟩ = some (.int .i64 m.1) ∧ w.cell? ⟨W.heap.size, 1, none⟩ = some (.int .i64 m.2.1) ∧ w.cell? ⟨W.heap.size, 2, none⟩ = some (.int .i64 m.2.2)) ∧ w.cell? ⟨W.heap.size + 1, 0, none⟩ = some (.int .i64 n.1) ∧ w.cell? ⟨W.heap.size + 1, 1, none⟩ = some (.int .i64 n.2.1) ∧ w.cell? ⟨W.heap.size + 1, 2, none⟩ = some (.int .i64 n.2.2)) := hid fun w t => ⟨(A0.t t).c, (B0.t t).c⟩
  have CF : Hid (∀ (k : MetaD), (k = m ∨ k = n) → ∀ fl', -9223372036854775808 ≤ fl' → fl' ≤ 9223372036854775807 → ∀ w, Touch [] W0 w → ∀ now', 0 ≤ now' → now' ≤ 2199023255552 → Calls Tryd.prog 13 #[.agg #[.int .i64 k.1, .int .i64 k.2.1, .int .i64 k.2.2], .int .i64 fl', .int .i64 now', .slice x l.length c] w fun e w' => e = .returned (.int .i64 (floorV k fl' now' l)) ∧ Touch [] w w') := hid fun k hk fl' h1 h2 w t now' h3 h4 => floor_any k fl' now' x c l w (hx.t0 (t0.trans t (by simp))) (by omega) hw h1 h2 (by rcases hk with rfl | rfl <;> omega) (by rcases hk with rfl | rfl <;> first | exact wm.1.2 | exact wn.1.2) (by omega) (by omega)
  have CF3 : Hid (∀ y cap w z, w.ownsRow z TInt 1 (.slice y (l.length + 1) cap) (l.length + 1) (intV (l ++ [now + more])) → Calls Tryd.prog 13 #[.agg #[.int .i64 m.1, .int .i64 m.2.1, .int .i64 m.2.2], .int .i64 fl, .int .i64 (now + more), .slice y (l.length + 1) cap] w fun e w' => e = .returned (.int .i64 (floorV m fl (now + more) (l ++ [now + more]))) ∧ Touch [] w w') := hid fun y cap w z hO => by
    obtain ⟨y', c', hv, hn, hX⟩ := intX_own hO
    injection hv with e1 e2 e3
    subst e1
    have := floor_any m fl (now + more) y cap (l ++ [now + more]) w hX (by simp; omega) (by
      intro t ht
      rcases List.mem_append.1 ht with h | h
      · exact hw t h
      · obtain rfl := List.mem_singleton.1 h
        omega) f0 f1 (by omega) wm.1.2 (by omega) (by omega)
    rw [show (l ++ [now + more]).length = l.length + 1 by simp] at this
    exact this
  have HX : Hid (∀ w, Touch [] W0 w → IntX w x l) := hid fun w t => hx.t0 (t0.trans t (by simp))
  have HC := hid hc
  have P1 := hid (floor_low m fl now l)
  have P2 := hid (floor_low m fl (now + more) l)
  have P3 : Hid (floorV m fl (now + more) (l ++ [now + more]) ≤ (l.length : Int) + 1) := hid (by have := (floor_low m fl (now + more) (l ++ [now + more])).2; simpa using this)
  have P4 := hid (floor_later m fl (show now ≤ now + more by omega) l)
  have P5 := hid (floor_more m fl (now + more) (now + more) l)
  have P6 : Hid (floorV m fl now l ≤ floorV n (floorV m fl now l) (now + more) l) := hid (floor_self n _ _ l (floor_low m fl now l).2)
  have P7 : Hid (fl ≤ l.length → fl ≤ floorV m fl now l) := hid fun h => floor_self m fl now l h
  unfold metaV
  have d0 : decide (m.1 < 0) = false := by rw [decide_eq_false_iff_not]; omega
  have d1 : decide (m.2.1 < 0) = false := by rw [decide_eq_false_iff_not]; omega
  have d2 : decide (m.2.2 < 0) = false := by rw [decide_eq_false_iff_not]; omega
  have d3 : decide (n.1 < 0) = false := by rw [decide_eq_false_iff_not]; omega
  have d4 : decide (n.2.1 < 0) = false := by rw [decide_eq_false_iff_not]; omega
  have d5 : decide (n.2.2 < 0) = false := by rw [decide_eq_false_iff_not]; omega
  have d6 : decide (1099511627776 < m.2.1) = false := by rw [decide_eq_false_iff_not]; omega
  have d7 : decide (1099511627776 < n.2.1) = false := by rw [decide_eq_false_iff_not]; omega
  have d8 : decide (now < 0) = false := by rw [decide_eq_false_iff_not]; omega
  have d9 : decide (1099511627776 < now) = false := by rw [decide_eq_false_iff_not]; omega
  have d10 : decide (more < 0) = false := by rw [decide_eq_false_iff_not]; omega
  have d11 : decide (1099511627776 < more) = false := by rw [decide_eq_false_iff_not]; omega
  have d12 : decide (40 < l.length) = false := by rw [decide_eq_false_iff_not]; omega
  have d13 : decide ((40 : Int) < (l.length : Int)) = false := by rw [decide_eq_false_iff_not]; omega
  obtain ⟨i0, hi, hz0, hz1, hz2⟩ := info_parts infoInt
  clear A0 B0 htab wm wn t0 hx hc hw
  go_enter Tryd.func4, Tryd.ntmps4
  go_upto_region 1 with fail
  rw [← hW0]
  clear hW0
  obtain ⟨⟨k0, k1, k2⟩, k3, k4, k5⟩ := K.out _ (Touch.refl [] W0)
  go_wp2
  go_loopw [15] (fun iv wr => ∃ k : Nat, k ≤ l.length ∧ iv = .int .i64 k ∧ Hid (Touch [] W0 wr)) (fun iv _ => l.length - (RowKit.intOf iv).toNat)
  case atStart => exact ⟨0, Nat.zero_le _, rfl, hid (Touch.refl _ _)⟩
  case round =>
    obtain ⟨k, hk, rfl, ht⟩ := hrel
    by_cases hlt : k < l.length
    · have hlt2 : decide (k < l.length) = true := by simpa using hlt
      have hI : (k : Int) < l.length := by omega
      have HXr := HX.out _ ht.out
      obtain ⟨b, off, hxe, e0⟩ := HXr k hlt
      subst hxe
      have HXp : ∀ (h0 : 0 < k), wr.cell? ⟨b, off + (k - 1), none⟩ = some (.int .i64 (l[k - 1]'(by omega))) := fun h0 => by
        obtain ⟨b', off', e, h1⟩ := HXr (k - 1) (by omega)
        cases e
        exact h1
      clear HXr
      have BAD : Hid (∀ w, Touch [] wr w → Calls Tryd.prog 7 #[] w fun e w' => e = .returned (.bool true) ∧ Touch [] W w') := hid fun w t => (CA.out _ (ht.out.trans t (by simp))).mono fun e w' ⟨he, h2⟩ => ⟨he, (T0.out.trans (ht.out.trans t (by simp)) (by simp)).trans h2 (by simp)⟩
      clear CF CF3 P1 P2 P3 P4 P5 P6 P7 CA
      by_cases b1 : l[k] < 0
      · have e1 : decide (l[k] < 0) = true := by simpa using b1
        generalize l[k] = tk at *
        clear HXp b1
        go_wp2
        go_quiet (fail)
        go_wp2_with fail
        refine (BAD.out _ ((Touch.refl [] wr).drewN _)).mono ?_
        rintro e w1 ⟨rfl, t1⟩
        have T1 := hid t1
        clear t1
        go_wp2
        go_ret
        exact ⟨rfl, T1.out⟩
      · have e1 : decide (l[k] < 0) = false := by simpa using b1
        by_cases b2 : now < l[k]
        · have e2 : decide (now < l[k]) = true := by simpa using b2
          generalize l[k] = tk at *
          clear HXp b1 b2
          go_wp2
          go_quiet (fail)
          go_wp2_with fail
          refine (BAD.out _ ((Touch.refl [] wr).drewN _)).mono ?_
          rintro e w1 ⟨rfl, t1⟩
          have T1 := hid t1
          clear t1
          go_wp2
          go_ret
          exact ⟨rfl, T1.out⟩
        · have e2 : decide (now < l[k]) = false := by simpa using b2
          by_cases h0 : 0 < k
          · have z1 : decide (0 < k) = true := by simpa using h0
            have z2 : decide ((0 : Int) < (k : Int)) = true := by rw [decide_eq_true_eq]; omega
            have p0 := HXp h0
            have pk : (k : Int) - 1 < l.length := by omega
            have pk0 : 0 ≤ (k : Int) - 1 := by omega
            have pn : ((k : Int) - 1).toNat = k - 1 := by omega
            have p00 : wr.cell? ⟨b, off + ((k : Int) - 1).toNat, none⟩ = some (.int .i64 (l[k - 1]'(by omega))) := by rw [pn]; exact p0
            have pw : IntKind.i64.wrap ((k : Int) - 1) = (k : Int) - 1 := IntWalk.i64_in _ (by omega)
            by_cases b3 : l[k] < l[k - 1]'(by omega)
            · have e3 : decide (l[k] < l[k - 1]'(by omega)) = true := by simpa using b3
              generalize l[k] = tk at *
              generalize l[k - 1]'(by omega) = tp at *
              clear HXp b1 b2 b3
              go_wp2
              go_quiet (fail)
              go_wp2_with fail
              refine (BAD.out _ ((Touch.refl [] wr).drewN _)).mono ?_
              rintro e w1 ⟨rfl, t1⟩
              have T1 := hid t1
              clear t1
              go_wp2
              go_ret
              exact ⟨rfl, T1.out⟩
            · have e3 : decide (l[k] < l[k - 1]'(by omega)) = false := by simpa using b3
              generalize l[k] = tk at *
              generalize l[k - 1]'(by omega) = tp at *
              clear HXp b1 b2 b3 BAD
              go_wp2
              go_quiet (fail)
              go_wp2
              go_roundw
              case rel => exact ⟨k + 1, by omega, by go_num, hid (ht.out.drewN _)⟩
              case measure => simp [RowKit.intOf]; omega
          · have z1 : decide (0 < k) = false := by simpa using h0
            have z2 : decide ((0 : Int) < (k : Int)) = false := by rw [decide_eq_false_iff_not]; omega
            generalize l[k] = tk at *
            clear HXp b1 b2 BAD
            go_wp2
            go_quiet (fail)
            go_wp2
            go_roundw
            case rel => exact ⟨k + 1, by omega, by go_num, hid (ht.out.drewN _)⟩
            case measure => simp [RowKit.intOf]; omega
    · obtain rfl : k = l.length := by omega
      have hlt2 : decide (l.length < l.length) = false := by simp
      have TWr := ht.out
      have HTW := hid TWr
      obtain ⟨⟨m0, m1, m2⟩, n0, n1, n2⟩ := K.out _ TWr
      clear k0 k1 k2 k3 k4 k5 TWr
      have C1 := hid fun w t => CF.out m (.inl rfl) fl f0 f1 w t now g8 (by omega)
      have C2 := hid fun w t => CF.out m (.inl rfl) fl f0 f1 w t (now + more) (by omega) (by omega)
      have C4 := hid fun w t => CF.out n (.inr rfl) (floorV m fl now l) (by have := P1.out; omega) (by have := P1.out; omega) w t (now + more) (by omega) (by omega)
      have W1 : IntKind.i64.wrap (now + more) = now + more := IntWalk.i64_in _ (by omega)
      obtain ⟨q1, q2⟩ := P1.out
      obtain ⟨q3, q4⟩ := P2.out
      have q5 := P3.out
      have q6 := P4.out
      have q7 := P5.out
      have q8 := P6.out
      have q9 := P7.out
      clear CF P1 P2 P3 P4 P5 P6 P7
      generalize floorV m fl now l = va at *
      generalize floorV m fl (now + more) l = vb at *
      generalize floorV m fl (now + more) (l ++ [now + more]) = vc at *
      generalize floorV n va (now + more) l = vd at *
      have Q := hid (show (0 ≤ va ∧ va ≤ l.length) ∧ (0 ≤ vb ∧ vb ≤ l.length) ∧ vc ≤ (l.length : Int) + 1 ∧ va ≤ vb ∧ vb ≤ vc ∧ va ≤ vd ∧ (fl ≤ l.length → fl ≤ va) from ⟨⟨q1, q2⟩, ⟨q3, q4⟩, q5, q6, q7, q8, q9⟩)
      clear q1 q2 q3 q4 q5 q6 q7 q8 q9
      go_wp2_with fail
      refine (C1.out _ HTW.out).mono ?_
      rintro e w1 ⟨rfl, t1⟩
      have T1 := hid (HTW.out.trans t1 (by simp))
      obtain ⟨⟨a0, a1, a2⟩, -⟩ := K.out _ T1.out
      clear t1 C1 m0 m1 m2 n0 n1 n2
      go_wp2_with fail
      refine (C2.out _ T1.out).mono ?_
      rintro e w2 ⟨rfl, t2⟩
      have T2 := hid (T1.out.trans t2 (by simp))
      obtain ⟨⟨b0, b1, b2⟩, -⟩ := K.out _ T2.out
      have KK : Hid (∀ w, Touch [] w2 w → w.cell? ⟨W.heap.size, 0, none⟩ = some (.int .i64 m.1) ∧ w.cell? ⟨W.heap.size, 1, none⟩ = some (.int .i64 m.2.1) ∧ w.cell? ⟨W.heap.size, 2, none⟩ = some (.int .i64 m.2.2)) := hid fun w t => (K.out _ (T2.out.trans t (by simp))).1
      clear t2 C2 a0 a1 a2
      go_upto_region 10 with fail
      obtain ⟨j0, j1, j2⟩ := KK.out _ (Touch.refl [] w2).drew
      obtain ⟨i0', i1, i2⟩ := KK.out _ ((Touch.refl [] w2).alloc (.cells #[.int .i64 (now + more)] TInt)).drew
      go_region_law (first
        | (refine step_append_ints0 rfl (.const (.slice none 0 0)) (.tmp 133) rfl x l c (by first | (simp [Act.eval]; done) | kernel_rfl) (by first | (simp [Act.eval]; done) | kernel_rfl) (HX.out _ (by first | exact T2.out.drew | exact (T2.out.alloc _).drew)) HC.out (by omega) ?_; intro y1 c1 w9 hO9 hT9; have O9 := hid (own_up (base' := w2.heap.size) hO9 (by simp)); have T9 : Hid (Touch [] w2 w9) := hid (by first | exact (Touch.refl [] w2).drew.trans hT9 (by simp) | exact ((Touch.refl [] w2).alloc _).drew.trans hT9 (by simp)); have U9 := hid hT9; obtain ⟨x0, x1, x2⟩ := KK.out _ T9.out; obtain ⟨v0, v1, v2⟩ := KK.out _ (T9.out.alloc (.cells #[.int .i64 (now + more)] TInt)); clear hO9 hT9)
        | (refine step_append_row _ rfl (.tmp 134) (.tmp 138) TInts rfl w2.heap.size TInt i0 (.int .i64 0) 8 Tryd.underlying24 hi hz0 hz1 hz2 rfl (.slice y1 l.length c1) l.length (intV l) (by first | (simp [Act.eval]; done) | kernel_rfl) (O9.out.alloc _) w9.heap.size 1 1 0 (intV [now + more]) (by first | (simp [Act.eval]; done) | kernel_rfl) (World.ownsRow_lit w9 (intV [now + more]).toArray 1 (Nat.zero_le _) (by decide) rfl) (intV_one _) (by omega) (by decide) (by have := T9.out.size; simp; omega) ?_; intro y2 c2 w10 hG; have T10 := hid (hG.touch (O9.out.alloc _) (T9.out.alloc _) (Nat.le_refl _)); have O10 : Hid (w10.ownsRow w2.heap.size TInt 1 (.slice y2 (l.length + 1) c2) (l.length + 1) (intV (l ++ [now + more]))) := hid (by rw [intV_app]; exact hG.own); obtain ⟨z0, z1, z2⟩ := KK.out _ T10.out; clear hG)
        | (refine step_append_row _ rfl (.tmp 134) (.tmp 138) TInts rfl w2.heap.size TInt i0 (.int .i64 0) 8 Tryd.underlying24 hi hz0 hz1 hz2 rfl (.slice y1 l.length c1) l.length (intV l) (by first | (simp [Act.eval]; done) | kernel_rfl) O9.out w2.heap.size 1 1 0 (intV [now + more]) (by first | (simp [Act.eval]; done) | kernel_rfl) (owns_touch (World.ownsRow_lit w2 (intV [now + more]).toArray 1 (Nat.zero_le _) (by decide) rfl).drew U9.out) (intV_one _) (by omega) (by decide) (T9.out.size) ?_; intro y2 c2 w10 hG; have T10 := hid (hG.touch O9.out T9.out (Nat.le_refl _)); have O10 : Hid (w10.ownsRow w2.heap.size TInt 1 (.slice y2 (l.length + 1) c2) (l.length + 1) (intV (l ++ [now + more]))) := hid (by rw [intV_app]; exact hG.own); obtain ⟨z0, z1, z2⟩ := KK.out _ T10.out; clear hG)
        | (refine step_call _ rfl (f := 13) (args := #[.agg #[.int .i64 m.1, .int .i64 m.2.1, .int .i64 m.2.2], .int .i64 fl, .int .i64 (now + more), .slice y2 (l.length + 1) c2]) (by (simp [go_sem, Act.eval]; done)) (CF3.out y2 c2 w10 _ O10.out) ?_; rintro e w3 ⟨rfl, t3⟩; have T3 := hid ((T2.out.trans T10.out (by simp)).trans t3 (by simp)); clear t3; refine ⟨_, rfl, ?_⟩)
        | fail)
      all_goals
        obtain ⟨-, n0, n1, n2⟩ := K.out _ T3.out
        go_wp2_with fail
        refine (C4.out _ T3.out).mono ?_
        rintro e w4 ⟨rfl, t4⟩
        have T4 := hid (T3.out.trans t4 (by simp))
        clear t4 C4 CF3 n0 n1 n2
        obtain ⟨⟨q1, q2⟩, ⟨q3, q4⟩, q5, q6, q7, q8, q9⟩ := Q.out
        by_cases hf : (l.length : Int) < fl
        · have e1 : decide ((l.length : Int) < fl) = true := by simpa using hf
          clear q9
          go_wp2_with fail
          refine (CA.out _ T4.out).mono ?_
          rintro e w5 ⟨rfl, t5⟩
          have T5 := hid ((T0.out.trans T4.out (by simp)).trans t5 (by simp))
          clear t5
          go_wp2
          go_ret
          exact ⟨rfl, T5.out⟩
        · have e1 : decide ((l.length : Int) < fl) = false := by simpa using hf
          have q10 := q9 (by omega)
          clear q9
          go_wp2_with fail
          refine (CA.out _ T4.out).mono ?_
          rintro e w5 ⟨rfl, t5⟩
          have T5 := hid ((T0.out.trans T4.out (by simp)).trans t5 (by simp))
          clear t5
          go_wp2
          go_ret
          exact ⟨rfl, T5.out⟩
theorem walk_MetaRises (m : MetaD) (wm : wfM m) (n : MetaD) (wn : wfM n) (fl : Int) (wf : (Lit.int .i64 fl).wf = true) (now : Int) (_wn : (Lit.int .i64 now).wf = true) (more : Int) (_wo : (Lit.int .i64 more).wf = true) (v : Value) (l : List Int) (t : Int) (_wt : (Lit.int .i64 t).wf = true) (W : World) (hl : IntsW W v l) (htab : Tab W) :
    Calls Tryd.prog 4 #[metaV m.1 m.2.1 m.2.2, metaV n.1 n.2.1 n.2.2, .int .i64 fl, .int .i64 now, .int .i64 more, v, .int .i64 t] W fun e W' => e = .returned (.bool true) ∧ Touch [] W W' := by
  obtain ⟨x, c, rfl, hc, hx, hlen, hw⟩ := hl
  by_cases h : guardR m n now more l.length
  · exact rises_early m n wm wn fl now more t x c l W htab hlen h
  · exact rises_main m n wm wn fl now more t x c l W htab (i64_range wf).1 (i64_range wf).2 hx hc hw h
end Go.Proofs.YtepbflcmghkieaaDoor
