/- ProgPicks, walked. -/
import Derived.Test.YtiglfdefeaddmaaWMath
namespace Go.Proofs.Ytiglfdefeaddmaa
open Go.RowKit Go.Lib

theorem u64_nat {x : Int} (h : (Lit.int .u64 x).wf = true) : ∃ n : Nat, x = n ∧ Wd n := by
  have h2 : 0 ≤ x ∧ x ≤ 18446744073709551615 := by
    have e1 : IntKind.u64.min = 0 := rfl
    have e2 : IntKind.u64.max = 18446744073709551615 := rfl
    simp only [Lit.wf, e1, e2, Bool.and_eq_true, decide_eq_true_eq] at h
    exact h
  exact ⟨x.toNat, by omega, by unfold Wd; omega⟩

/-- A program of four words that are built at once, run over nothing. -/
theorem run_new (l : List ByteArray) (hl : ∀ s ∈ l, s.size ≤ maxLen) (hn : l.length ≤ 100) (w w1 : World) (h : Touch [] (w.alloc (.cells (l.map fun s => Value.string s).toArray TStr)) w1) :
    Calls Try.prog 19 #[.agg #[.slice (some ⟨w.heap.size, 0, none⟩) l.length l.length], env0.val] w1 (RunPost (runOf env0 l) w1) :=
  run_any _ _ l env0 w1 env0_ok (by omega) ((texts_new w l hl).touch h)

set_option maxHeartbeats 4000000 in
set_option maxRecDepth 100000 in
theorem picks_nat (a b c : Nat) (ha : Wd a) (hb : Wd b) (hc : Wd c) (w : World) :
    Calls Try.prog 6 #[.int .u64 a, .int .u64 b, .int .u64 c] w fun e w' => e = .returned (.bool true) ∧ Touch [] w w' := by
  have fa := frombits_run a
  have fb := frombits_run b
  have fc := frombits_run c
  have ta := hid (fun w => refText_any a w ha)
  have tb := hid (fun w => refText_any b w hb)
  have tc := hid (fun w => refText_any c w hc)
  have K := hid (fun w => refClass_any c w hc)
  have hr := picks_run ha hb hc
  have R := hid (fun (w0 w1 : World) => run_new (picksW a b c) (by
    intro s hs
    simp only [picksW, List.mem_cons, List.not_mem_nil, or_false] at hs
    rcases hs with rfl | rfl | rfl | rfl
    · exact textOf_size ha
    · exact textOf_size hb
    · exact textOf_size hc
    · decide) (by simp [picksW]) w0 w1)
  rw [hr] at R
  have hsf := store_flt
  have AL := hid (fun w => alive_any w)
  have SA := hid (fun w => refSame_any (can (if cls c = 0 ∨ cls c = 3 ∨ cls c = 4 then b else a)) (if cls c = 0 ∨ cls c = 3 ∨ cls c = 4 then b else a) w (by split; exact hb.can; exact ha.can) (by split; exact hb; exact ha))
  have hq : decide (can (can (if cls c = 0 ∨ cls c = 3 ∨ cls c = 4 then b else a)) = can (if cls c = 0 ∨ cls c = 3 ∨ cls c = 4 then b else a)) = true := by rw [can_can]; simp
  rw [hq] at SA
  have e1 : (picksW a b c).length = 4 := rfl
  have e2 : ((picksW a b c).map fun s => Value.string s).toArray = #[.string (txt (textOf a)), .string (txt (textOf b)), .string (txt (textOf c)), .string ⟨wPick.toArray⟩] := rfl
  rw [e1, e2] at R
  have ea : (⟨(textOf a).toArray⟩ : ByteArray) = txt (textOf a) := rfl
  have eb : (⟨(textOf b).toArray⟩ : ByteArray) = txt (textOf b) := rfl
  have ec : (⟨(textOf c).toArray⟩ : ByteArray) = txt (textOf c) := rfl
  rw [ea] at ta
  rw [eb] at tb
  rw [ec] at tc
  clear ha hb hc hr e1 e2 ea eb ec hq
  generalize txt (textOf a) = A at *
  generalize txt (textOf b) = B at *
  generalize txt (textOf c) = C at *
  generalize hD : (if cls c = 0 ∨ cls c = 3 ∨ cls c = 4 then b else a) = D at *
  have hcl : (cls c = 0 ∧ D = b) ∨ (cls c = 3 ∧ D = b) ∨ (cls c = 4 ∧ D = b) ∨ ((cls c != 0) = true ∧ (cls c != 3) = true ∧ (cls c != 4) = true ∧ D = a) := by
    rw [← hD]
    by_cases h : cls c = 0 ∨ cls c = 3 ∨ cls c = 4
    · rw [if_pos h]; omega
    · rw [if_neg h]
      simp only [not_or] at h
      exact .inr (.inr (.inr ⟨by simpa using h.1, by simpa using h.2.1, by simpa using h.2.2, rfl⟩))
  clear hD
  generalize cls c = q at *
  unfold wPick at R
  rcases hcl with ⟨rfl, rfl⟩ | ⟨rfl, rfl⟩ | ⟨rfl, rfl⟩ | ⟨q0, q3, q4, rfl⟩
  all_goals
    go_enter Try.func6, Try.ntmps6
    go_wp2_with fail
    refine (ta.out _).mono ?_
    rintro e w1 ⟨rfl, t1⟩
    go_wp2_with fail
    refine (tb.out _).mono ?_
    rintro e w2 ⟨rfl, t2⟩
    go_wp2_with fail
    refine (tc.out _).mono ?_
    rintro e w3 ⟨rfl, t3⟩
    have T3 := hid ((t1.trans t2 (by simp)).trans t3 (by simp))
    clear t1 t2 t3
    go_wp2_with fail
    refine (R.out w3 _ ((Touch.refl _ _).alloc _)).mono ?_
    rintro e w4 ⟨rfl, t4⟩
    have T4 := hid (((T3.out.alloc _).alloc _).trans t4 (by simp))
    clear t4 T3
    go_wp2_with (first | (go_at_call 23; refine (K.out _).mono ?_; rintro e w' ⟨rfl, rfl⟩) | fail)
    refine (AL.out _).mono ?_
    rintro e w5 ⟨rfl, t5⟩
    have b5 := touch_other t5 (heap_alloc_new w4 (.cells fine.cells TFault)) (by simp)
    have c50 := cell_of b5 0
    have c51 := cell_of b5 1
    have c52 := cell_of b5 2
    have T5 := hid ((T4.out.alloc _).trans t5 (by simp))
    clear b5 t5 T4
    go_wp2_with (go_at_call 15; refine (SA.out _).mono ?_; rintro e w' ⟨rfl, rfl⟩)
    go_ret
    exact ⟨rfl, T5.out⟩
theorem walk_ProgPicks (a : Int) (wa : (Lit.int .u64 a).wf = true) (b : Int) (wb : (Lit.int .u64 b).wf = true) (c : Int) (wc : (Lit.int .u64 c).wf = true) (w : World) :
    Calls Try.prog 6 #[.int .u64 a, .int .u64 b, .int .u64 c] w fun e w' => e = .returned (.bool true) ∧ Touch [] w w' := by
  obtain ⟨x, rfl, hx⟩ := u64_nat wa
  obtain ⟨y, rfl, hy⟩ := u64_nat wb
  obtain ⟨z, rfl, hz⟩ := u64_nat wc
  exact picks_nat x y z hx hy hz w
end Go.Proofs.Ytiglfdefeaddmaa
