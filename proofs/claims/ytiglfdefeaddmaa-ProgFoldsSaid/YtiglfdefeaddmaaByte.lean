/- byte: which numbers stand for a place, and what byteAt leaves. -/
import Derived.Test.YtiglfdefeaddmaaWordsb
import Derived.Laws.PanicsMore
namespace Go.Proofs.Ytiglfdefeaddmaa
open Go.RowKit Go.Lib Ieee

theorem sr_zero : sr 0 = 0 := by decide
theorem inside_facts {n x : Nat} (hn : n ≤ 300) (hx : Wd x) (h : inside n x = true) : isNan x = false ∧ rung x < 9218868437227405312 ∧ tr (rung x) < n ∧ ival x = (tr (rung x) : Int) := by
  unfold inside at h
  rw [Bool.and_eq_true] at h
  obtain ⟨h1, h2⟩ := h
  have nx : isNan x = false := by
    cases e : isNan x
    · rfl
    · rw [order_nan hx.lt (by decide) (.inl e)] at h1
      simp at h1
  obtain ⟨p1, p2, p3, p4, p5⟩ := fl_parts (n : Int) (by omega)
  rw [ge_eq hx.lt (by decide) nx (by decide), decide_eq_true_eq, sr_zero] at h1
  rw [lt_eq hx.lt p1 nx p4, decide_eq_true_eq] at h2
  have hs : sr (fl (n : Int)) = (nr n : Int) := by
    unfold sr
    rw [p2, p3, if_neg (by simp), Int.natAbs_natCast]
  rw [hs] at h2
  have hn2 := nr_spec n (by omega)
  have hr : rung x < nr n := by
    unfold sr at h1 h2
    split at h1
    · rename_i hneg
      rw [if_pos hneg] at h2
      omega
    · rename_i hneg
      rw [if_neg hneg] at h2
      omega
  have ht : tr (rung x) < n := by rw [tr_lt, ← hn2.1]; exact mv_lt hr
  refine ⟨nx, by omega, ht, ?_⟩
  unfold ival sgn
  split
  · rename_i hneg
    unfold sr at h1
    rw [if_pos hneg] at h1
    have : rung x = 0 := by omega
    rw [this]
    have : tr 0 = 0 := by unfold tr; rw [show mv 0 = 0 by decide]; simp
    rw [this]; rfl
  · rfl
/-- What 'f == math.Trunc(f)' comes to. -/
theorem whole_iff {n x : Nat} (hn : n ≤ 300) (hx : Wd x) (h : inside n x = true) : (FloatKind.f64.format.order x (trB x) == some .eq) = true ↔ W x := by
  obtain ⟨h1, h2, h3, _⟩ := inside_facts hn hx h
  rw [← isW_iff x hx.lt h2]
  unfold isW
  rw [small x h2, decide_eq_true (show tr (rung x) < 1000000000000000 by omega), Bool.and_true]

theorem placeB_yes {n x : Nat} (h : inside n x = true) (hw : W x) : placeB n x = true := by unfold placeB; simp [h, hw]
theorem placeB_no {n x : Nat} (hw : ¬ W x) : ¬ placeB n x = true := by unfold placeB; simp [hw]
/-- An index beyond its text. -/
theorem str_dies (t : TypeId) (ht : Try.prog.underlying t = some .string) (s : ByteArray) :
    ∃ (vf : World → Value) (wf : World → World), (∀ w, (Instr.index t (.string s) (.int .i64 (-1))).run Try.prog w = .halt (.panic (.iface 8 (vf w))) (wf w)) ∧ ∀ w, Touch [] w (wf w) := by
  have key : ∀ w : World, ∃ (x : Value × World), (Instr.index t (.string s) (.int .i64 (-1))).run Try.prog w = .halt (.panic (.iface 8 x.1)) x.2 ∧ Touch [] w x.2 := fun w => by
    have hb : ∀ y : Int, ∃ (x : Value × World), (boundsPanic .i64 (-1) y .index : Sem Value).run Try.prog w = .halt (.panic (.iface 8 x.1)) x.2 ∧ Touch [] w x.2 := fun y => by
      obtain ⟨s, w', hr, ht⟩ := bounds_dies (α := Value) (-1) y w
      exact ⟨(_, w'), hr, ht⟩
    rw [run_index_string (h := ht), dif_neg (by omega)]
    exact hb _
  exact ⟨fun w => (Classical.choose (key w)).1, fun w => (Classical.choose (key w)).2, fun w => (Classical.choose_spec (key w)).1, fun w => (Classical.choose_spec (key w)).2⟩

theorem byte_none (E : EnvD) (g : Nat) (W : World) (h : Mach E g [] W) : Calls Try.prog 53 #[.pointer (some ⟨g, 0, none⟩)] W (Faults runtimeF g W) := by
  obtain ⟨c0, c3, c4, c5⟩ := h.cells
  have C := hid (pop_none E g W h)
  have C2 := hid (pop_none E g W.drew (h.touch (Touch.refl _ _).drew))
  have hb := hid (fun B hB => (Touch.refl [] W).drew.below (B := B) (Nat.le_trans hB (Nat.le_of_lt h.lt)) (by simp))
  clear h
  go_enter Try.func53, Try.ntmps53
  go_wp2
  go_region_dies
  all_goals (go_at_call 55; first | (refine C.out.mono ?_; rintro e w1 ⟨⟨pv, rfl, ht⟩, h2⟩; exact ⟨rfl, ⟨_, rfl, ht⟩, h2⟩) | (refine C2.out.mono ?_; rintro e w1 ⟨⟨pv, rfl, ht⟩, h2⟩; exact ⟨rfl, Faults.after ⟨⟨_, rfl, ht⟩, h2⟩ hb.out⟩))

theorem drew_touch {F : List Nat} {W W1 : World} (h : Touch F W.drew W1) : Touch F W W1 := ⟨h.os, h.tape, h.output, h.size, h.block⟩
theorem byte_fault {E : EnvD} {g : Nat} {s : List Nat} {W w1 w2 : World} {pv : Value} (h1 : Mach E g s w1) (h2 : Touch [g] W w1) (hlt : g < W.heap.size) (ht : Touch [] w1 w2) :
    Faults runtimeF g W (.panicked [{ v := .iface 8 pv, recovered := false }]) w2 :=
  Faults.after ⟨⟨_, rfl, tells_run run_bounds _⟩, touch_below' ht h1.lt⟩ (below_pop h2 hlt)
theorem byte_dies (E : EnvD) (g : Nat) (x : Nat) (s : List Nat) (W : World) (h : Mach E g (x :: s) W) (hs : s.length ≤ 90000)
    (hp : inside E.data.size x = false) : Calls Try.prog 53 #[.pointer (some ⟨g, 0, none⟩)] W (Faults runtimeF g W) := by
  obtain ⟨c0, c3, c4, c5⟩ := h.cells
  have hlt := h.lt
  have C := hid (pop_some E g s x W h (by omega))
  have C2 := hid (pop_some E g s x W.drew (h.touch (Touch.refl _ _).drew) (by omega))
  have c1 : ∀ w, (convert 3 30 (.int .i64 (E.data.size : Int))).run Try.prog w = .ok (.float .f64 (fl E.data.size)) w := fun w => run_convert_int_float w _ _ _ _ _ (by kernel_rfl) (by kernel_rfl)
  obtain ⟨vf, wf, hd, ht⟩ := str_dies 9 Try.underlying9 E.data
  have HT := hid ht
  have hq : ∃ g0 l0, (FloatKind.f64.format.order x 0 == some .gt || FloatKind.f64.format.order x 0 == some .eq) = g0 ∧ (FloatKind.f64.format.order x (fl E.data.size) == some .lt) = l0 ∧ (g0 = false ∨ (g0 = true ∧ l0 = false)) := by
    refine ⟨_, _, rfl, rfl, ?_⟩
    unfold inside at hp
    rw [Bool.and_eq_false_iff] at hp
    rcases hp with hp | hp
    · exact .inl hp
    · cases e : (FloatKind.f64.format.order x 0 == some .gt || FloatKind.f64.format.order x 0 == some .eq)
      · exact .inl rfl
      · exact .inr ⟨rfl, hp⟩
  obtain ⟨g0, l0, t0, t1, ht01⟩ := hq
  clear h hs ht hp
  rcases ht01 with rfl | ⟨rfl, rfl⟩
  all_goals
    go_enter Try.func53, Try.ntmps53
    go_wp2
    go_region_with (go_at_call 55; first | (refine C.out.mono ?_; rintro e w1 ⟨rfl, h1, h2⟩; have c3' := h1.cells.2.1) | (refine C2.out.mono ?_; rintro e w1 ⟨rfl, h1, h20⟩; have c3' := h1.cells.2.1; have h2 := drew_touch h20; clear h20))
    all_goals go_wp2
    all_goals exact ⟨rfl, byte_fault h1 h2 hlt (HT.out _)⟩

theorem byte_in (E : EnvD) (g : Nat) (x : Nat) (s : List Nat) (W : World) (hE : E.data.size ≤ 300) (h : Mach E g (x :: s) W) (hs : s.length ≤ 90000)
    (hp : inside E.data.size x = true) : Calls Try.prog 53 #[.pointer (some ⟨g, 0, none⟩)] W (Post E g (stepK E .byte (x :: s)) W) := by
  obtain ⟨c0, c3, c4, c5⟩ := h.cells
  have hlt := h.lt
  have hx : Wd x := h.wd x (by simp)
  have C := hid (pop_some E g s x W h (by omega))
  have C2 := hid (pop_some E g s x W.drew (h.touch (Touch.refl _ _).drew) (by omega))
  have c1 : ∀ w, (convert 3 30 (.int .i64 (E.data.size : Int))).run Try.prog w = .ok (.float .f64 (fl E.data.size)) w := fun w => run_convert_int_float w _ _ _ _ _ (by kernel_rfl) (by kernel_rfl)
  obtain ⟨vf, wf, hd, ht⟩ := str_dies 9 Try.underlying9 E.data
  have HT := hid ht
  obtain ⟨nx, hf, htr, hiv⟩ := inside_facts hE hx hp
  have hwi := whole_iff hE hx hp
  have K := hid (fun w : World => trunc_any x w hx nx)
  have t01 : (FloatKind.f64.format.order x 0 == some .gt || FloatKind.f64.format.order x 0 == some .eq) = true ∧ (FloatKind.f64.format.order x (fl E.data.size) == some .lt) = true := by
    unfold inside at hp
    rw [Bool.and_eq_true] at hp
    exact hp
  obtain ⟨t0, t1⟩ := t01
  by_cases hw : Proofs.Ytiglfdefeaddmaa.W x
  · have hst : stepK E .byte (x :: s) = .ok (can (fl ((E.data.data.toList.getD (placeOf x) 0).toNat : Int)) :: s) := by
      show (if placeB E.data.size x = true then _ else _) = _
      rw [if_pos (placeB_yes hp hw)]
    rw [hst]
    have t2 := hwi.2 hw
    have cv : ∀ w, (convert 30 3 (.float .f64 x)).run Try.prog w = .ok (.int .i64 ((tr (rung x) : Nat) : Int)) w := fun w => by
      rw [← hiv]
      exact run_convert_float_int w 30 3 .f64 .i64 x (ival x) (by kernel_rfl) (by kernel_rfl) (toInt_ival x hx.lt hf (by omega))
    have hpl : placeOf x = tr (rung x) := by unfold placeOf; rw [hiv]; simp
    rw [hpl]
    generalize tr (rung x) = i at *
    have hget : E.data.data.toList.getD i 0 = E.data[i] := by
      rw [List.getD_eq_getElem?_getD, List.getElem?_eq_getElem (by rw [list_len]; exact htr)]; rfl
    rw [hget]
    have cb : ∀ w, (convert 5 30 (.int .u8 (E.data[i].toNat : Int))).run Try.prog w = .ok (.float .f64 (fl (E.data[i].toNat : Int))) w := fun w => run_convert_int_float w _ _ _ _ _ (by kernel_rfl) (by kernel_rfl)
    have P := hid (fun (y : Nat) (hy : Wd y) (w1 : World) (h1 : Mach E g s w1) => push_any E g s y w1 h1 hy (by omega))
    have hwd := hid (fl_wd (E.data[i].toNat : Int))
    clear h hs ht hp hwi hw hst hx nx hf hiv hpl hget hd
    go_enter Try.func53, Try.ntmps53
    go_wp2
    go_region_with (go_at_call 55; first | (refine C.out.mono ?_; rintro e w1 ⟨rfl, h1, h2⟩; have c3' := h1.cells.2.1) | (refine C2.out.mono ?_; rintro e w1 ⟨rfl, h1, h20⟩; have c3' := h1.cells.2.1; have h2 := drew_touch h20; clear h20))
    all_goals
      go_wp2_with (go_at_call 68; refine (K.out _).mono ?_; rintro e w' ⟨rfl, rfl⟩)
      refine (P.out _ hwd.out _ h1).mono ?_
      rintro e w2 ⟨rfl, h3, h4⟩
      go_wp2
      go_end0
      exact Goes.after ⟨rfl, h3, h4⟩ (below_pop h2 hlt)
  · have hst : stepK E .byte (x :: s) = .bad runtimeF := by
      show (if placeB E.data.size x = true then _ else _) = _
      rw [if_neg (placeB_no hw)]
    rw [hst]
    have t2 : (FloatKind.f64.format.order x (trB x) == some .eq) = false := by
      rw [Bool.eq_false_iff]
      exact fun e => hw (hwi.1 e)
    clear h hs ht hp hwi hw hst hx nx hf hiv htr
    go_enter Try.func53, Try.ntmps53
    go_wp2
    go_region_with (go_at_call 55; first | (refine C.out.mono ?_; rintro e w1 ⟨rfl, h1, h2⟩; have c3' := h1.cells.2.1) | (refine C2.out.mono ?_; rintro e w1 ⟨rfl, h1, h20⟩; have c3' := h1.cells.2.1; have h2 := drew_touch h20; clear h20))
    all_goals
      go_wp2_with (go_at_call 68; refine (K.out _).mono ?_; rintro e w' ⟨rfl, rfl⟩)
      exact ⟨rfl, byte_fault h1 h2 hlt (HT.out _)⟩

theorem does_byte (E : EnvD) (g : Nat) (s : List Nat) (W : World) (hE : E.data.size ≤ 300) (h : Mach E g s W) (hs : s.length ≤ 90000) : Calls Try.prog 53 #[.pointer (some ⟨g, 0, none⟩)] W (Post E g (stepK E .byte s) W) := by
  cases s with
  | nil => exact byte_none E g W h
  | cons x s =>
    have hs' : s.length ≤ 90000 := by simp at hs; omega
    cases hp : inside E.data.size x
    · have hst : stepK E .byte (x :: s) = .bad runtimeF := by
        show (if placeB E.data.size x = true then _ else _) = _
        rw [if_neg (by unfold placeB; rw [hp]; simp)]
      rw [hst]
      exact byte_dies E g x s W h hs' hp
    · exact byte_in E g x s W hE h hs' hp
end Go.Proofs.Ytiglfdefeaddmaa
