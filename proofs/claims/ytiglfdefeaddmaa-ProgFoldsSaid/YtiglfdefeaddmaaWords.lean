/- What each word's function leaves. -/
import Derived.Test.YtiglfdefeaddmaaStep
namespace Go.Proofs.Ytiglfdefeaddmaa
open Go.RowKit Go.Lib

/-- What a word comes to, of the machine. -/
def Post (E : EnvD) (g : Nat) (o : Out) (W : World) (e : Ending) (W' : World) : Prop :=
  match o with
  | .ok s => Goes E g s W e W'
  | .bad f => Faults f g W e W'

theorem Mach.cells {E : EnvD} {g : Nat} {s : List Nat} {W : World} (h : Mach E g s W) :
    W.cell? ⟨g, 0, none⟩ = some (.float .f64 E.state) ∧ W.cell? ⟨g, 3, none⟩ = some (.string E.data) ∧ W.cell? ⟨g, 4, none⟩ = some (.float .f64 E.value) ∧ W.cell? ⟨g, 5, none⟩ = some (.int .i64 E.version) := by
  obtain ⟨v, hg, _⟩ := h
  exact ⟨cell_of hg 0, cell_of hg 3, cell_of hg 4, cell_of hg 5⟩

theorem fl_wd (v : Int) : Wd (fl v) := by
  have := floatOfInt_wf .f64 v
  simp only [Lit.wf, decide_eq_true_eq] at this
  exact this

theorem does_state (E : EnvD) (g : Nat) (s : List Nat) (W : World) (hE : E.Ok) (h : Mach E g s W) (hs : s.length ≤ 90000) : Calls Try.prog 48 #[.pointer (some ⟨g, 0, none⟩)] W (Post E g (stepK E .state s) W) := by
  obtain ⟨c0, c3, c4, c5⟩ := h.cells
  have C := hid (push_any E g s E.state W h hE.s (by omega))
  clear hE h hs
  go_enter Try.func48, Try.ntmps48
  go_wp2_with (go_at_call 49; refine C.out.mono ?_; rintro e w1 ⟨rfl, h1, h2⟩)
  go_end0
  exact ⟨rfl, h1, h2⟩

theorem does_value (E : EnvD) (g : Nat) (s : List Nat) (W : World) (hE : E.Ok) (h : Mach E g s W) (hs : s.length ≤ 90000) : Calls Try.prog 50 #[.pointer (some ⟨g, 0, none⟩)] W (Post E g (stepK E .value s) W) := by
  obtain ⟨c0, c3, c4, c5⟩ := h.cells
  have C := hid (push_any E g s E.value W h hE.v (by omega))
  clear hE h hs
  go_enter Try.func50, Try.ntmps50
  go_wp2_with (go_at_call 49; refine C.out.mono ?_; rintro e w1 ⟨rfl, h1, h2⟩)
  go_end0
  exact ⟨rfl, h1, h2⟩

theorem does_version (E : EnvD) (g : Nat) (s : List Nat) (W : World) (h : Mach E g s W) (hs : s.length ≤ 90000) : Calls Try.prog 51 #[.pointer (some ⟨g, 0, none⟩)] W (Post E g (stepK E .version s) W) := by
  obtain ⟨c0, c3, c4, c5⟩ := h.cells
  have c1 : ∀ w, (convert 3 30 (.int .i64 E.version)).run Try.prog w = .ok (.float .f64 (fl E.version)) w := fun w => run_convert_int_float w _ _ _ _ _ (by kernel_rfl) (by kernel_rfl)
  have C := hid (push_any E g s (fl E.version) W h (fl_wd _) (by omega))
  clear h hs
  go_enter Try.func51, Try.ntmps51
  go_wp2_with (go_at_call 49; refine C.out.mono ?_; rintro e w1 ⟨rfl, h1, h2⟩)
  go_end0
  exact ⟨rfl, h1, h2⟩

theorem does_len (E : EnvD) (g : Nat) (s : List Nat) (W : World) (h : Mach E g s W) (hs : s.length ≤ 90000) : Calls Try.prog 52 #[.pointer (some ⟨g, 0, none⟩)] W (Post E g (stepK E .len s) W) := by
  obtain ⟨c0, c3, c4, c5⟩ := h.cells
  have c1 : ∀ w, (convert 3 30 (.int .i64 (E.data.size : Int))).run Try.prog w = .ok (.float .f64 (fl E.data.size)) w := fun w => run_convert_int_float w _ _ _ _ _ (by kernel_rfl) (by kernel_rfl)
  have C := hid (push_any E g s (fl E.data.size) W h (fl_wd _) (by omega))
  clear h hs
  go_enter Try.func52, Try.ntmps52
  go_wp2_with (go_at_call 49; refine C.out.mono ?_; rintro e w1 ⟨rfl, h1, h2⟩)
  go_end0
  exact ⟨rfl, h1, h2⟩
theorem does_neg (E : EnvD) (g : Nat) (s : List Nat) (W : World) (h : Mach E g s W) (hs : s.length ≤ 90000) : Calls Try.prog 54 #[.pointer (some ⟨g, 0, none⟩)] W (Post E g (stepK E .neg s) W) := by
  have hlt := h.lt
  cases s with
  | nil =>
    have C := hid (pop_none E g W h)
    clear h hs
    go_enter Try.func54, Try.ntmps54
    go_wp2_with (go_at_call 55; refine C.out.mono ?_; rintro e w1 ⟨⟨pv, rfl, ht⟩, h2⟩)
    exact ⟨rfl, ⟨_, rfl, ht⟩, h2⟩
  | cons x s =>
    have hx : Wd x := h.wd x (by simp)
    have hn := neg_run x hx
    have C := hid (pop_some E g s x W h (by simp at hs; omega))
    have D := hid (fun (w1 : World) (h1 : Mach E g s w1) => push_any E g s (flip x) w1 h1 hx.flip (by simp at hs; omega))
    clear h hs
    go_enter Try.func54, Try.ntmps54
    go_wp2_with (first | (go_at_call 55; refine C.out.mono ?_; rintro e w1 ⟨rfl, h1, ht⟩) | (go_at_call 49; refine (D.out _ h1).mono ?_; rintro e w2 ⟨rfl, h2, h3⟩))
    go_end0
    exact Goes.after ⟨rfl, h2, h3⟩ (below_pop ht hlt)

theorem does_drop (E : EnvD) (g : Nat) (s : List Nat) (W : World) (h : Mach E g s W) (hs : s.length ≤ 90000) : Calls Try.prog 57 #[.pointer (some ⟨g, 0, none⟩)] W (Post E g (stepK E .drop s) W) := by
  have hlt := h.lt
  cases s with
  | nil =>
    have C := hid (pop_none E g W h)
    clear h hs
    go_enter Try.func57, Try.ntmps57
    go_wp2_with (go_at_call 55; refine C.out.mono ?_; rintro e w1 ⟨⟨pv, rfl, ht⟩, h2⟩)
    exact ⟨rfl, ⟨_, rfl, ht⟩, h2⟩
  | cons x s =>
    have C := hid (pop_some E g s x W h (by simp at hs; omega))
    clear h hs
    go_enter Try.func57, Try.ntmps57
    go_wp2_with (go_at_call 55; refine C.out.mono ?_; rintro e w1 ⟨rfl, h1, ht⟩)
    go_end0
    exact ⟨rfl, h1, below_pop ht hlt⟩

theorem does_dup (E : EnvD) (g : Nat) (s : List Nat) (W : World) (h : Mach E g s W) (hs : s.length ≤ 90000) : Calls Try.prog 56 #[.pointer (some ⟨g, 0, none⟩)] W (Post E g (stepK E .dup s) W) := by
  have hlt := h.lt
  cases s with
  | nil =>
    have C := hid (pop_none E g W h)
    clear h hs
    go_enter Try.func56, Try.ntmps56
    go_wp2_with (go_at_call 55; refine C.out.mono ?_; rintro e w1 ⟨⟨pv, rfl, ht⟩, h2⟩)
    exact ⟨rfl, ⟨_, rfl, ht⟩, h2⟩
  | cons x s =>
    have hx : Wd x := h.wd x (by simp)
    have C := hid (pop_some E g s x W h (by simp at hs; omega))
    have D := hid (fun (w1 : World) (h1 : Mach E g s w1) => push_any E g s x w1 h1 hx (by simp at hs; omega))
    have D2 := hid (fun (w1 : World) (h1 : Mach E g (can x :: s) w1) => push_any E g (can x :: s) x w1 h1 hx (by simp at hs ⊢; omega))
    clear h hs
    go_enter Try.func56, Try.ntmps56
    go_wp2_with (go_at_call 55; refine C.out.mono ?_; rintro e w1 ⟨rfl, h1, ht⟩)
    refine (D.out _ h1).mono ?_
    rintro e w2 ⟨rfl, h2, h3⟩
    go_wp2_with fail
    refine (D2.out _ h2).mono ?_
    rintro e w3 ⟨rfl, h4, h5⟩
    go_wp2
    go_end0
    exact Goes.after (Goes.after ⟨rfl, h4, h5⟩ h3) (below_pop ht hlt)

theorem does_swap (E : EnvD) (g : Nat) (s : List Nat) (W : World) (h : Mach E g s W) (hs : s.length ≤ 90000) : Calls Try.prog 58 #[.pointer (some ⟨g, 0, none⟩)] W (Post E g (stepK E .swap s) W) := by
  have hlt := h.lt
  rcases s with _ | ⟨b, _ | ⟨a, s⟩⟩
  · have C := hid (pop_none E g W h)
    clear h hs
    go_enter Try.func58, Try.ntmps58
    go_wp2_with (go_at_call 55; refine C.out.mono ?_; rintro e w1 ⟨⟨pv, rfl, ht⟩, h2⟩)
    exact ⟨rfl, ⟨_, rfl, ht⟩, h2⟩
  · have C := hid (pop_some E g [] b W h (by simp))
    have D := hid (fun (w1 : World) (h1 : Mach E g [] w1) => pop_none E g w1 h1)
    clear h hs
    go_enter Try.func58, Try.ntmps58
    go_wp2_with fail
    refine C.out.mono ?_
    rintro e w1 ⟨rfl, h1, ht⟩
    go_wp2_with fail
    refine (D.out _ h1).mono ?_
    rintro e w2 ⟨⟨pv, rfl, ht2⟩, h2⟩
    go_wp2
    exact ⟨rfl, Faults.after ⟨⟨_, rfl, ht2⟩, h2⟩ (below_pop ht hlt)⟩
  · have hb : Wd b := h.wd b (by simp)
    have ha : Wd a := h.wd a (by simp)
    have C := hid (pop_some E g (a :: s) b W h (by simp at hs ⊢; omega))
    have D := hid (fun (w1 : World) (h1 : Mach E g (a :: s) w1) => pop_some E g s a w1 h1 (by simp at hs; omega))
    have P1 := hid (fun (w1 : World) (h1 : Mach E g s w1) => push_any E g s b w1 h1 hb (by simp at hs; omega))
    have P2 := hid (fun (w1 : World) (h1 : Mach E g (can b :: s) w1) => push_any E g (can b :: s) a w1 h1 ha (by simp at hs ⊢; omega))
    clear h hs
    go_enter Try.func58, Try.ntmps58
    go_wp2_with fail
    refine C.out.mono ?_
    rintro e w1 ⟨rfl, h1, ht⟩
    go_wp2_with fail
    refine (D.out _ h1).mono ?_
    rintro e w2 ⟨rfl, h2, ht2⟩
    go_wp2_with fail
    refine (P1.out _ h2).mono ?_
    rintro e w3 ⟨rfl, h3, ht3⟩
    go_wp2_with fail
    refine (P2.out _ h3).mono ?_
    rintro e w4 ⟨rfl, h4, ht4⟩
    go_wp2
    go_end0
    exact Goes.after (Goes.after (Goes.after ⟨rfl, h4, ht4⟩ ht3) (below_pop ht2 h1.lt)) (below_pop ht hlt)

theorem does_num (E : EnvD) (g : Nat) (s : List Nat) (W : World) (b c : Nat) (hb : Wd b) (hc : W.cell? ⟨c, 0, none⟩ = some (.float .f64 b)) (h : Mach E g s W) (hs : s.length ≤ 90000) : Calls Try.prog 65 #[.pointer (some ⟨g, 0, none⟩), .pointer (some ⟨c, 0, none⟩)] W (Post E g (stepK E (.num b) s) W) := by
  have C := hid (push_any E g s b W h hb (by omega))
  clear h hs
  go_enter Try.func65, Try.ntmps65
  go_wp2_with (go_at_call 49; refine C.out.mono ?_; rintro e w1 ⟨rfl, h1, h2⟩)
  go_end0
  exact ⟨rfl, h1, h2⟩

theorem does_fail (E : EnvD) (g : Nat) (s : List Nat) (W : World) (c : Nat) (hc : W.cell? ⟨c, 0, none⟩ = some (.string ⟨wFail.toArray⟩)) : Calls Try.prog 60 #[.pointer (some ⟨g, 0, none⟩), .pointer (some ⟨c, 0, none⟩)] W (Post E g (stepK E .fail s) W) := by
  have C := hid (fail_panics ⟨wFail.toArray⟩ W)
  go_enter Try.func60, Try.ntmps60
  go_wp2_with (go_at_call 61; refine C.out.mono ?_; rintro e w1 ⟨rfl, rfl⟩)
  exact ⟨rfl, ⟨_, rfl, tells_text _⟩, fun B _ => Below.refl _ _⟩
end Go.Proofs.Ytiglfdefeaddmaa
