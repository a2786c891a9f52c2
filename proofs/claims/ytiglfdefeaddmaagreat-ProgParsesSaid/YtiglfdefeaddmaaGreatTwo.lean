/- The functions of two numbers, and ofTwo. -/
import Derived.Test.YtiglfdefeaddmaaGreatByte
namespace Go.Proofs.YtiglfdefeaddmaaGreat
open Go.RowKit Go.Lib

theorem enters (fn : FuncId) (h : ∀ (a : Array Value) (w : World), (callFunc fn a).run Tryz.prog w = .ok (.enter fn a) w) (a : Array Value) (w : World) : (callFunc fn a).run Tryz.prog w = .ok (.enter fn a) w := h a w

theorem two_add : TwoFn 98 (ar .add) := by
  refine ⟨fun a w => by simp [go_sem], fun a b w ha hb => ?_⟩
  obtain ⟨r, w', hr, h1, h2, h3⟩ := run_ar .add (.inl rfl) a b w
  have H := hid (And.intro h1 (And.intro h2 h3))
  clear h1 h2 h3
  go_enter Tryz.func98, Tryz.ntmps98
  go_wp2
  go_ret
  exact ⟨r, rfl, H.out⟩
theorem two_sub : TwoFn 99 (ar .sub) := by
  refine ⟨fun a w => by simp [go_sem], fun a b w ha hb => ?_⟩
  obtain ⟨r, w', hr, h1, h2, h3⟩ := run_ar .sub (.inr (.inl rfl)) a b w
  have H := hid (And.intro h1 (And.intro h2 h3))
  clear h1 h2 h3
  go_enter Tryz.func99, Tryz.ntmps99
  go_wp2
  go_ret
  exact ⟨r, rfl, H.out⟩
theorem two_mul : TwoFn 100 (ar .mul) := by
  refine ⟨fun a w => by simp [go_sem], fun a b w ha hb => ?_⟩
  obtain ⟨r, w', hr, h1, h2, h3⟩ := run_ar .mul (.inr (.inr (.inl rfl))) a b w
  have H := hid (And.intro h1 (And.intro h2 h3))
  clear h1 h2 h3
  go_enter Tryz.func100, Tryz.ntmps100
  go_wp2
  go_ret
  exact ⟨r, rfl, H.out⟩
theorem two_div : TwoFn 101 (ar .quo) := by
  refine ⟨fun a w => by simp [go_sem], fun a b w ha hb => ?_⟩
  obtain ⟨r, w', hr, h1, h2, h3⟩ := run_ar .quo (.inr (.inr (.inr rfl))) a b w
  have H := hid (And.intro h1 (And.intro h2 h3))
  clear h1 h2 h3
  go_enter Tryz.func101, Tryz.ntmps101
  go_wp2
  go_ret
  exact ⟨r, rfl, H.out⟩

theorem pick2_wd {ahead : Nat → Nat → Bool} {a b : Nat} (ha : Wd a) (hb : Wd b) : Wd (firstOf ahead [a, b]) := Wd.can (pick_wd ahead [b] a ha (by simpa using hb))
theorem two_min : TwoFn 102 (fun a b => leastOf [a, b]) := by
  refine ⟨fun a w => by simp [go_sem], fun a b w ha hb => ?_⟩
  have C := hid (least_any (some ⟨w.heap.size, 0, none⟩) 2 [a, b] _ (show (2 : Nat) ≤ 9223372036854775807 by decide) (Nat.le_refl 2) (flts_new w 45 [a, b] (by intro x hx; simp at hx; rcases hx with rfl | rfl; exact ha; exact hb)))
  have H := hid (show Wd (leastOf [a, b]) from pick2_wd ha hb)
  clear ha hb
  go_enter Tryz.func102, Tryz.ntmps102
  go_wp2_with (go_at_call 103; refine C.out.mono ?_; rintro e w1 ⟨rfl, rfl⟩)
  go_ret
  exact ⟨_, rfl, H.out, rfl, (Touch.refl _ _).alloc _⟩
theorem two_max : TwoFn 104 (fun a b => mostOf [a, b]) := by
  refine ⟨fun a w => by simp [go_sem], fun a b w ha hb => ?_⟩
  have C := hid (most_any (some ⟨w.heap.size, 0, none⟩) 2 [a, b] _ (show (2 : Nat) ≤ 9223372036854775807 by decide) (Nat.le_refl 2) (flts_new w 45 [a, b] (by intro x hx; simp at hx; rcases hx with rfl | rfl; exact ha; exact hb)))
  have H := hid (show Wd (mostOf [a, b]) from pick2_wd ha hb)
  clear ha hb
  go_enter Tryz.func104, Tryz.ntmps104
  go_wp2_with (go_at_call 105; refine C.out.mono ?_; rintro e w1 ⟨rfl, rfl⟩)
  go_ret
  exact ⟨_, rfl, H.out, rfl, (Touch.refl _ _).alloc _⟩
def lessOf (a b : Nat) : Nat := if rank a < rank b then 4607182418800017408 else 0
theorem two_less : TwoFn 106 lessOf := by
  refine ⟨fun a w => by simp [go_sem], fun a b w ha hb => ?_⟩
  have C := hid (less_any a b w ha hb)
  by_cases h : rank a < rank b
  · rw [decide_eq_true h] at C
    have H : Hid (lessOf a b = 4607182418800017408) := by unfold Hid lessOf; rw [if_pos h]
    clear h
    go_enter Tryz.func106, Tryz.ntmps106
    go_wp2_with (go_at_call 124; refine C.out.mono ?_; rintro e w1 ⟨rfl, rfl⟩)
    go_ret
    exact ⟨_, rfl, by decide, by rw [H.out], Touch.refl _ _⟩
  · rw [decide_eq_false h] at C
    have H : Hid (lessOf a b = 0) := by unfold Hid lessOf; rw [if_neg h]
    clear h
    go_enter Tryz.func106, Tryz.ntmps106
    go_wp2_with (go_at_call 124; refine C.out.mono ?_; rintro e w1 ⟨rfl, rfl⟩)
    go_ret
    exact ⟨_, rfl, by decide, by rw [H.out], Touch.refl _ _⟩

theorem arr_eq {s : ByteArray} {l : List UInt8} (h : s.data.toList = l) : s = ⟨l.toArray⟩ := by subst h; simp

/-- Which function ofTwo tells of a word. -/
inductive Told : List UInt8 → Value → Prop
  | add : Told wAdd (.func (.func 98) #[] #[])
  | sub : Told wSub (.func (.func 99) #[] #[])
  | mul : Told wMul (.func (.func 100) #[] #[])
  | div : Told wDiv (.func (.func 101) #[] #[])
  | min : Told wMin (.func (.func 102) #[] #[])
  | max : Told wMax (.func (.func 104) #[] #[])
  | less : Told wLess (.func (.func 106) #[] #[])
theorem ofTwo_some (l : List UInt8) (v : Value) (w : World) (h : Told l v) :
    Calls Tryz.prog 82 #[.string ⟨l.toArray⟩] w fun e w' => e = .returned v ∧ w = w' := by
  cases h
  all_goals
    go_enter Tryz.func82, Tryz.ntmps82
    go_wp2
    go_ret
    exact ⟨rfl, rfl⟩
theorem ofTwo_none (s : ByteArray) (w : World) (h : NoName s.data.toList) :
    Calls Tryz.prog 82 #[.string s] w fun e w' => e = .returned .nilFunc ∧ w = w' := by
  have g1 := (list_eq s wAdd).trans (decide_eq_false h.add)
  have g2 := (list_eq s wSub).trans (decide_eq_false h.sub)
  have g3 := (list_eq s wMul).trans (decide_eq_false h.mul)
  have g4 := (list_eq s wDiv).trans (decide_eq_false h.div)
  have g5 := (list_eq s wMin).trans (decide_eq_false h.min)
  have g6 := (list_eq s wMax).trans (decide_eq_false h.max)
  have g7 := (list_eq s wLess).trans (decide_eq_false h.less)
  clear h
  unfold wAdd at g1
  unfold wSub at g2
  unfold wMul at g3
  unfold wDiv at g4
  unfold wMin at g5
  unfold wMax at g6
  unfold wLess at g7
  go_enter Tryz.func82, Tryz.ntmps82
  go_wp2
  go_ret
  exact ⟨rfl, rfl⟩
end Go.Proofs.YtiglfdefeaddmaaGreat
