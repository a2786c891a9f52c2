/- The functions of two numbers, and ofTwo. -/
import Derived.Test.YtiglfdefeaddmaaByte
namespace Go.Proofs.Ytiglfdefeaddmaa
open Go.RowKit Go.Lib

theorem enters (fn : FuncId) (h : ∀ (a : Array Value) (w : World), (callFunc fn a).run Try.prog w = .ok (.enter fn a) w) (a : Array Value) (w : World) : (callFunc fn a).run Try.prog w = .ok (.enter fn a) w := h a w

theorem two_add : TwoFn 70 (ar .add) := by
  refine ⟨fun a w => by simp [go_sem], fun a b w ha hb => ?_⟩
  obtain ⟨r, w', hr, h1, h2, h3⟩ := run_ar .add (.inl rfl) a b w
  have H := hid (And.intro h1 (And.intro h2 h3))
  clear h1 h2 h3
  go_enter Try.func70, Try.ntmps70
  go_wp2
  go_ret
  exact ⟨r, rfl, H.out⟩
theorem two_sub : TwoFn 71 (ar .sub) := by
  refine ⟨fun a w => by simp [go_sem], fun a b w ha hb => ?_⟩
  obtain ⟨r, w', hr, h1, h2, h3⟩ := run_ar .sub (.inr (.inl rfl)) a b w
  have H := hid (And.intro h1 (And.intro h2 h3))
  clear h1 h2 h3
  go_enter Try.func71, Try.ntmps71
  go_wp2
  go_ret
  exact ⟨r, rfl, H.out⟩
theorem two_mul : TwoFn 72 (ar .mul) := by
  refine ⟨fun a w => by simp [go_sem], fun a b w ha hb => ?_⟩
  obtain ⟨r, w', hr, h1, h2, h3⟩ := run_ar .mul (.inr (.inr (.inl rfl))) a b w
  have H := hid (And.intro h1 (And.intro h2 h3))
  clear h1 h2 h3
  go_enter Try.func72, Try.ntmps72
  go_wp2
  go_ret
  exact ⟨r, rfl, H.out⟩
theorem two_div : TwoFn 73 (ar .quo) := by
  refine ⟨fun a w => by simp [go_sem], fun a b w ha hb => ?_⟩
  obtain ⟨r, w', hr, h1, h2, h3⟩ := run_ar .quo (.inr (.inr (.inr rfl))) a b w
  have H := hid (And.intro h1 (And.intro h2 h3))
  clear h1 h2 h3
  go_enter Try.func73, Try.ntmps73
  go_wp2
  go_ret
  exact ⟨r, rfl, H.out⟩

theorem pick2_wd {ahead : Nat → Nat → Bool} {a b : Nat} (ha : Wd a) (hb : Wd b) : Wd (firstOf ahead [a, b]) := Wd.can (pick_wd ahead [b] a ha (by simpa using hb))
theorem two_min : TwoFn 74 (fun a b => leastOf [a, b]) := by
  refine ⟨fun a w => by simp [go_sem], fun a b w ha hb => ?_⟩
  have C := hid (least_any (some ⟨w.heap.size, 0, none⟩) 2 [a, b] _ (show (2 : Nat) ≤ 9223372036854775807 by decide) (Nat.le_refl 2) (flts_new w 30 [a, b] (by intro x hx; simp at hx; rcases hx with rfl | rfl; exact ha; exact hb)))
  have H := hid (show Wd (leastOf [a, b]) from pick2_wd ha hb)
  clear ha hb
  go_enter Try.func74, Try.ntmps74
  go_wp2_with (go_at_call 75; refine C.out.mono ?_; rintro e w1 ⟨rfl, rfl⟩)
  go_ret
  exact ⟨_, rfl, H.out, rfl, (Touch.refl _ _).alloc _⟩
theorem two_max : TwoFn 76 (fun a b => mostOf [a, b]) := by
  refine ⟨fun a w => by simp [go_sem], fun a b w ha hb => ?_⟩
  have C := hid (most_any (some ⟨w.heap.size, 0, none⟩) 2 [a, b] _ (show (2 : Nat) ≤ 9223372036854775807 by decide) (Nat.le_refl 2) (flts_new w 30 [a, b] (by intro x hx; simp at hx; rcases hx with rfl | rfl; exact ha; exact hb)))
  have H := hid (show Wd (mostOf [a, b]) from pick2_wd ha hb)
  clear ha hb
  go_enter Try.func76, Try.ntmps76
  go_wp2_with (go_at_call 77; refine C.out.mono ?_; rintro e w1 ⟨rfl, rfl⟩)
  go_ret
  exact ⟨_, rfl, H.out, rfl, (Touch.refl _ _).alloc _⟩
def lessOf (a b : Nat) : Nat := if rank a < rank b then 4607182418800017408 else 0
theorem two_less : TwoFn 78 lessOf := by
  refine ⟨fun a w => by simp [go_sem], fun a b w ha hb => ?_⟩
  have C := hid (less_any a b w ha hb)
  by_cases h : rank a < rank b
  · rw [decide_eq_true h] at C
    have H : Hid (lessOf a b = 4607182418800017408) := by unfold Hid lessOf; rw [if_pos h]
    clear h
    go_enter Try.func78, Try.ntmps78
    go_wp2_with (go_at_call 91; refine C.out.mono ?_; rintro e w1 ⟨rfl, rfl⟩)
    go_ret
    exact ⟨_, rfl, by decide, by rw [H.out], Touch.refl _ _⟩
  · rw [decide_eq_false h] at C
    have H : Hid (lessOf a b = 0) := by unfold Hid lessOf; rw [if_neg h]
    clear h
    go_enter Try.func78, Try.ntmps78
    go_wp2_with (go_at_call 91; refine C.out.mono ?_; rintro e w1 ⟨rfl, rfl⟩)
    go_ret
    exact ⟨_, rfl, by decide, by rw [H.out], Touch.refl _ _⟩

theorem arr_eq {s : ByteArray} {l : List UInt8} (h : s.data.toList = l) : s = ⟨l.toArray⟩ := by subst h; simp

/-- Which function ofTwo tells of a word. -/
inductive Told : List UInt8 → Value → Prop
  | add : Told wAdd (.func (.func 70) #[] #[])
  | sub : Told wSub (.func (.func 71) #[] #[])
  | mul : Told wMul (.func (.func 72) #[] #[])
  | div : Told wDiv (.func (.func 73) #[] #[])
  | min : Told wMin (.func (.func 74) #[] #[])
  | max : Told wMax (.func (.func 76) #[] #[])
  | less : Told wLess (.func (.func 78) #[] #[])
theorem ofTwo_some (l : List UInt8) (v : Value) (w : World) (h : Told l v) :
    Calls Try.prog 62 #[.string ⟨l.toArray⟩] w fun e w' => e = .returned v ∧ w = w' := by
  cases h
  all_goals
    go_enter Try.func62, Try.ntmps62
    go_wp2
    go_ret
    exact ⟨rfl, rfl⟩
theorem ofTwo_none (s : ByteArray) (w : World) (h : NoName s.data.toList) :
    Calls Try.prog 62 #[.string s] w fun e w' => e = .returned .nilFunc ∧ w = w' := by
  have g1 := (list_eq s wAdd).trans (decide_eq_false h.add)
  have g2 := (list_eq s wSub).trans (decide_eq_false h.sub)
  have g3 := (list_eq s wMul).trans (decide_eq_false h.mul)
  have g4 := (list_eq s wDiv).trans (decide_eq_false h.div)
  have g5 := (list_eq s wMin).trans (decide_eq_false h.min)
  have g6 := (list_eq s wMax).trans (decide_eq_false h.max)
  have g7 := (list_eq s wLess).trans (decide_eq_false h.less)
  clear h
  unfold wAdd at g1
  unfold wSub at g2
  unfold wMul at g3
  unfold wDiv at g4
  unfold wMin at g5
  unfold wMax at g6
  unfold wLess at g7
  go_enter Try.func62, Try.ntmps62
  go_wp2
  go_ret
  exact ⟨rfl, rfl⟩
end Go.Proofs.Ytiglfdefeaddmaa
