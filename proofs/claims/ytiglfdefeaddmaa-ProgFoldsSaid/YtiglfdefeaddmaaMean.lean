/- What meaning tells of a word: nil, or a function that does what the word says. -/
import Derived.Test.YtiglfdefeaddmaaTwo
import Derived.Laws.EntriesVeiled
namespace Go.Proofs.Ytiglfdefeaddmaa
open Go.RowKit Go.Lib

/-- A store of a number. -/
theorem store_flt (a : Addr) (b : Nat) (w : World) : (store a (.float .f64 b)).run Try.prog w = stored Try.prog w a (.float .f64 b) .plain := run_store Try.prog w a _ _ rfl
/-- The value v is a function that does, of a machine whose block is below n, what a word of kind k says. -/
def FnV (k : Wk) (n : Nat) (W : World) (v : Value) : Prop :=
  ∃ fn cap, v = .func (.func fn) #[] cap ∧ (∀ (a : Array Value) (w : World), (callFunc fn a).run Try.prog w = .ok (.enter fn a) w) ∧
    ∀ (E : EnvD) (g : Nat) (s : List Nat), E.Ok → g < n → Mach E g s W → s.length ≤ 90000 → Calls Try.prog fn (#[.pointer (some ⟨g, 0, none⟩)] ++ cap) W (Post E g (stepK E k s) W)
def IsFn (k : Wk) (w : World) (e : Ending) (w' : World) : Prop := ∃ v, e = .returned v ∧ FnV k w.heap.size w' v ∧ Touch [] w w'

/-- The words whose function is one and the same. -/
inductive Plain : List UInt8 → FuncId → Wk → Prop
  | state : Plain wState 48 .state
  | value : Plain wValue 50 .value
  | version : Plain wVersion 51 .version
  | len : Plain wLen 52 .len
  | byte : Plain wByte 53 .byte
  | neg : Plain wNeg 54 .neg
  | dup : Plain wDup 56 .dup
  | drop : Plain wDrop 57 .drop
  | swap : Plain wSwap 58 .swap
  | pick : Plain wPick 59 .pick
theorem plain_walk (l : List UInt8) (fn : FuncId) (k : Wk) (h : Plain l fn k) (w : World) :
    Calls Try.prog 39 #[.string ⟨l.toArray⟩] w fun e w' => e = .returned (.func (.func fn) #[] #[]) ∧ Touch [] w w' := by
  cases h
  all_goals
    go_enter Try.func39, Try.ntmps39
    go_wp2
    go_ret
    exact ⟨rfl, (Touch.refl _ _).alloc _⟩
theorem plain_fn (l : List UInt8) (fn : FuncId) (k : Wk) (h : Plain l fn k) (n : Nat) (W : World) : FnV k n W (.func (.func fn) #[] #[]) := by
  refine ⟨fn, #[], rfl, ?_, fun E g s hE hg hm hs => ?_⟩
  · cases h <;> exact fun a w => by simp [go_sem]
  · cases h
    · exact does_state E g s W hE hm hs
    · exact does_value E g s W hE hm hs
    · exact does_version E g s W hm hs
    · exact does_len E g s W hm hs
    · exact does_byte E g s W hE.d hm hs
    · exact does_neg E g s W hm hs
    · exact does_dup E g s W hm hs
    · exact does_drop E g s W hm hs
    · exact does_swap E g s W hm hs
    · exact does_pick E g s W hm hs
theorem mean_plain (l : List UInt8) (fn : FuncId) (k : Wk) (h : Plain l fn k) (w : World) : Calls Try.prog 39 #[.string ⟨l.toArray⟩] w (IsFn k w) :=
  (plain_walk l fn k h w).mono fun _ _ ⟨he, ht⟩ => ⟨_, he, plain_fn l fn k h _ _, ht⟩

theorem mean_fail (w : World) : Calls Try.prog 39 #[.string ⟨wFail.toArray⟩] w (IsFn .fail w) := by
  have hmf := make_func
  go_enter Try.func39, Try.ntmps39
  go_wp2
  go_ret
  refine ⟨_, rfl, ⟨_, _, rfl, fun a w => by simp [go_sem], fun E g s hE hg hm hs => ?_⟩, (Touch.refl _ _).alloc _⟩
  exact does_fail E g s _ _ (cell_of (heap_alloc_new w _) 0)

/-- The words that take two numbers. -/
inductive Pair : List UInt8 → FuncId → (Nat → Nat → Nat) → Wk → Prop
  | add : Pair wAdd 70 (ar .add) .add
  | sub : Pair wSub 71 (ar .sub) .sub
  | mul : Pair wMul 72 (ar .mul) .mul
  | div : Pair wDiv 73 (ar .quo) .div
  | min : Pair wMin 74 (fun a b => leastOf [a, b]) .min
  | max : Pair wMax 76 (fun a b => mostOf [a, b]) .max
  | less : Pair wLess 78 lessOf .less
theorem Pair.fn {l : List UInt8} {fn : FuncId} {op : Nat → Nat → Nat} {k : Wk} (h : Pair l fn op k) : TwoFn fn op := by
  cases h
  · exact two_add
  · exact two_sub
  · exact two_mul
  · exact two_div
  · exact two_min
  · exact two_max
  · exact two_less
theorem Pair.step {l : List UInt8} {fn : FuncId} {op : Nat → Nat → Nat} {k : Wk} (h : Pair l fn op k) (E : EnvD) (s : List Nat) : stepK E k s = stepTwo op s := by
  cases h <;> (rcases s with _ | ⟨b, _ | ⟨a, s⟩⟩ <;> rfl)
theorem Pair.told {l : List UInt8} {fn : FuncId} {op : Nat → Nat → Nat} {k : Wk} (h : Pair l fn op k) : Told l (.func (.func fn) #[] #[]) := by
  cases h <;> constructor
theorem second_cell (w : World) (a : Obj) (v : Value) (t : TypeId) : ((w.alloc a).alloc (.cells #[v] t)).cell? ⟨w.heap.size + 1, 0, none⟩ = some v := by
  have h := cell_of (heap_alloc_new (w.alloc a) (.cells #[v] t)) 0
  have e : (w.alloc a).heap.size = w.heap.size + 1 := by simp
  rw [e] at h
  exact h
theorem pair_walk (l : List UInt8) (fn : FuncId) (op : Nat → Nat → Nat) (k : Wk) (h : Pair l fn op k) (w : World) :
    Calls Try.prog 39 #[.string ⟨l.toArray⟩] w fun e w' => e = .returned (.func (.func 63) #[] #[.pointer (some ⟨w.heap.size + 1, 0, none⟩)]) ∧ w'.cell? ⟨w.heap.size + 1, 0, none⟩ = some (.func (.func fn) #[] #[]) ∧ Touch [] w w' := by
  have hmf := make_func
  have hn : ∀ w, (binOp .neq 92 (.func (.func fn) #[] #[]) .nilFunc).run Try.prog w = .ok (.bool true) w := fun w => by kernel_rfl
  have C := hid (fun w => ofTwo_some l _ w h.told)
  cases h
  all_goals
    go_enter Try.func39, Try.ntmps39
    go_wp2_with (go_at_call 62; refine (C.out _).mono ?_; rintro e w1 ⟨rfl, rfl⟩)
    go_ret
    exact ⟨rfl, second_cell _ _ _ _, ((Touch.refl _ _).alloc _).alloc _⟩

theorem mean_pair (l : List UInt8) (fn : FuncId) (op : Nat → Nat → Nat) (k : Wk) (h : Pair l fn op k) (w : World) : Calls Try.prog 39 #[.string ⟨l.toArray⟩] w (IsFn k w) :=
  (pair_walk l fn op k h w).mono fun _ _ ⟨he, hc, ht⟩ => ⟨_, he, ⟨_, _, rfl, fun a w => by simp [go_sem], fun E g s hE hg hm hs => by
    rw [h.step]
    exact does_two fn op h.fn E g s _ _ (by omega) hc hm hs⟩, ht⟩

/-- The tests of a word that is none of the switch's. -/
theorem no_tests {s : ByteArray} (h : NoName s.data.toList) :
    (s.toList == [115, 116, 97, 116, 101]) = false ∧ (s.toList == [118, 97, 108, 117, 101]) = false ∧ (s.toList == [118, 101, 114, 115, 105, 111, 110]) = false ∧ (s.toList == [108, 101, 110]) = false ∧ (s.toList == [98, 121, 116, 101]) = false ∧ (s.toList == [110, 101, 103]) = false ∧
    (s.toList == [100, 117, 112]) = false ∧ (s.toList == [100, 114, 111, 112]) = false ∧ (s.toList == [115, 119, 97, 112]) = false ∧ (s.toList == [112, 105, 99, 107]) = false ∧ (s.toList == [102, 97, 105, 108]) = false :=
  ⟨(list_eq s wState).trans (decide_eq_false h.state), (list_eq s wValue).trans (decide_eq_false h.value), (list_eq s wVersion).trans (decide_eq_false h.version), (list_eq s wLen).trans (decide_eq_false h.len), (list_eq s wByte).trans (decide_eq_false h.byte), (list_eq s wNeg).trans (decide_eq_false h.neg),
    (list_eq s wDup).trans (decide_eq_false h.dup), (list_eq s wDrop).trans (decide_eq_false h.drop), (list_eq s wSwap).trans (decide_eq_false h.swap), (list_eq s wPick).trans (decide_eq_false h.pick), (list_eq s wFail).trans (decide_eq_false h.fail)⟩

theorem parse_wd (l : List UInt8) : Wd (parseOf l).1 := by
  unfold parseOf
  split
  · exact (by decide : Wd oneNan)
  split
  · exact (by decide : Wd 18442240474082181120)
  split
  · exact (by decide : Wd 9218868437227405312)
  split
  · exact (by decide : Wd 9223372036854775808)
  split
  · split
    · rename_i h; exact (hv_word h).can
    · exact (by decide : Wd 0)
  split
  · exact (by decide : Wd 0)
  · exact fl_wd _

set_option maxRecDepth 100000 in
theorem num_walk (s : ByteArray) (w : World) (hsz : s.size ≤ 9223372036854775807) (h : NoName s.data.toList) (e0 : (parseOf s.data.toList).2 = 0) :
    Calls Try.prog 39 #[.string s] w (IsFn (.num (parseOf s.data.toList).1) w) := by
  have hmf := make_func
  have hwd := hid (parse_wd s.data.toList)
  have C := hid (fun w => ofTwo_none s w h)
  have D := hid (fun w => parse_any s w hsz)
  have hsf := store_flt
  have hn : ∀ w, (binOp .neq 92 .nilFunc .nilFunc).run Try.prog w = .ok (.bool false) w := fun w => by kernel_rfl
  obtain ⟨t1, t2, t3, t4, t5, t6, t7, t8, t9, t10, t11⟩ := no_tests h
  rw [e0] at D
  clear h hsz e0
  generalize (parseOf s.data.toList).1 = b at *
  go_enter Try.func39, Try.ntmps39
  go_wp2_with (first | (go_at_call 62; refine (C.out _).mono ?_; rintro e w1 ⟨rfl, rfl⟩) | (go_at_call 64; refine (D.out _).mono ?_; rintro e w2 ⟨rfl, ht⟩))
  go_ret
  have T : Touch [] w w2 := Touch.trans (G := []) (((Touch.refl _ _).alloc _).alloc _) ht (by simp)
  refine ⟨_, rfl, ⟨_, _, rfl, fun a w => by simp [go_sem], fun E g s hE hg hm hs => ?_⟩, T.alloc _⟩
  exact does_num E g s _ b _ hwd.out (cell_of (heap_alloc_new w2 _) 0) hm hs

set_option maxRecDepth 100000 in
theorem none_walk (s : ByteArray) (w : World) (hsz : s.size ≤ 9223372036854775807) (h : NoName s.data.toList) (e0 : (parseOf s.data.toList).2 ≠ 0) :
    Calls Try.prog 39 #[.string s] w fun e w' => e = .returned .nilFunc ∧ Touch [] w w' := by
  have C := hid (fun w => ofTwo_none s w h)
  have D := hid (fun w => parse_any s w hsz)
  have hsf := store_flt
  have hn : ∀ w, (binOp .neq 92 .nilFunc .nilFunc).run Try.prog w = .ok (.bool false) w := fun w => by kernel_rfl
  obtain ⟨t1, t2, t3, t4, t5, t6, t7, t8, t9, t10, t11⟩ := no_tests h
  have e1 : ((parseOf s.data.toList).2 == 0) = false := by simpa using e0
  clear h hsz e0
  generalize (parseOf s.data.toList).1 = b at *
  generalize (parseOf s.data.toList).2 = e at *
  go_enter Try.func39, Try.ntmps39
  go_wp2_with (first | (go_at_call 62; refine (C.out _).mono ?_; rintro e w1 ⟨rfl, rfl⟩) | (go_at_call 64; refine (D.out _).mono ?_; rintro e w2 ⟨rfl, ht⟩))
  go_ret
  have T : Touch [] w w2 := Touch.trans (G := []) (((Touch.refl _ _).alloc _).alloc _) ht (by simp)
  exact ⟨rfl, T.alloc _⟩

/-- No word. -/
def isNo : Wk → Bool
  | .none => true
  | _ => false
/-- WHAT meaning TELLS. -/
theorem mean_none (s : ByteArray) (w : World) (hsz : s.size ≤ 9223372036854775807) (h : kindOf s.data.toList = .none) :
    Calls Try.prog 39 #[.string s] w fun e w' => e = .returned .nilFunc ∧ Touch [] w w' := by
  rcases name_cases s.data.toList with hn | hn
  · exfalso
    have h2 : isNo (kindOf s.data.toList) = true := by rw [h]; rfl
    rcases hn with hn | hn | hn | hn | hn | hn | hn | hn | hn | hn | hn | hn | hn | hn | hn | hn | hn | hn
    all_goals (rw [hn] at h2; revert h2; decide)
  · refine none_walk s w hsz hn fun e => ?_
    rw [kind_num hn e] at h
    cases h
theorem mean_some (s : ByteArray) (w : World) (hsz : s.size ≤ 9223372036854775807) (h : kindOf s.data.toList ≠ .none) :
    Calls Try.prog 39 #[.string s] w (IsFn (kindOf s.data.toList) w) := by
  rcases name_cases s.data.toList with hn | hn
  · rcases hn with hn | hn | hn | hn | hn | hn | hn | hn | hn | hn | hn | hn | hn | hn | hn | hn | hn | hn
    all_goals (rw [hn]; obtain rfl := arr_eq hn)
    · exact mean_plain _ _ _ .state w
    · exact mean_plain _ _ _ .value w
    · exact mean_plain _ _ _ .version w
    · exact mean_plain _ _ _ .len w
    · exact mean_plain _ _ _ .byte w
    · exact mean_plain _ _ _ .neg w
    · exact mean_plain _ _ _ .dup w
    · exact mean_plain _ _ _ .drop w
    · exact mean_plain _ _ _ .swap w
    · exact mean_plain _ _ _ .pick w
    · exact mean_fail w
    · exact mean_pair _ _ _ _ .add w
    · exact mean_pair _ _ _ _ .sub w
    · exact mean_pair _ _ _ _ .mul w
    · exact mean_pair _ _ _ _ .div w
    · exact mean_pair _ _ _ _ .min w
    · exact mean_pair _ _ _ _ .max w
    · exact mean_pair _ _ _ _ .less w
  · by_cases e : (parseOf s.data.toList).2 = 0
    · rw [kind_num hn e]
      exact num_walk s w hsz hn e
    · exact absurd (kind_none hn e) h
end Go.Proofs.Ytiglfdefeaddmaa
