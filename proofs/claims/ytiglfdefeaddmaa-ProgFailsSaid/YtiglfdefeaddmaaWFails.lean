/- ProgFails, walked. -/
import Derived.Test.YtiglfdefeaddmaaWFMath
import Derived.Test.YtiglfdefeaddmaaAppT
namespace Go.Proofs.Ytiglfdefeaddmaa
open Go.RowKit Go.Lib

theorem fails_long (xa : Option Addr) (ca : Nat) (a : List ByteArray) (xb : Option Addr) (cb : Nat) (b : List ByteArray) (w : World) (h : 30 < a.length ∨ (a.length ≤ 30 ∧ 30 < b.length)) :
    Calls Try.prog 7 #[.slice xa a.length ca, .slice xb b.length cb] w fun e w' => e = .returned (.bool true) ∧ Touch [] w w' := by
  have AL := hid (fun w => alive_any w)
  rcases h with h | ⟨h, h2⟩
  · have h1 : decide (30 < a.length) = true := by simpa using h
    have h1i : decide (30 < (a.length : Int)) = true := by simp; omega
    clear h
    go_enter Try.func7, Try.ntmps7
    go_wp2_with (go_at_call 10; refine (AL.out _).mono ?_; rintro e w1 ⟨rfl, t1⟩)
    go_ret
    exact ⟨rfl, t1⟩
  · have h1 : decide (30 < a.length) = false := by simp; omega
    have h1i : decide (30 < (a.length : Int)) = false := by simp; omega
    have h2' : decide (30 < b.length) = true := by simpa using h2
    have h2i : decide (30 < (b.length : Int)) = true := by simp; omega
    clear h h2
    go_enter Try.func7, Try.ntmps7
    go_wp2_with (go_at_call 10; refine (AL.out _).mono ?_; rintro e w1 ⟨rfl, t1⟩)
    go_ret
    exact ⟨rfl, t1⟩

theorem lit_new (w : World) (n : Nat) (l : List ByteArray) (h : ∀ s ∈ l, s.size ≤ maxLen) (hn : w.heap.size = n) : TextsX (w.alloc (.cells (l.map fun s => Value.string s).toArray TStr)) (some ⟨n, 0, none⟩) l := by subst hn; exact texts_new w l h
theorem small_lits : (∀ s ∈ [failB], s.size ≤ maxLen) ∧ (∀ s ∈ [zeroB, dropB, oneB], s.size ≤ maxLen) := by
  constructor
  · intro s hs; simp at hs; subst hs; decide
  · intro s hs; simp at hs; rcases hs with rfl | rfl | rfl <;> decide

/-- What the law asks, of three numbers and two faults. -/
inductive Says : Int → FltD → FltD → Prop
  | no (k : Int) (m : FltD) (h : (k != 0) = true) : Says k ⟨6, 0, none8⟩ m
  | both (kd : Int) (tx : ByteArray) : Says 0 ⟨21, kd, tx⟩ ⟨21, kd, tx⟩
  | fails (m : FltD) (h : (m.err == 21) = false) : Says 0 ⟨21, 3, ⟨#[102, 97, 105, 108]⟩⟩ m
theorem says (a b : List ByteArray) (hl : a.length ≤ 30) : Says (checkOf (a ++ failB :: b)).1 (runOf env0 (a ++ failB :: b)).2 (runOf env0 (a ++ [zeroB, dropB, oneB])).2 := by
  rcases fails_says a b hl with ⟨h1, h2⟩ | ⟨h1, h2, h3⟩ | ⟨h1, h2, h3⟩
  · rw [h2]
    exact .no _ _ (by simpa using h1)
  · rw [h1, h3]
    clear h3
    generalize (runOf env0 (a ++ [zeroB, dropB, oneB])).2 = q at *
    obtain ⟨er, kd, tx⟩ := q
    obtain rfl : er = 21 := h2
    exact .both kd tx
  · rw [h1, h3]
    exact .fails _ (by simpa using h2)

set_option maxHeartbeats 8000000 in
set_option maxRecDepth 100000 in
theorem fails_in (xa : Option Addr) (ca : Nat) (a : List ByteArray) (xb : Option Addr) (cb : Nat) (b : List ByteArray) (w : World) (hxa : TextsX w xa a) (hna : xa = none → ca = 0 ∧ a = []) (hxb : TextsX w xb b) (hnb : xb = none → cb = 0 ∧ b = []) (la : a.length ≤ 30) (lb : b.length ≤ 30) :
    Calls Try.prog 7 #[.slice xa a.length ca, .slice xb b.length cb] w fun e w' => e = .returned (.bool true) ∧ Touch [] w w' := by
  have h1 : decide (30 < a.length) = false := by simp; omega
  have h1i : decide (30 < (a.length : Int)) = false := by simp; omega
  have h2 : decide (30 < b.length) = false := by simp; omega
  have h2i : decide (30 < (b.length : Int)) = false := by simp; omega
  have XA := hid hxa
  have XB := hid hxb
  have NA := hid hna
  have NB := hid hnb
  have LA := hid la
  have LB := hid lb
  have LIT := hid small_lits
  have AL := hid (fun w => alive_any w)
  have hsf := store_flt
  have hsay := says a b la
  have hlenL : (a ++ failB :: b).length = a.length + 1 + b.length := by simp; omega
  have hlenM : (a ++ [zeroB, dropB, oneB]).length = a.length + 3 := by simp
  have hle : ∀ z : List ByteArray, z.length ≤ 100 → z.length ≤ 9223372036854775807 := fun z h => by omega
  have RL : Hid (∀ (w1 : World) (x : Option Addr) (c : Nat), TextsX w1 x (a ++ failB :: b) → Calls Try.prog 19 #[.agg #[.slice x (a.length + 1 + b.length) c], env0.val] w1 (RunPost (runOf env0 (a ++ failB :: b)) w1)) := fun w1 x c h => by
    rw [← hlenL]; exact run_any x c _ env0 w1 env0_ok (hle _ (by rw [hlenL]; omega)) h
  have RM : Hid (∀ (w1 : World) (x : Option Addr) (c : Nat), TextsX w1 x (a ++ [zeroB, dropB, oneB]) → Calls Try.prog 19 #[.agg #[.slice x (a.length + 3) c], env0.val] w1 (RunPost (runOf env0 (a ++ [zeroB, dropB, oneB])) w1)) := fun w1 x c h => by
    rw [← hlenM]; exact run_any x c _ env0 w1 env0_ok (hle _ (by rw [hlenM]; omega)) h
  have CL : Hid (∀ (w1 : World) (x : Option Addr) (c : Nat), TextsX w1 x (a ++ failB :: b) → Calls Try.prog 24 #[.agg #[.slice x (a.length + 1 + b.length) c]] w1 fun e w' => e = .returned (.tuple #[.int .i64 (checkOf (a ++ failB :: b)).1, .int .i64 (checkOf (a ++ failB :: b)).2]) ∧ Touch [] w1 w') := fun w1 x c h => by
    rw [← hlenL]; exact check_any x c _ w1 (hle _ (by rw [hlenL]; omega)) h
  generalize (checkOf (a ++ failB :: b)).1 = k1 at *
  generalize (checkOf (a ++ failB :: b)).2 = k2 at *
  generalize runOf env0 (a ++ failB :: b) = rl at *
  generalize runOf env0 (a ++ [zeroB, dropB, oneB]) = rm at *
  obtain ⟨rl1, rl2⟩ := rl
  obtain ⟨rm1, ⟨me, mk, mt⟩⟩ := rm
  clear hxa hxb hna hnb la lb hlenL hlenM hle
  simp only at hsay
  go_enter Try.func7, Try.ntmps7
  go_wp2_with (first | (at_builtin; refine wpList_append_texts rfl (.const (.slice none 0 0)) (.tmp 23) rfl w.heap.size (.slice none 0 0) 0 [] rfl (World.ownsRow_nil _ _ _ _) xa a.length ca a rfl rfl XA.out NA.out (by have := LA.out; omega) (Nat.le_refl _) ?_; intro y1 c1 w1 hown1 hg1; simp only [Nat.zero_add, List.nil_append] at hown1; have O1 := hid hown1; have T1 : Hid (Touch [] w w1) := hid ((Touch.refl [] w).grown hg1 (fun k hk => by cases hk)); clear hown1 hg1) | (at_builtin; refine wpList_append_texts rfl (.tmp 24) (.tmp 25) rfl w.heap.size (.slice y1 a.length c1) a.length a rfl (O1.out.alloc _) (some ⟨w1.heap.size, 0, none⟩) 1 1 [failB] rfl rfl (lit_new w1 _ [failB] LIT.out.1 rfl) (fun e => by cases e) (by have := LA.out; omega) (by have := T1.out.size; simp; omega) ?_; intro y2 c2 w2 hown2 hg2; have O2 := hid hown2; have T2 : Hid (Touch [] w w2) := hid ((T1.out.alloc _).grown hg2 (fun k hk => .inr (own_row O1.out k hk))); clear hown2 hg2) | (at_builtin; refine wpList_append_texts rfl (.tmp 26) (.tmp 27) rfl w.heap.size (.slice y2 (a.length + 1) c2) (a.length + 1) (a ++ [failB]) rfl O2.out xb b.length cb b rfl rfl (XB.out.touch T2.out) NB.out (by have := LA.out; have := LB.out; omega) T2.out.size ?_; intro y3 c3 w3 hown3 hg3; have O3 := hid hown3; have T3 : Hid (Touch [] w w3) := hid (T2.out.grown hg3 (fun k hk => .inr (own_row O2.out k hk))); clear hown3 hg3))
  have sL : ∀ s ∈ a ++ failB :: b, s.size ≤ maxLen := by
    intro s hs
    rw [List.mem_append, List.mem_cons] at hs
    rcases hs with hs | rfl | hs
    · exact XA.out.sizes s hs
    · decide
    · exact XB.out.sizes s hs
  have o3 := O3.out
  rw [show a ++ [failB] ++ b = a ++ failB :: b by simp] at o3
  have X3 := hid (texts_row o3 sL).1
  clear o3 sL
  refine (CL.out _ y3 c3 (X3.out.touch ((Touch.refl _ _).alloc _))).mono ?_
  rintro e w4 ⟨rfl, t4⟩
  have P4 := hid (touch_other t4 (heap_alloc_new w3 (.cells #[.slice y3 (a.length + 1 + b.length) c3] TProg)) (by simp))
  have T34 := hid (((Touch.refl [] w3).alloc (.cells #[.slice y3 (a.length + 1 + b.length) c3] TProg)).trans t4 (by simp))
  have T4 : Hid (Touch [] w w4) := hid (T3.out.trans T34.out (by simp))
  clear t4
  go_wp2_with (first | (at_builtin; refine wpList_append_texts rfl (.const (.slice none 0 0)) (.tmp 36) rfl w4.heap.size (.slice none 0 0) 0 [] rfl (World.ownsRow_nil _ _ _ _) xa a.length ca a rfl rfl (XA.out.touch T4.out) NA.out (by have := LA.out; omega) (Nat.le_refl _) ?_; intro y5 c5 w5 hown5 hg5; simp only [Nat.zero_add, List.nil_append] at hown5; have O5 := hid hown5; have T5 : Hid (Touch [] w4 w5) := hid ((Touch.refl [] w4).grown hg5 (fun k hk => by cases hk)); clear hown5 hg5) | (at_builtin; refine wpList_append_texts rfl (.tmp 37) (.tmp 38) rfl w4.heap.size (.slice y5 a.length c5) a.length a rfl (O5.out.alloc _) (some ⟨w5.heap.size, 0, none⟩) 3 3 [zeroB, dropB, oneB] rfl rfl (lit_new w5 _ [zeroB, dropB, oneB] LIT.out.2 rfl) (fun e => by cases e) (by have := LA.out; omega) (by have := T5.out.size; simp; omega) ?_; intro y6 c6 w6 hown6 hg6; have O6 := hid hown6; have T6 : Hid (Touch [] w4 w6) := hid ((T5.out.alloc _).grown hg6 (fun k hk => .inr (own_row O5.out k hk))); (have q6 := fun o : Obj => cell_of (heap_alloc_keep (touch_other T6.out P4.out (by simp)) o) 0); clear hown6 hg6))
  have sM : ∀ s ∈ a ++ [zeroB, dropB, oneB], s.size ≤ maxLen := by
    intro s hs
    rw [List.mem_append] at hs
    rcases hs with hs | hs
    · exact XA.out.sizes s hs
    · exact LIT.out.2 s hs
  have X6 := hid (texts_row O6.out sM).1
  clear sM
  refine (RL.out _ y3 c3 (X3.out.touch (T34.out.trans (T6.out.alloc _) (by simp)))).mono ?_
  rintro e w7 ⟨rfl, t7⟩
  have q7 := fun o : Obj => cell_of (heap_alloc_keep (touch_other t7 (heap_alloc_new w6 (.cells #[.slice y6 (a.length + 3) c6] TProg)) (by simp)) o) 0
  have T7 := hid (((Touch.refl [] w6).alloc (.cells #[.slice y6 (a.length + 3) c6] TProg)).trans t7 (by simp))
  clear t7 q6
  obtain ⟨le, lk, lt⟩ := rl2
  go_wp2_with fail
  refine (RM.out _ y6 c6 (X6.out.touch (T7.out.alloc _))).mono ?_
  rintro e w8 ⟨rfl, t8⟩
  have F1 := hid (touch_other t8 (heap_alloc_new w7 (.cells (FltD.cells ⟨le, lk, lt⟩) TFault)) (by simp))
  have T8 := hid (((T4.out.trans T6.out (by simp)).trans T7.out (by simp)).alloc (.cells (FltD.cells ⟨le, lk, lt⟩) TFault) |>.trans t8 (by simp))
  clear t8 q7
  clear RL RM CL XA XB NA NB LA LB LIT O1 O2 O3 O5 O6 T1 T2 T3 T4 T34 T5 T6 T7 X3 X6 P4 h1 h1i h2 h2i
  cases hsay
  all_goals
    go_wp2_with fail
    refine (AL.out _).mono ?_
    rintro e w9 ⟨rfl, t9⟩
    have g1 := touch_other t9 (heap_alloc_keep F1.out (.cells _ TFault)) (by simp)
    have g2 := touch_other t9 (heap_alloc_new w8 (.cells _ TFault)) (by simp)
    have g10 := cell_of g1 0
    have g11 := cell_of g1 1
    have g12 := cell_of g1 2
    have g20 := cell_of g2 0
    have g21 := cell_of g2 1
    have g22 := cell_of g2 2
    have T9 := hid ((T8.out.alloc _).trans t9 (by simp))
    clear t9 g1 g2
    go_wp2
    go_ret
    exact ⟨rfl, T9.out⟩
theorem walk_ProgFails (va : Value) (a : List ByteArray) (vb : Value) (b : List ByteArray) (w : World) (ha : Strs w va a) (hb : Strs w vb b) :
    Calls Try.prog 7 #[va, vb] w fun e w' => e = .returned (.bool true) ∧ Touch [] w w' := by
  obtain ⟨xa, ca, rfl, _, hxa, hna⟩ := ha
  obtain ⟨xb, cb, rfl, _, hxb, hnb⟩ := hb
  by_cases la : a.length ≤ 30
  · by_cases lb : b.length ≤ 30
    · exact fails_in xa ca a xb cb b w hxa hna hxb hnb la lb
    · exact fails_long xa ca a xb cb b w (.inr ⟨la, by omega⟩)
  · exact fails_long xa ca a xb cb b w (.inl (by omega))
end Go.Proofs.Ytiglfdefeaddmaa
