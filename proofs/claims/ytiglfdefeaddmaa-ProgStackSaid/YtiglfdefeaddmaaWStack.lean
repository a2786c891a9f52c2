/- ProgStack, walked. -/
import Derived.Test.YtiglfdefeaddmaaWPicks
namespace Go.Proofs.Ytiglfdefeaddmaa
open Go.RowKit Go.Lib

abbrev lst (l : List ByteArray) : Obj := .cells (l.map fun s => Value.string s).toArray TStr
structure Four (w X : World) (L1 L2 L3 L4 : List ByteArray) (P2 P3 P4 : Obj) : Prop where
  x1 : TextsX X (some ⟨w.heap.size, 0, none⟩) L1
  x2 : TextsX X (some ⟨w.heap.size + 1 + 1, 0, none⟩) L2
  x3 : TextsX X (some ⟨w.heap.size + 1 + 1 + 1 + 1, 0, none⟩) L3
  x4 : TextsX X (some ⟨w.heap.size + 1 + 1 + 1 + 1 + 1 + 1, 0, none⟩) L4
  p2 : X.heap[w.heap.size + 1 + 1 + 1]? = some P2
  p3 : X.heap[w.heap.size + 1 + 1 + 1 + 1 + 1]? = some P3
  p4 : X.heap[w.heap.size + 1 + 1 + 1 + 1 + 1 + 1 + 1]? = some P4
  t : Touch [] w X
theorem texts_at (w : World) (n : Nat) (l : List ByteArray) (h : ∀ s ∈ l, s.size ≤ maxLen) (hn : w.heap.size = n) : TextsX (w.alloc (lst l)) (some ⟨n, 0, none⟩) l := by subst hn; exact texts_new w l h
theorem at_new (w : World) (n : Nat) (o : Obj) (hn : w.heap.size = n) : (w.alloc o).heap[n]? = some o := by subst hn; exact heap_alloc_new w o
theorem four_lists (w : World) (L1 L2 L3 L4 : List ByteArray) (P1 P2 P3 P4 : Obj) (h1 : ∀ s ∈ L1, s.size ≤ maxLen) (h2 : ∀ s ∈ L2, s.size ≤ maxLen) (h3 : ∀ s ∈ L3, s.size ≤ maxLen) (h4 : ∀ s ∈ L4, s.size ≤ maxLen) :
    Four w ((((((((w.alloc (lst L1)).alloc P1).alloc (lst L2)).alloc P2).alloc (lst L3)).alloc P3).alloc (lst L4)).alloc P4) L1 L2 L3 L4 P2 P3 P4 := by
  constructor
  · exact (texts_at w _ L1 h1 rfl).touch (by repeat (first | exact Touch.refl _ _ | refine Touch.alloc ?_ _))
  · exact (texts_at ((w.alloc (lst L1)).alloc P1) _ L2 h2 (by simp)).touch (by repeat (first | exact Touch.refl _ _ | refine Touch.alloc ?_ _))
  · exact (texts_at ((((w.alloc (lst L1)).alloc P1).alloc (lst L2)).alloc P2) _ L3 h3 (by simp)).touch (by repeat (first | exact Touch.refl _ _ | refine Touch.alloc ?_ _))
  · exact (texts_at ((((((w.alloc (lst L1)).alloc P1).alloc (lst L2)).alloc P2).alloc (lst L3)).alloc P3) _ L4 h4 (by simp)).touch (by repeat (first | exact Touch.refl _ _ | refine Touch.alloc ?_ _))
  · exact heap_alloc_keep (heap_alloc_keep (heap_alloc_keep (heap_alloc_keep (at_new (((w.alloc (lst L1)).alloc P1).alloc (lst L2)) _ P2 (by simp)) _) _) _) _
  · exact heap_alloc_keep (heap_alloc_keep (at_new (((((w.alloc (lst L1)).alloc P1).alloc (lst L2)).alloc P2).alloc (lst L3)) _ P3 (by simp)) _) _
  · exact at_new (((((((w.alloc (lst L1)).alloc P1).alloc (lst L2)).alloc P2).alloc (lst L3)).alloc P3).alloc (lst L4)) _ P4 (by simp)
  · repeat (first | exact Touch.refl _ _ | refine Touch.alloc ?_ _)

set_option maxHeartbeats 4000000 in
set_option maxRecDepth 100000 in
theorem stack_nat (a b : Nat) (ha : Wd a) (hb : Wd b) (w : World) :
    Calls Try.prog 5 #[.int .u64 a, .int .u64 b] w fun e w' => e = .returned (.bool true) ∧ Touch [] w w' := by
  have fa := frombits_run a
  have fb := frombits_run b
  have ta := hid (fun w => refText_any a w ha)
  have tb := hid (fun w => refText_any b w hb)
  have sz : ∀ l : List ByteArray, (∀ s ∈ l, s = txt (textOf a) ∨ s = txt (textOf b) ∨ s.size ≤ 10) → ∀ s ∈ l, s.size ≤ maxLen := fun l h s hs => by
    rcases h s hs with rfl | rfl | h
    · exact textOf_size ha
    · exact textOf_size hb
    · unfold maxLen; omega
  have zdropW : ∀ s ∈ dropW a b, s = txt (textOf a) ∨ s = txt (textOf b) ∨ s.size ≤ 10 := by
    intro s hs
    simp only [dropW, List.mem_cons, List.not_mem_nil, or_false] at hs
    rcases hs with rfl | rfl | rfl
    · exact .inl rfl
    · exact .inr (.inl rfl)
    · exact .inr (.inr (show (3 : Nat) + 1 ≤ 10 by decide))
  have zdupW : ∀ s ∈ dupW a, s = txt (textOf a) ∨ s = txt (textOf b) ∨ s.size ≤ 10 := by
    intro s hs
    simp only [dupW, List.mem_cons, List.not_mem_nil, or_false] at hs
    rcases hs with rfl | rfl | rfl
    · exact .inl rfl
    · exact .inr (.inr (show (3 : Nat) ≤ 10 by decide))
    · exact .inr (.inr (show (3 : Nat) ≤ 10 by decide))
  have zturnW : ∀ s ∈ turnW a b, s = txt (textOf a) ∨ s = txt (textOf b) ∨ s.size ≤ 10 := by
    intro s hs
    simp only [turnW, List.mem_cons, List.not_mem_nil, or_false] at hs
    rcases hs with rfl | rfl | rfl | rfl | rfl
    · exact .inl rfl
    · exact .inr (.inl rfl)
    · exact .inr (.inr (show (4 : Nat) ≤ 10 by decide))
    · exact .inr (.inr (show (4 : Nat) ≤ 10 by decide))
    · exact .inr (.inr (show (4 : Nat) ≤ 10 by decide))
  have zswapW : ∀ s ∈ swapW a b, s = txt (textOf a) ∨ s = txt (textOf b) ∨ s.size ≤ 10 := by
    intro s hs
    simp only [swapW, List.mem_cons, List.not_mem_nil, or_false] at hs
    rcases hs with rfl | rfl | rfl | rfl
    · exact .inl rfl
    · exact .inr (.inl rfl)
    · exact .inr (.inr (show (4 : Nat) ≤ 10 by decide))
    · exact .inr (.inr (show (4 : Nat) ≤ 10 by decide))
  have FL := hid (fun (w : World) (P1 P2 P3 P4 : Obj) => four_lists w (dropW a b) (dupW a) (turnW a b) (swapW a b) P1 P2 P3 P4 (sz _ zdropW) (sz _ zdupW) (sz _ zturnW) (sz _ zswapW))
  have R1 := hid (fun (w1 : World) (x : Option Addr) (h : TextsX w1 x (dropW a b)) => run_any x 3 (dropW a b) env0 w1 env0_ok (by first | exact (show (3 : Nat) ≤ _ by decide) | exact (show (4 : Nat) ≤ _ by decide) | exact (show (5 : Nat) ≤ _ by decide)) h)
  have R2 := hid (fun (w1 : World) (x : Option Addr) (h : TextsX w1 x (dupW a)) => run_any x 3 (dupW a) env0 w1 env0_ok (by first | exact (show (3 : Nat) ≤ _ by decide) | exact (show (4 : Nat) ≤ _ by decide) | exact (show (5 : Nat) ≤ _ by decide)) h)
  have R3 := hid (fun (w1 : World) (x : Option Addr) (h : TextsX w1 x (turnW a b)) => run_any x 5 (turnW a b) env0 w1 env0_ok (by first | exact (show (3 : Nat) ≤ _ by decide) | exact (show (4 : Nat) ≤ _ by decide) | exact (show (5 : Nat) ≤ _ by decide)) h)
  have R4 := hid (fun (w1 : World) (x : Option Addr) (h : TextsX w1 x (swapW a b)) => run_any x 4 (swapW a b) env0 w1 env0_ok (by first | exact (show (3 : Nat) ≤ _ by decide) | exact (show (4 : Nat) ≤ _ by decide) | exact (show (5 : Nat) ≤ _ by decide)) h)
  rw [drop_run ha hb] at R1
  rw [dup_run ha] at R2
  rw [turn_run ha hb] at R3
  rw [swap_run ha hb] at R4
  have hsf := store_flt
  have AL := hid (fun w => alive_any w)
  have sm : ∀ x y : Nat, Wd x → Wd y → can x = can y → ∀ w, Calls Try.prog 15 #[.float .f64 x, .float .f64 y] w fun e w' => e = .returned (.bool true) ∧ w = w' := fun x y hx hy h w => by
    have := refSame_any x y w hx hy
    rwa [decide_eq_true h] at this
  have S1 := hid (sm (can a) a ha.can ha (can_can a))
  have S2 := hid (sm (can a) (can a) ha.can ha.can rfl)
  have S3 := hid (sm (can b) b hb.can hb (can_can b))
  have l1 : lst (dropW a b) = .cells #[.string (txt (textOf a)), .string (txt (textOf b)), .string ⟨wDrop.toArray⟩] TStr := rfl
  have l2 : lst (dupW a) = .cells #[.string (txt (textOf a)), .string ⟨wDup.toArray⟩, .string ⟨wMin.toArray⟩] TStr := rfl
  have l3 : lst (turnW a b) = .cells #[.string (txt (textOf a)), .string (txt (textOf b)), .string ⟨wSwap.toArray⟩, .string ⟨wSwap.toArray⟩, .string ⟨wDrop.toArray⟩] TStr := rfl
  have l4 : lst (swapW a b) = .cells #[.string (txt (textOf a)), .string (txt (textOf b)), .string ⟨wSwap.toArray⟩, .string ⟨wDrop.toArray⟩] TStr := rfl
  rw [l1, l2, l3, l4] at FL
  have ea : (⟨(textOf a).toArray⟩ : ByteArray) = txt (textOf a) := rfl
  have eb : (⟨(textOf b).toArray⟩ : ByteArray) = txt (textOf b) := rfl
  rw [ea] at ta
  rw [eb] at tb
  have hd3 : (dropW a b).length = 3 := rfl
  have hu3 : (dupW a).length = 3 := rfl
  have ht5 : (turnW a b).length = 5 := rfl
  have hs4 : (swapW a b).length = 4 := rfl
  rw [hd3] at R1
  rw [hu3] at R2
  rw [ht5] at R3
  rw [hs4] at R4
  clear ha hb l1 l2 l3 l4 ea eb sz sm zdropW zdupW zturnW zswapW hd3 hu3 ht5 hs4
  generalize dropW a b = LD at *
  generalize dupW a = LU at *
  generalize turnW a b = LT at *
  generalize swapW a b = LS at *
  generalize txt (textOf a) = A at *
  generalize txt (textOf b) = B at *
  generalize can a = CA at *
  generalize can b = CB at *
  unfold wDrop wDup wMin wSwap at FL
  go_enter Try.func5, Try.ntmps5
  go_wp2_with fail
  refine (ta.out _).mono ?_
  rintro e w1 ⟨rfl, t1⟩
  go_wp2_with fail
  refine (tb.out _).mono ?_
  rintro e w2 ⟨rfl, t2⟩
  have T2 := hid (t1.trans t2 (by simp))
  clear t1 t2
  go_wp2_with fail
  have FX := hid (FL.out w2 (.cells #[.slice (some ⟨w2.heap.size, 0, none⟩) 3 3] TProg) (.cells #[.slice (some ⟨w2.heap.size + 1 + 1, 0, none⟩) 3 3] TProg) (.cells #[.slice (some ⟨w2.heap.size + 1 + 1 + 1 + 1, 0, none⟩) 5 5] TProg) (.cells #[.slice (some ⟨w2.heap.size + 1 + 1 + 1 + 1 + 1 + 1, 0, none⟩) 4 4] TProg))
  clear FL
  simp only [List.toArray] at FX
  generalize ((((((((w2.alloc _).alloc _).alloc _).alloc _).alloc _).alloc _).alloc _).alloc _) = X at FX ⊢
  refine (R1.out X _ FX.out.x1).mono ?_
  rintro e w3 ⟨rfl, t3⟩
  have q2 := fun o : Obj => cell_of (heap_alloc_keep (touch_other t3 FX.out.p2 (by simp)) o) 0
  have T3 := hid t3
  clear t3
  go_wp2_with fail
  refine (R2.out _ _ (FX.out.x2.touch (T3.out.alloc _))).mono ?_
  rintro e w4 ⟨rfl, t4⟩
  have F1 := hid (touch_other t4 (heap_alloc_new w3 (.cells fine.cells TFault)) (by simp))
  have T4 := hid ((T3.out.alloc (.cells fine.cells TFault)).trans t4 (by simp))
  have q3 := fun o : Obj => cell_of (heap_alloc_keep (touch_other T4.out FX.out.p3 (by simp)) o) 0
  clear t4 q2
  go_wp2_with fail
  refine (R3.out _ _ (FX.out.x3.touch (T4.out.alloc _))).mono ?_
  rintro e w5 ⟨rfl, t5⟩
  have F1b := hid (touch_other t5 (heap_alloc_keep F1.out (.cells fine.cells TFault)) (by simp))
  have F2b := hid (touch_other t5 (heap_alloc_new w4 (.cells fine.cells TFault)) (by simp))
  have T5 := hid ((T4.out.alloc (.cells fine.cells TFault)).trans t5 (by simp))
  have q4 := fun o : Obj => cell_of (heap_alloc_keep (touch_other T5.out FX.out.p4 (by simp)) o) 0
  clear t5 q3 F1
  go_wp2_with fail
  refine (R4.out _ _ (FX.out.x4.touch (T5.out.alloc _))).mono ?_
  rintro e w6 ⟨rfl, t6⟩
  have F1c := hid (touch_other t6 (heap_alloc_keep F1b.out (.cells fine.cells TFault)) (by simp))
  have F2c := hid (touch_other t6 (heap_alloc_keep F2b.out (.cells fine.cells TFault)) (by simp))
  have F3c := hid (touch_other t6 (heap_alloc_new w5 (.cells fine.cells TFault)) (by simp))
  have T6 := hid ((T5.out.alloc (.cells fine.cells TFault)).trans t6 (by simp))
  clear t6 q4 F1b F2b
  go_wp2_with fail
  refine (AL.out _).mono ?_
  rintro e w7 ⟨rfl, t7⟩
  have g1 := touch_other t7 (heap_alloc_keep (heap_alloc_keep F1c.out (.cells fine.cells TFault)) (.cells fine.cells TFault)) (by simp)
  have g2 := touch_other t7 (heap_alloc_keep (heap_alloc_keep F2c.out (.cells fine.cells TFault)) (.cells fine.cells TFault)) (by simp)
  have g3 := touch_other t7 (heap_alloc_keep (heap_alloc_keep F3c.out (.cells fine.cells TFault)) (.cells fine.cells TFault)) (by simp)
  have g4 := touch_other t7 (heap_alloc_keep (heap_alloc_new w6 (.cells fine.cells TFault)) (.cells fine.cells TFault)) (by simp)
  have g5 := touch_other t7 (at_new (w6.alloc (.cells fine.cells TFault)) (w6.heap.size + 1) (.cells fine.cells TFault) (by simp)) (by simp)
  have g10 := cell_of g1 0
  have g11 := cell_of g1 1
  have g12 := cell_of g1 2
  have g20 := cell_of g2 0
  have g21 := cell_of g2 1
  have g22 := cell_of g2 2
  have g30 := cell_of g3 0
  have g31 := cell_of g3 1
  have g32 := cell_of g3 2
  have g40 := cell_of g4 0
  have g41 := cell_of g4 1
  have g42 := cell_of g4 2
  have g50 := cell_of g5 0
  have g51 := cell_of g5 1
  have g52 := cell_of g5 2
  have T7 := hid ((((T2.out.trans FX.out.t (by simp)).trans T6.out (by simp)).alloc (.cells fine.cells TFault) |>.alloc (.cells fine.cells TFault)).trans t7 (by simp))
  clear t7 g1 g2 g3 g4 g5 T2 FX T3 T4 T5 T6 F1c F2c F3c R1 R2 R3 R4 ta tb AL
  go_wp2_with (go_at_call 15; (first | (with_reducible refine (S1.out _).mono ?_) | (with_reducible refine (S2.out _).mono ?_) | (with_reducible refine (S3.out _).mono ?_)); rintro e w' ⟨rfl, rfl⟩)
  go_ret
  exact ⟨rfl, T7.out⟩
theorem walk_ProgStack (a : Int) (wa : (Lit.int .u64 a).wf = true) (b : Int) (wb : (Lit.int .u64 b).wf = true) (w : World) :
    Calls Try.prog 5 #[.int .u64 a, .int .u64 b] w fun e w' => e = .returned (.bool true) ∧ Touch [] w w' := by
  obtain ⟨x, rfl, hx⟩ := u64_nat wa
  obtain ⟨y, rfl, hy⟩ := u64_nat wb
  exact stack_nat x y hx hy w
end Go.Proofs.Ytiglfdefeaddmaa
