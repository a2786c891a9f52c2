/- ask: what a resolver tells, or nothing. -/
import Derived.Test.YtmgglmoiepjebaaPut16
namespace Go.Proofs.Ytmgglmoiepjebaa
open Go.RowKit Go.Lib Go.ChangeShapes Go.WideShapes
set_option maxRecDepth 100000

theorem new_after (w : World) (o : Obj) (n : Nat) (h : w.heap.size = n) : (w.alloc o).heap[n]? = some o := by subst h; exact heap_alloc_new w o
theorem five_new (w : World) (o0 o1 o2 o3 o4 : Obj) :
    let W := ((((w.alloc o0).alloc o1).alloc o2).alloc o3).alloc o4
    W.heap[w.heap.size]? = some o0 ∧ W.heap[w.heap.size + 1]? = some o1 ∧ W.heap[w.heap.size + 1 + 1]? = some o2 ∧ W.heap[w.heap.size + 1 + 1 + 1]? = some o3 ∧ W.heap[w.heap.size + 1 + 1 + 1 + 1]? = some o4 ∧ W.heap.size = w.heap.size + 5 ∧ Touch [] w W :=
  ⟨heap_alloc_keep (heap_alloc_keep (heap_alloc_keep (heap_alloc_keep (heap_alloc_new w o0) o1) o2) o3) o4,
    heap_alloc_keep (heap_alloc_keep (heap_alloc_keep (new_after _ o1 _ (by simp)) o2) o3) o4,
    heap_alloc_keep (heap_alloc_keep (new_after _ o2 _ (by simp)) o3) o4,
    heap_alloc_keep (new_after _ o3 _ (by simp)) o4, new_after _ o4 _ (by simp), by simp, ((((((Touch.refl [] w).alloc _).alloc _).alloc _).alloc _).alloc _)⟩

abbrev TRes : TypeId := 30
abbrev TStr : TypeId := 9
abbrev TInt : TypeId := 3
abbrev resV (bx : Nat) : Value := .func (.func 9) #[] #[.pointer (some ⟨bx, 0, none⟩)]

set_option maxHeartbeats 4000000 in
theorem ask_nil (v : Int) (t : ByteArray) (w : World) :
    Calls Try.prog 35 #[.nilFunc, .int .i64 v, .string t] w fun e w' => e = .returned (fdV none) ∧ Touch [] w w' := by
  have hnil : ∀ (w : World), (binOp BinOp.neq TRes .nilFunc .nilFunc).run Try.prog w = .ok (.bool false) w := fun _ => by kernel_rfl
  obtain ⟨W5, hW5⟩ : ∃ W5, W5 = ((((w.alloc (.cells #[.nilFunc] TRes)).alloc (.cells #[.int .i64 v] TInt)).alloc (.cells #[.string t] TStr)).alloc (.cells (sC zeroS) TSto)).alloc (.cells #[.bool false] TBool) := ⟨_, rfl⟩
  have F := five_new w (.cells #[.nilFunc] TRes) (.cells #[.int .i64 v] TInt) (.cells #[.string t] TStr) (.cells (sC zeroS) TSto) (.cells #[.bool false] TBool)
  simp only [← hW5] at F
  obtain ⟨f0, -, -, f3, f4, f5, f6⟩ := F
  have c0 := cell_of f0 0
  have F3 : Hid (SB W5 (w.heap.size + 1 + 1 + 1) zeroS) := hid f3
  have F4 := hid f4
  have F6 := hid f6
  clear f0 f3 f4 f5 f6
  have hsf := store_flt
  go_enter Try.func35, Try.ntmps35
  go_upto_region 1 with fail
  simp only [TRes, TSto, TBool, TStr, TInt, sC, zeroS] at hW5
  rw [← hW5]
  clear hW5
  go_upto_region 3 with fail
  obtain ⟨z0, z1, z2, z3, z4, z5, z6, z7⟩ := (F3.out).at
  obtain ⟨y0, y1, y2, y3, y4, y5, y6, y7⟩ := (F3.out).free
  have x0 := cell_of F4.out 0
  have x1 := free_of F4.out 0
  simp at z0 z1 z2 z3 z4 z5 z6 z7 x0
  go_region
  have K0 := F3.out.set zeroS
  have L0 := (setB_other (W := W5) (b := w.heap.size + 1 + 1 + 1) (k := w.heap.size + 1 + 1 + 1 + 1) (s := zeroS) (by omega)).trans F4.out
  have K := (heap_set_other (w := setB W5 (w.heap.size + 1 + 1 + 1) zeroS) (p := ⟨w.heap.size + 1 + 1 + 1 + 1, 0, none⟩) (.bool false) (by simp)).trans K0
  have L := heap_set (i := 0) L0 (.bool false)
  have M := Touch.setCell (p := ⟨w.heap.size + 1 + 1 + 1 + 1, 0, none⟩) (setB_touch (b := w.heap.size + 1 + 1 + 1) (s := zeroS) F6.out (.inr (by omega))) (.inr (by simp; omega)) (.bool false)
  clear z0 z1 z2 z3 z4 z5 z6 z7 y0 y1 y2 y3 y4 y5 y6 y7 x0 x1 F3 F4 F6 K0 L0
  simp only [setB] at K L M
  generalize (((((((((W5.setCell ⟨w.heap.size + 1 + 1 + 1, 0, none⟩ (.int .i64 zeroS.id)).setCell ⟨w.heap.size + 1 + 1 + 1, 1, none⟩ (.string zeroS.typ)).setCell ⟨w.heap.size + 1 + 1 + 1, 2, none⟩ (.string zeroS.data)).setCell ⟨w.heap.size + 1 + 1 + 1, 3, none⟩ (.float .f64 zeroS.value)).setCell ⟨w.heap.size + 1 + 1 + 1, 4, none⟩ (.string zeroS.stream)).setCell ⟨w.heap.size + 1 + 1 + 1, 5, none⟩ (.int .i64 zeroS.version)).setCell ⟨w.heap.size + 1 + 1 + 1, 6, none⟩ (.int .i64 zeroS.position)).setCell ⟨w.heap.size + 1 + 1 + 1, 7, none⟩ (.int .i64 zeroS.time)).setCell ⟨w.heap.size + 1 + 1 + 1 + 1, 0, none⟩ (.bool false)) = W9 at K L M ⊢
  obtain ⟨z0, z1, z2, z3, z4, z5, z6, z7⟩ := SB.at (W := W9) (b := w.heap.size + 1 + 1 + 1) K
  have x0 := cell_of L 0
  simp at x0
  go_wp2
  refine bodyPost_ret (v := .tuple #[StoD.val zeroS, .bool false]) (by simp [results, Try.results35, go_sem, z0, z1, z2, z3, z4, z5, z6, z7, x0]) rfl ⟨rfl, M.drew⟩

set_option maxHeartbeats 4000000 in
theorem ask_some (bx : Nat) (v : Int) (t : ByteArray) (o : Option StoD) (w : World)
    (hF : ∀ W', Touch [] w W' → Calls Try.prog 9 #[.int .i64 v, .string t, .pointer (some ⟨bx, 0, none⟩)] W' fun e w' => e = .returned (fdV o) ∧ Touch [] W' w') :
    Calls Try.prog 35 #[resV bx, .int .i64 v, .string t] w fun e w' => e = .returned (fdV o) ∧ Touch [] w w' := by
  rw [fdV_eq]
  have hnil : ∀ (w : World), (binOp BinOp.neq TRes (resV bx) .nilFunc).run Try.prog w = .ok (.bool true) w := fun _ => by kernel_rfl
  have hmf : ∀ (fn : Fn) (first cap : Array Value) (w : World), (Instr.makeFunc fn first cap).run Try.prog w = .ok (.func fn first cap) w := fun _ _ _ _ => rfl
  obtain ⟨W5, hW5⟩ : ∃ W5, W5 = ((((w.alloc (.cells #[resV bx] TRes)).alloc (.cells #[.int .i64 v] TInt)).alloc (.cells #[.string t] TStr)).alloc (.cells (sC zeroS) TSto)).alloc (.cells #[.bool false] TBool) := ⟨_, rfl⟩
  have F := five_new w (.cells #[resV bx] TRes) (.cells #[.int .i64 v] TInt) (.cells #[.string t] TStr) (.cells (sC zeroS) TSto) (.cells #[.bool false] TBool)
  simp only [← hW5] at F
  obtain ⟨f0, f1, f2, f3, f4, f5, f6⟩ := F
  have c0 := cell_of f0 0
  simp at c0
  have TF : Touch [] w (W5.alloc (.cells #[.int .i64 0, .int .i64 0, .string none8] TFault)) := f6.alloc _
  have HD := hid (do_any 47 #[.pointer (some ⟨w.heap.size, 0, none⟩), .pointer (some ⟨w.heap.size + 1, 0, none⟩), .pointer (some ⟨w.heap.size + 1 + 1, 0, none⟩), .pointer (some ⟨w.heap.size + 1 + 1 + 1, 0, none⟩), .pointer (some ⟨w.heap.size + 1 + 1 + 1 + 1, 0, none⟩)]
    (fun _ w1 => SB w1 (w.heap.size + 1 + 1 + 1) (o.getD zeroS) ∧ w1.heap[w.heap.size + 1 + 1 + 1 + 1]? = some (.cells #[.bool o.isSome] TBool (0, 0)) ∧ Touch [] w w1) W5 (fun _ => rfl)
    ((ask1_any _ w.heap.size (w.heap.size + 1) (w.heap.size + 1 + 1) (w.heap.size + 1 + 1 + 1) (w.heap.size + 1 + 1 + 1 + 1) bx v t o (cell_of (heap_alloc_keep f0 _) 0) (cell_of (heap_alloc_keep f1 _) 0) (cell_of (heap_alloc_keep f2 _) 0) (heap_alloc_keep f3 _) (heap_alloc_keep f4 _) (by omega) (hF _ TF)).mono (by
      rintro e w1 ⟨rfl, s1, s2, s3⟩
      exact ⟨touch_other s3 (heap_alloc_new W5 _) (by rw [f5]; simp), .inl ⟨_, rfl, s1, s2, TF.trans s3 (by simp; omega)⟩⟩)))
  generalize o.getD zeroS = s at *
  generalize o.isSome = q at *
  clear f0 f1 f2 f3 f4 f6 TF hF
  have hsf := store_flt
  go_enter Try.func35, Try.ntmps35
  go_upto_region 1 with fail
  simp only [TRes, TSto, TBool, TStr, TInt, sC, zeroS] at hW5
  rw [← hW5]
  clear hW5
  go_upto_region 3 with (go_at_call 46; refine HD.out.mono ?_; rintro e w2 ⟨f, w1, rfl, ⟨s1, s2, s3⟩, s4⟩)
  have F3 : Hid (SB w2 (w.heap.size + 1 + 1 + 1) s) := hid (touch_other s4 s1 (by rw [f5]; simp))
  have F4 := hid (touch_other s4 s2 (by rw [f5]; simp))
  have F6 := hid (s3.trans s4 (by rw [f5]; simp))
  clear s1 s2 s3 s4 HD
  obtain ⟨z0, z1, z2, z3, z4, z5, z6, z7⟩ := (F3.out).at
  obtain ⟨y0, y1, y2, y3, y4, y5, y6, y7⟩ := (F3.out).free
  have x0 := cell_of F4.out 0
  have x1 := free_of F4.out 0
  simp at z0 z1 z2 z3 z4 z5 z6 z7 x0
  go_region
  have K0 := F3.out.set s
  have L0 := (setB_other (W := w2) (b := w.heap.size + 1 + 1 + 1) (k := w.heap.size + 1 + 1 + 1 + 1) (s := s) (by omega)).trans F4.out
  have K := (heap_set_other (w := setB w2 (w.heap.size + 1 + 1 + 1) s) (p := ⟨w.heap.size + 1 + 1 + 1 + 1, 0, none⟩) (.bool q) (by simp)).trans K0
  have L := heap_set (i := 0) L0 (.bool q)
  have M := Touch.setCell (p := ⟨w.heap.size + 1 + 1 + 1 + 1, 0, none⟩) (setB_touch (b := w.heap.size + 1 + 1 + 1) (s := s) F6.out (.inr (by omega))) (.inr (by simp; omega)) (.bool q)
  clear z0 z1 z2 z3 z4 z5 z6 z7 y0 y1 y2 y3 y4 y5 y6 y7 x0 x1 F3 F4 F6 K0 L0
  simp only [setB] at K L M
  generalize (((((((((w2.setCell ⟨w.heap.size + 1 + 1 + 1, 0, none⟩ (.int .i64 s.id)).setCell ⟨w.heap.size + 1 + 1 + 1, 1, none⟩ (.string s.typ)).setCell ⟨w.heap.size + 1 + 1 + 1, 2, none⟩ (.string s.data)).setCell ⟨w.heap.size + 1 + 1 + 1, 3, none⟩ (.float .f64 s.value)).setCell ⟨w.heap.size + 1 + 1 + 1, 4, none⟩ (.string s.stream)).setCell ⟨w.heap.size + 1 + 1 + 1, 5, none⟩ (.int .i64 s.version)).setCell ⟨w.heap.size + 1 + 1 + 1, 6, none⟩ (.int .i64 s.position)).setCell ⟨w.heap.size + 1 + 1 + 1, 7, none⟩ (.int .i64 s.time)).setCell ⟨w.heap.size + 1 + 1 + 1 + 1, 0, none⟩ (.bool q)) = W9 at K L M ⊢
  obtain ⟨z0, z1, z2, z3, z4, z5, z6, z7⟩ := SB.at (W := W9) (b := w.heap.size + 1 + 1 + 1) K
  have x0 := cell_of L 0
  simp at x0
  go_wp2
  refine bodyPost_ret (v := .tuple #[StoD.val s, .bool q]) (by simp [results, Try.results35, go_sem, z0, z1, z2, z3, z4, z5, z6, z7, x0]) rfl ⟨rfl, M.drew⟩

end Go.Proofs.Ytmgglmoiepjebaa
