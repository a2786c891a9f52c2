/- The walk of GuardMust. -/
import Derived.Test.YtjakkjjohpkcjaaGmust
namespace Go.Proofs.Ytjakkjjohpkcjaa
open Go.RowKit Go.Lib Go.ChangeShapes

theorem gmust_long (n : Int) (s : ByteArray) (w : World) (h : (300 : Int) < s.size) :
    Calls Try.prog 6 #[.int .i64 n, .string s] w fun e w' => e = .returned (.bool true) ∧ Touch [] w w' := by
  have C0 := hid alive_true
  go_enter Try.func6, Try.ntmps6
  go_wp2_with (go_at_call 10; refine (C0.out _).mono ?_; rintro e w1 ⟨rfl, a1⟩)
  go_ret
  exact ⟨rfl, (((Touch.refl _ _).alloc _).alloc _).trans a1 (by simp)⟩

set_option maxRecDepth 100000 in
set_option maxHeartbeats 1000000 in
theorem gmust_any (n : Int) (s : ByteArray) (w : World) (h : (s.size : Int) ≤ 300) :
    Calls Try.prog 6 #[.int .i64 n, .string s] w fun e w' => e = .returned (.bool true) ∧ Touch [] w w' := by
  have C0 := hid alive_true
  have HE : Hid (((w.alloc (.cells #[.int .i64 n] 3)).alloc (.cells #[.string s] 9)).heap[w.heap.size]? = some (intBlock n)) := hid (heap_alloc_keep (heap_alloc_new w _) _)
  have HS : Hid (((w.alloc (.cells #[.int .i64 n] 3)).alloc (.cells #[.string s] 9)).heap[w.heap.size + 1]? = some (textBlock s)) := hid (by simpa using heap_alloc_new (w.alloc (.cells #[.int .i64 n] 3)) (.cells #[.string s] 9))
  have HT : Hid (Touch [] w ((w.alloc (.cells #[.int .i64 n] 3)).alloc (.cells #[.string s] 9))) := hid (((Touch.refl _ _).alloc _).alloc _)
  have hmf := make_func
  go_enter Try.func6, Try.ntmps6
  go_wp2_with fail
  refine (C0.out _).mono ?_
  rintro e w1 ⟨rfl, a1⟩
  have he := touch_other a1 HE.out (by simp)
  have hs := touch_other a1 HS.out (by simp)
  have T1 := hid (HT.out.trans a1 (by simp))
  clear HE HS HT a1
  go_wp2_with fail
  have hlt := lt_of_block he
  have hlt2 := lt_of_block hs
  by_cases hz : n = 0
  · subst hz
    have D := hid (must_do_ok w.heap.size w1.heap.size (w1.alloc (intBlock 0)) (heap_alloc_keep he _) (heap_alloc_new _ _))
    refine D.out.mono ?_
    rintro e w2 ⟨rfl, hn, a2⟩
    have he := touch_other a2 (heap_alloc_keep he _) (by simp; omega)
    have hs := touch_other a2 (heap_alloc_keep hs _) (by simp; omega)
    have T2 := hid ((T1.out.alloc (intBlock 0)).trans a2 (by simp; have := T1.out.size; omega))
    have hlt3 := lt_of_block hn
    clear D a2
    go_wp2_with fail
    have D := hid (fail_do (w.heap.size + 1) w1.heap.size s 1 (w2.alloc (.cells #[.int .i64 0, .int .i64 0, .string none8] TFault)) (heap_alloc_keep hs _) (heap_alloc_keep hn _))
    refine D.out.mono ?_
    rintro e w3 ⟨rfl, hn, a3⟩
    obtain ⟨c0, c1⟩ := cell_one (touch_other a3 (heap_alloc_keep he _) (by simp; omega))
    obtain ⟨c2, c3⟩ := cell_one (touch_other a3 (heap_alloc_keep hs _) (by simp; omega))
    obtain ⟨c4, c5⟩ := cell_one hn
    obtain ⟨⟨c6, c7, c8⟩, c9, c10, c11⟩ := cell_three (touch_other a3 (heap_alloc_new w2 (.cells #[.int .i64 0, .int .i64 0, .string none8] TFault)) (by simp; omega))
    have T3 := hid ((T2.out.alloc (.cells #[.int .i64 0, .int .i64 0, .string none8] TFault)).trans a3 (by simp; have := T1.out.size; omega))
    have A3 := hid a3
    have H1 := hid hn
    have H2 := hid he
    have H3 := hid hs
    clear D a3 hn he hs
    go_wp2
    go_ret
    exact ⟨rfl, T3.out.alloc _⟩
  · have D := hid (must_do_bad w.heap.size w1.heap.size n hz (w1.alloc (intBlock 0)) (heap_alloc_keep he _) (heap_alloc_new _ _))
    refine D.out.mono ?_
    rintro e w2 ⟨rfl, hn, a2⟩
    have he := touch_other a2 (heap_alloc_keep he _) (by simp; omega)
    have hs := touch_other a2 (heap_alloc_keep hs _) (by simp; omega)
    have T2 := hid ((T1.out.alloc (intBlock 0)).trans a2 (by simp; have := T1.out.size; omega))
    have hlt3 := lt_of_block hn
    clear D a2
    go_wp2_with fail
    have D := hid (fail_do (w.heap.size + 1) w1.heap.size s 0 (w2.alloc (.cells #[.int .i64 n, .int .i64 2, .string none8] TFault)) (heap_alloc_keep hs _) (heap_alloc_keep hn _))
    refine D.out.mono ?_
    rintro e w3 ⟨rfl, hn, a3⟩
    obtain ⟨c0, c1⟩ := cell_one (touch_other a3 (heap_alloc_keep he _) (by simp; omega))
    obtain ⟨c2, c3⟩ := cell_one (touch_other a3 (heap_alloc_keep hs _) (by simp; omega))
    obtain ⟨c4, c5⟩ := cell_one hn
    obtain ⟨⟨c6, c7, c8⟩, c9, c10, c11⟩ := cell_three (touch_other a3 (heap_alloc_new w2 (.cells #[.int .i64 n, .int .i64 2, .string none8] TFault)) (by simp; omega))
    have T3 := hid ((T2.out.alloc (.cells #[.int .i64 n, .int .i64 2, .string none8] TFault)).trans a3 (by simp; have := T1.out.size; omega))
    clear D a3 hn he hs
    go_wp2
    go_ret
    exact ⟨rfl, T3.out.alloc _⟩

theorem walk_GuardMust (n : Int) (_ : (Lit.int .i64 n).wf = true) (s : ByteArray) (_ : s.size ≤ maxLen) (w : World) :
    Calls Try.prog 6 #[.int .i64 n, .string s] w fun e w' => e = .returned (.bool true) ∧ Touch [] w w' := by
  by_cases h : (300 : Int) < s.size
  · exact gmust_long n s w h
  · exact gmust_any n s w (by omega)
end Go.Proofs.Ytjakkjjohpkcjaa
