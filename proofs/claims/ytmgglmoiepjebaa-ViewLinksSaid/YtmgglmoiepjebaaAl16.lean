/- chroniclelaw16.alive. -/
import Derived.Test.YtmgglmoiepjebaaFw16
namespace Go.Proofs.Ytmgglmoiepjebaa
open Go.RowKit Go.Lib Go.Shelf
set_option maxRecDepth 100000

theorem stoX_new {w : World} {b : Nat} {l : List StoD} {cs : Array Value} {fz : Nat × Nat} (h : w.heap[b]? = some (.cells cs TSto fz)) (hc : cs.toList = stoVals l) (hok : ∀ s ∈ l, s.Ok) : StoX w (some ⟨b, 0, none⟩) l :=
  stoX_of (fun j u hu => by rw [Nat.zero_add, cell_of h, ← Array.getElem?_toList, hc]; exact hu) hok
def zS (p : Int) : StoD := ⟨0, ⟨#[]⟩, ⟨#[]⟩, 0, ⟨#[]⟩, 0, p, 0⟩
theorem zS_ok {p : Int} (h0 : 0 ≤ p) (h1 : p ≤ 100) : (zS p).Ok := by
  have hm : maxLen = 9223372036854775807 := rfl
  exact ⟨(by show 0 < _; decide), (by show (-9223372036854775808 : Int) ≤ 0; decide), (by show (0 : Int) ≤ _; decide), (by show (-9223372036854775808 : Int) ≤ 0; decide), (by show (0 : Int) ≤ _; decide), (by show (-9223372036854775808 : Int) ≤ p; omega), (by show p ≤ _; omega), (by show (-9223372036854775808 : Int) ≤ 0; decide), (by show (0 : Int) ≤ _; decide), (by show 0 ≤ _; omega), (by show 0 ≤ _; omega), (by show 0 ≤ _; omega)⟩
theorem zS_good {p : Int} (h0 : 0 ≤ p) (h1 : p ≤ 100) : Good (zS p) := ⟨zS_ok h0 h1, (by show 0 ≤ _; omega), (by show 0 ≤ _; omega), (by show 0 ≤ _; omega)⟩
def aL : List StoD := [zS 3, zS 5, zS 9]
theorem aL_good : ∀ s ∈ aL, Good s := by
  intro s hs
  simp [aL] at hs
  rcases hs with rfl | rfl | rfl
  · exact zS_good (by decide) (by decide)
  · exact zS_good (by decide) (by decide)
  · exact zS_good (by decide) (by decide)
theorem aF1 : (fwdL aL 4 1).length = 1 := by simp [fwdL, aL, fwdP, zS]
theorem aF2 : fwdN aL 4 1 = 6 := by simp [fwdN, aL, fwdP, zS, nxt, aboveV]
theorem aF3 : fwdE aL 4 1 = false := by simp [fwdE, aL, fwdP, zS]
theorem aB1 : (bwdL aL 8 5).length = 2 := by simp [bwdL, aL, bwdP, zS]
theorem aB2 : bwdN aL 8 5 = 2 := by simp [bwdN, aL, bwdP, zS, nxt, belowV]; decide
theorem aB3 : bwdE aL 8 5 = true := by simp [bwdE, aL, bwdP, zS]
set_option maxHeartbeats 4000000 in
theorem alive16_any (w : World) : Calls Try.prog 8 #[] w fun e w' => e = .returned (.bool true) ∧ Touch [] w w' := by
  obtain ⟨W1, hW1⟩ : ∃ W1, W1 = w.alloc (.cells #[.int .i64 0, .string ⟨#[]⟩, .string ⟨#[]⟩, .float .f64 0, .string ⟨#[]⟩, .int .i64 0, .int .i64 3, .int .i64 0, .int .i64 0, .string ⟨#[]⟩, .string ⟨#[]⟩, .float .f64 0, .string ⟨#[]⟩, .int .i64 0, .int .i64 5, .int .i64 0, .int .i64 0, .string ⟨#[]⟩, .string ⟨#[]⟩, .float .f64 0, .string ⟨#[]⟩, .int .i64 0, .int .i64 9, .int .i64 0] TSto) := ⟨_, rfl⟩
  have t1 : Touch [] w W1 := by rw [hW1]; exact (Touch.refl [] w).alloc _
  have hX : StoX W1 (some ⟨w.heap.size, 0, none⟩) aL := by
    rw [hW1]
    exact stoX_new (heap_alloc_new w _) rfl (fun s hs => (aL_good s hs).1)
  have CF := hid (forward_any 4 1 (by decide) (by decide) (by decide) (some ⟨w.heap.size, 0, none⟩) 3 aL W1 hX aL_good (by decide))
  have CB : Hid (∀ W, Touch [] W1 W → _) := hid fun W t => backward_any 8 5 (by decide) (by decide) (by decide) (some ⟨w.heap.size, 0, none⟩) 3 aL W (hX.touch t) aL_good (by decide)
  rw [show aL.length = 3 from rfl, aF2, aF3] at CF
  rw [show aL.length = 3 from rfl, aB2, aB3] at CB
  have T1 := hid t1
  clear hX t1
  go_enter Try.func8, Try.ntmps8
  go_upto_region 2 with fail
  simp only [TSto] at hW1
  rw [← hW1]
  clear hW1
  go_upto_region 3 with (go_at_call 15; refine CF.out.mono ?_; clear CF; rintro e w2 ⟨v2, rfl, r2, t2⟩; obtain ⟨y2, c2, rfl, -, -⟩ := slice_form r2; rw [aF1] at r2 ⊢; clear r2)
  obtain ⟨W3, hW3⟩ : ∃ W3, W3 = w2.alloc (.cells #[.slice y2 1 c2, .int .i64 6, .bool false] TPage) := ⟨_, rfl⟩
  have P3 : Hid (W3.heap[w2.heap.size]? = some (.cells #[.slice y2 1 c2, .int .i64 6, .bool false] TPage (0, 0))) := by rw [hW3]; exact hid (heap_alloc_new w2 _)
  have T3 : Touch [] W1 W3 := by rw [hW3]; exact t2.alloc _
  simp only [TPage] at hW3
  rw [← hW3]
  clear hW3
  have CB3 := hid (CB.out W3 T3)
  have HT3 := hid (T1.out.trans T3 (by simp))
  clear CB T3
  go_upto_region 4 with (go_at_call 16; refine CB3.out.mono ?_; clear CB3; rintro e w4 ⟨v4, rfl, r4, t4⟩; obtain ⟨y4, c4, rfl, -, -⟩ := slice_form r4; rw [aB1] at r4 ⊢; clear r4)
  have P5 := heap_alloc_keep (touch_other t4 P3.out (by simp)) (.cells #[.slice y4 2 c4, .int .i64 2, .bool true] TPage)
  have Q5 := heap_alloc_new w4 (.cells #[.slice y4 2 c4, .int .i64 2, .bool true] TPage)
  have T5 := hid ((HT3.out.trans t4 (by simp)).alloc (.cells #[.slice y4 2 c4, .int .i64 2, .bool true] TPage))
  obtain ⟨p0, p1, p2⟩ := pg_cells P5
  obtain ⟨q0, q1, q2⟩ := pg_cells Q5
  clear P5 Q5 P3
  simp only [TPage] at T5 p0 p1 p2 q0 q1 q2
  generalize w4.alloc (.cells #[.slice y4 2 c4, .int .i64 2, .bool true] 41) = W5 at *
  go_wp2
  go_ret
  exact ⟨rfl, T5.out⟩
end Go.Proofs.Ytmgglmoiepjebaa
