/- event's Get. -/
import Derived.Test.YtcihnfgfficmlaaRRead
import Derived.Test.YtcihnfgfficmlaaSto7
namespace Go.Proofs.Ytcihnfgfficmlaa
open Go.RowKit Go.Lib

set_option maxRecDepth 100000 in
set_option maxHeartbeats 1000000 in
theorem evGet_any (B : ByteArray) (w : World) (hB : B.size ≤ 4000) : Calls Try.prog 18 #[.string B] w (GetPost B.data.toList w) := by
  have C := hid (fun w => readC_any B w hB)
  unfold GetPost CmdD.agg at *
  generalize getOf B.data.toList = g at *
  clear hB
  have Z1 := hid (heap_alloc_new w (.cells zcells tCmd))
  have S1 : Hid (Touch [] w (w.alloc (.cells zcells tCmd))) := (Touch.refl _ _).alloc _
  unfold zcells at Z1 S1
  simp only [tCmd] at Z1 S1
  go_enter Try.func18, Try.ntmps18
  go_wp2_with fail
  generalize hW1 : w.alloc (.cells #[.int .i64 0, .int .i64 0, .string ⟨#[]⟩, .int .i64 0, .slice none 0 0, .int .i64 0, .int .i64 0, .int .i64 0] 26) = W1 at *
  have hsz : W1.heap.size = w.heap.size + 1 := by rw [← hW1]; simp
  have HS := hid hsz
  clear hW1 hsz
  refine (C.out W1).mono ?_
  rintro e w1 ⟨y, cap, rfl, x1, t1, l1⟩
  have HZ := hid (touch_blk t1 Z1.out (by simp))
  have z0 := cell_of HZ.out 0; have y0 := free_of HZ.out 0
  have z1 := cell_of HZ.out 1; have y1 := free_of HZ.out 1
  have z2 := cell_of HZ.out 2; have y2 := free_of HZ.out 2
  have z3 := cell_of HZ.out 3; have y3 := free_of HZ.out 3
  have z4 := cell_of HZ.out 4; have y4 := free_of HZ.out 4
  have z5 := cell_of HZ.out 5; have y5 := free_of HZ.out 5
  have z6 := cell_of HZ.out 6; have y6 := free_of HZ.out 6
  have z7 := cell_of HZ.out 7; have y7 := free_of HZ.out 7
  have X := hid x1
  have L := hid l1
  have T := hid (S1.out.trans t1 (by simp))
  clear x1 l1 t1 Z1 S1 C
  go_wp2
  have T8 : ∀ a0 a1 a2 a3 a4 a5 a6 a7 : Value, Touch [w.heap.size] w1 ((((((((w1.setCell ⟨w.heap.size, 0, none⟩ a0).setCell ⟨w.heap.size, 1, none⟩ a1).setCell ⟨w.heap.size, 2, none⟩ a2).setCell ⟨w.heap.size, 3, none⟩ a3).setCell ⟨w.heap.size, 4, none⟩ a4).setCell ⟨w.heap.size, 5, none⟩ a5).setCell ⟨w.heap.size, 6, none⟩ a6).setCell ⟨w.heap.size, 7, none⟩ a7) := fun _ _ _ _ _ _ _ _ =>
    ((((((((Touch.refl _ _).setCell (.inl (by simp)) _).setCell (.inl (by simp)) _).setCell (.inl (by simp)) _).setCell (.inl (by simp)) _).setCell (.inl (by simp)) _).setCell (.inl (by simp)) _).setCell (.inl (by simp)) _).setCell (.inl (by simp)) _
  have L2 : ∀ a, y = some a → w.heap.size < a.block := fun a ha => by have := L.out a ha; have := HS.out; omega
  refine bodyPost_ret (v := .tuple #[.agg #[.int .i64 g.1.kind, .int .i64 g.1.time, .string g.1.stream, .int .i64 g.1.exp, .slice y g.1.evs.length cap, .int .i64 g.1.cnt, .int .i64 g.1.age, .int .i64 g.1.bef], .int .i64 g.2]) (by simp [results, Try.results18, go_sem, z0, z1, z2, z3, z4, z5, z6, z7]) rfl ⟨y, cap, rfl, evX_keep X.out (T8 _ _ _ _ _ _ _ _) (fun a ha => by have := L2 a ha; simp; omega), ((((((((T.out).setCell (.inr (Nat.le_refl _)) _).setCell (.inr (Nat.le_refl _)) _).setCell (.inr (Nat.le_refl _)) _).setCell (.inr (Nat.le_refl _)) _).setCell (.inr (Nat.le_refl _)) _).setCell (.inr (Nat.le_refl _)) _).setCell (.inr (Nat.le_refl _)) _).setCell (.inr (Nat.le_refl _)) _, fun a ha => Nat.le_of_lt (L2 a ha)⟩
end Go.Proofs.Ytcihnfgfficmlaa
