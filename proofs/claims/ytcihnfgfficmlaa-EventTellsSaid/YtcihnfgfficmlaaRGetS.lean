/- event's GetStored. -/
import Derived.Test.YtcihnfgfficmlaaRReadS
namespace Go.Proofs.Ytcihnfgfficmlaa
open Go.RowKit Go.Lib

set_option maxRecDepth 100000 in
set_option maxHeartbeats 1000000 in
theorem evGetS_any (B : ByteArray) (w : World) (hB : B.size ≤ 4000) : Calls Try.prog 29 #[.string B] w fun r w' => r = .returned (.tuple #[(getS B.data.toList).1.agg, .int .i64 (getS B.data.toList).2]) ∧ Touch [] w w' := by
  have C := hid (fun w => readS_any B w hB)
  unfold StD.agg at *
  generalize getS B.data.toList = g at *
  clear hB
  have Z1 := hid (heap_alloc_new w (.cells zstos tSto))
  have S1 : Hid (Touch [] w (w.alloc (.cells zstos tSto))) := (Touch.refl _ _).alloc _
  unfold zstos at Z1 S1
  simp only [tSto] at Z1 S1
  go_enter Try.func29, Try.ntmps29
  go_wp2_with fail
  generalize w.alloc (.cells #[.int .i64 0, .string ⟨#[]⟩, .string ⟨#[]⟩, .float .f64 0, .string ⟨#[]⟩, .int .i64 0, .int .i64 0, .int .i64 0] 44) = W1 at *
  refine (C.out W1).mono ?_
  rintro e w1 ⟨rfl, t1⟩
  have HZ := hid (touch_blk t1 Z1.out (by simp))
  have z0 := cell_of HZ.out 0; have y0 := free_of HZ.out 0
  have z1 := cell_of HZ.out 1; have y1 := free_of HZ.out 1
  have z2 := cell_of HZ.out 2; have y2 := free_of HZ.out 2
  have z3 := cell_of HZ.out 3; have y3 := free_of HZ.out 3
  have z4 := cell_of HZ.out 4; have y4 := free_of HZ.out 4
  have z5 := cell_of HZ.out 5; have y5 := free_of HZ.out 5
  have z6 := cell_of HZ.out 6; have y6 := free_of HZ.out 6
  have z7 := cell_of HZ.out 7; have y7 := free_of HZ.out 7
  have T := hid (S1.out.trans t1 (by simp))
  have hsf := store_flt
  clear t1 Z1 S1 C
  go_wp2
  refine bodyPost_ret (v := .tuple #[.agg #[.int .i64 g.1.e.id, .string g.1.e.typ, .string g.1.e.data, .float .f64 g.1.e.val, .string g.1.stream, .int .i64 g.1.ver, .int .i64 g.1.pos, .int .i64 g.1.time], .int .i64 g.2]) (by simp [results, Try.results29, go_sem, z0, z1, z2, z3, z4, z5, z6, z7]) rfl ⟨rfl, ((((((((T.out).setCell (.inr (Nat.le_refl _)) _).setCell (.inr (Nat.le_refl _)) _).setCell (.inr (Nat.le_refl _)) _).setCell (.inr (Nat.le_refl _)) _).setCell (.inr (Nat.le_refl _)) _).setCell (.inr (Nat.le_refl _)) _).setCell (.inr (Nat.le_refl _)) _).setCell (.inr (Nat.le_refl _)) _⟩
end Go.Proofs.Ytcihnfgfficmlaa
