/- event's getEvent: an event out of bytes. -/
import Derived.Test.YtcihnfgfficmlaaGet7
import Derived.Test.YtcihnfgfficmlaaRChk
namespace Go.Proofs.Ytcihnfgfficmlaa
open Go.RowKit Go.Lib
set_option maxRecDepth 100000

theorem inI64_at {x : Nat} {st : List UInt8 × Int} {w : World} (h : InIs w x st) :
    Calls Try.prog 77 #[.pointer (some ⟨x, 0, none⟩)] w fun e w' => e = .returned (.int .i64 (i64 (val (iTake st 8).1))) ∧ InPost x (iTake st 8).2 w w' :=
  (inI64_st x st w h).mono fun e w' ⟨he, hp⟩ => ⟨by rw [he, i64_wrap _ (val8_lt st)], hp⟩

theorem getEv_st (x : Nat) (st : List UInt8 × Int) (w : World) (h : InIs w x st) (hl : st.1.length ≤ 100000) :
    Calls Try.prog 79 #[.pointer (some ⟨x, 0, none⟩)] w fun r w' => r = .returned (takeE st).1.agg ∧ InPost x (takeE st).2 w w' := by
  have hlt := h.lt
  have hT : Hid (takeE st = (⟨i64 (val (iTake st 8).1), bytesT (iText (iTake st 8).2 60).1, bytesT (iText (iText (iTake st 8).2 60).2 200).1, canon (val (iTake (iText (iText (iTake st 8).2 60).2 200).2 8).1)⟩,
   (iTake (iText (iText (iTake st 8).2 60).2 200).2 8).2)) := rfl
  have le1 := (iTake_le st 8).2
  have le2 := iText_le (iTake st 8).2 60
  have le3 := iText_le (iText (iTake st 8).2 60).2 200
  have C1 := hid (fun w (h : InIs w x st) => inI64_at h)
  have C2 := hid (fun w (h : InIs w x (iTake st 8).2) => inText_st x (iTake st 8).2 60 w h (by omega))
  have C3 := hid (fun w (h : InIs w x (iText (iTake st 8).2 60).2) => inText_st x (iText (iTake st 8).2 60).2 200 w h (by omega))
  have C4 := hid (fun w (h : InIs w x (iText (iText (iTake st 8).2 60).2 200).2) => inF64_st x (iText (iText (iTake st 8).2 60).2 200).2 w h)
  unfold EvD.agg
  generalize takeE st = R at *
  generalize iText (iText (iTake st 8).2 60).2 200 = s3 at *
  generalize iText (iTake st 8).2 60 = s2 at *
  generalize iTake st 8 = s1 at *
  generalize iTake s3.2 8 = s4 at *
  have hsf := store_flt
  clear hl le1 le2 le3
  generalize i64 (val s1.1) = n1 at *
  generalize canon (val s4.1) = n4 at *
  obtain ⟨w1, hw1⟩ : ∃ w1, w1 = w.alloc (.cells #[.int .i64 0, .string ⟨#[]⟩, .string ⟨#[]⟩, .float .f64 0] 32) := ⟨_, rfl⟩
  have R1 : Hid (InPost x st w w1) := hid ⟨h.keep (by rw [hw1]; exact (Touch.refl [] w).alloc _) (by simp), by rw [hw1]; exact (Touch.refl [x] w).alloc _⟩
  have Z1 := hid (heap_alloc_new w (.cells #[.int .i64 0, .string ⟨#[]⟩, .string ⟨#[]⟩, .float .f64 0] 32))
  rw [← hw1] at Z1
  have hne : w.heap.size ∉ [x] := by simp; omega
  have HNE := hid hne
  clear h hlt hne
  go_enter Try.func79, Try.ntmps79
  go_upto_region 1 with fail
  rw [← hw1]
  clear hw1
  go_wp2_with fail
  refine (C1.out w1 R1.out.1).mono ?_
  rintro e w2 ⟨rfl, p2⟩
  have R2 := hid (p2.up R1.out.2)
  have Z2 := hid (touch_blk0 p2.2 Z1.out HNE.out)
  clear p2 C1 R1 Z1
  go_wp2_with fail
  refine (C2.out w2 R2.out.1).mono ?_
  rintro e w3 ⟨rfl, p3⟩
  have R3 := hid (p3.up R2.out.2)
  have Z3 := hid (touch_blk0 p3.2 Z2.out HNE.out)
  clear p3 C2 R2 Z2
  go_wp2_with fail
  refine (C3.out w3 R3.out.1).mono ?_
  rintro e w4 ⟨rfl, p4⟩
  have R4 := hid (p4.up R3.out.2)
  have Z4 := hid (touch_blk0 p4.2 Z3.out HNE.out)
  clear p4 C3 R3 Z3
  go_wp2_with fail
  refine (C4.out w4 R4.out.1).mono ?_
  rintro e w5 ⟨rfl, p5⟩
  have R5 := hid (p5.up R4.out.2)
  have Z5 := hid (touch_blk0 p5.2 Z4.out HNE.out)
  clear p5 C4 R4 Z4
  have z0 := cell_of Z5.out 0; have z1 := cell_of Z5.out 1; have z2 := cell_of Z5.out 2; have z3 := cell_of Z5.out 3
  have y0 := free_of Z5.out 0; have y1 := free_of Z5.out 1; have y2 := free_of Z5.out 2; have y3 := free_of Z5.out 3
  go_wp2
  have hx : x ≠ w.heap.size := by have := HNE.out; simp at this; omega
  have F : ∀ {W : World} (i : Nat) (u : Value), InPost x s4.2 w W → InPost x s4.2 w (W.setCell ⟨w.heap.size, i, none⟩ u) := fun {W} i u h => ⟨⟨(heap_set_other u (by show x ≠ w.heap.size; exact hx)).trans h.1.1, h.1.2⟩, h.2.setCell (.inr (Nat.le_refl _)) u⟩
  refine bodyPost_ret (v := .agg #[.int .i64 n1, .string ⟨s2.1.toArray⟩, .string ⟨s3.1.toArray⟩, .float .f64 n4]) (by simp [results, Try.results79, go_sem, z0, z1, z2, z3]) rfl ⟨by rw [hT.out]; rfl, by rw [hT.out]; exact F 3 _ (F 2 _ (F 1 _ (F 0 _ R5.out)))⟩
end Go.Proofs.Ytcihnfgfficmlaa
