/- fresh: a stored event in memory of its own. -/
import Derived.Test.YtmgglmoiepjebaaSs16
import Derived.Test.YtmgglmoiepjebaaShelf
import Derived.Deep.RegionHeld3
namespace Go.Proofs.Ytmgglmoiepjebaa
set_option maxRecDepth 100000
open Go.RowKit Go.Lib Go.Shelf

theorem clone_any (s : ByteArray) (w : World) (hs : s.size ≤ 281474976710656) : Calls Try.prog 32 #[.string s] w fun e w' => e = .returned (.string s) ∧ Touch [] w w' := by
  have C := hid (Try.stringslite_Clone s w hs)
  clear hs
  go_enter Try.func32, Try.ntmps32
  go_wp2_with (go_at_call 40; refine C.out.mono ?_; rintro e w1 ⟨rfl, a1⟩)
  go_ret
  exact ⟨rfl, Touch.of_below a1⟩
def HB (w' : World) (b : Nat) (a0 : Int) (a1 a2 : ByteArray) (a3 : Nat) (a4 : ByteArray) (a5 a6 a7 : Int) : Prop := Hid (w'.heap[b]? = some (.cells #[.int .i64 a0, .string a1, .string a2, .float .f64 a3, .string a4, .int .i64 a5, .int .i64 a6, .int .i64 a7] TSto (0, 0)))
section
variable {w' : World} {b : Nat} {a0 : Int} {a1 a2 : ByteArray} {a3 : Nat} {a4 : ByteArray} {a5 a6 a7 : Int} (h : HB w' b a0 a1 a2 a3 a4 a5 a6 a7)
include h
theorem HB.set1 : HB (w'.setCell ⟨b, 1, none⟩ (.string a1)) b a0 a1 a2 a3 a4 a5 a6 a7 := hid (heap_set h.out _)
theorem HB.set2 : HB (w'.setCell ⟨b, 2, none⟩ (.string a2)) b a0 a1 a2 a3 a4 a5 a6 a7 := hid (heap_set h.out _)
theorem HB.set4 : HB (w'.setCell ⟨b, 4, none⟩ (.string a4)) b a0 a1 a2 a3 a4 a5 a6 a7 := hid (heap_set h.out _)
theorem HB.S : w'.cell? ⟨b, 1, none⟩ = some (.string a1) ∧ w'.cell? ⟨b, 2, none⟩ = some (.string a2) ∧ w'.cell? ⟨b, 4, none⟩ = some (.string a4) := ⟨cell_of h.out 1, cell_of h.out 2, cell_of h.out 4⟩
end
set_option maxHeartbeats 4000000 in
theorem fresh_any (s : StoD) (ht : s.typ.size ≤ 281474976710656) (hd : s.data.size ≤ 281474976710656) (hs : s.stream.size ≤ 281474976710656) (w : World) :
    Calls Try.prog 19 #[s.val] w fun r w' => r = .returned (canS s).val ∧ Touch [] w w' := by
  obtain ⟨a0, a1, a2, a3, a4, a5, a6, a7⟩ := s
  simp only [] at ht hd hs ⊢
  have C1 := hid fun w => clone_any a1 w ht
  have C2 := hid fun w => clone_any a2 w hd
  have C4 := hid fun w => clone_any a4 w hs
  have CC := hid fun w => canonR_any a3 w
  have hsf := store_flt
  clear ht hd hs
  obtain ⟨W2, hW2⟩ : ∃ W2, W2 = (w.alloc (.cells #[.int .i64 a0, .string a1, .string a2, .float .f64 a3, .string a4, .int .i64 a5, .int .i64 a6, .int .i64 a7] TSto)).alloc (.cells #[.int .i64 0, .string ⟨#[]⟩, .string ⟨#[]⟩, .float .f64 0, .string ⟨#[]⟩, .int .i64 0, .int .i64 0, .int .i64 0] TSto) := ⟨_, rfl⟩
  have T2 : Hid (Touch [] w W2) := by rw [hW2]; exact hid (((Touch.refl [] w).alloc _).alloc _)
  have A : Hid (W2.heap[w.heap.size]? = some (.cells #[.int .i64 a0, .string a1, .string a2, .float .f64 a3, .string a4, .int .i64 a5, .int .i64 a6, .int .i64 a7] TSto (0, 0))) := by
    rw [hW2]; exact hid (heap_alloc_keep (heap_alloc_new w _) _)
  have B : Hid (W2.heap[w.heap.size + 1]? = some (.cells #[.int .i64 0, .string ⟨#[]⟩, .string ⟨#[]⟩, .float .f64 0, .string ⟨#[]⟩, .int .i64 0, .int .i64 0, .int .i64 0] TSto (0, 0))) := by
    rw [hW2]; exact hid (new_at_two w _ _)
  go_enter Try.func19, Try.ntmps19
  go_upto_region 1 with fail
  simp only [TSto] at hW2
  rw [← hW2]
  clear hW2
  have KA : Hid (∀ w', Touch [] W2 w' → w'.cell? ⟨w.heap.size, 1, none⟩ = some (.string a1) ∧ w'.cell? ⟨w.heap.size, 2, none⟩ = some (.string a2) ∧ w'.cell? ⟨w.heap.size, 4, none⟩ = some (.string a4)) := hid fun w' t => ⟨t.cell (cell_of A.out 1), t.cell (cell_of A.out 2), t.cell (cell_of A.out 4)⟩
  have KF : Hid (∀ w', Touch [] W2 w' → w'.cell? ⟨w.heap.size, 1, none⟩ = some (.string a1) ∧ w'.cell? ⟨w.heap.size, 2, none⟩ = some (.string a2) ∧ w'.cell? ⟨w.heap.size, 4, none⟩ = some (.string a4) ∧ w'.frozen? ⟨w.heap.size, 1, none⟩ = false ∧ w'.frozen? ⟨w.heap.size, 2, none⟩ = false ∧ w'.frozen? ⟨w.heap.size, 4, none⟩ = false) := hid fun w' t => ⟨t.cell (cell_of A.out 1), t.cell (cell_of A.out 2), t.cell (cell_of A.out 4), free_of (touch_other t A.out (by simp)) 1, free_of (touch_other t A.out (by simp)) 2, free_of (touch_other t A.out (by simp)) 4⟩
  have KB : Hid (∀ w', Touch [] W2 w' → HB w' w.heap.size a0 a1 a2 a3 a4 a5 a6 a7) := hid fun w' t => hid (touch_other t A.out (by simp))
  obtain ⟨k1, k2, k3⟩ := KA.out W2.drew (Touch.refl [] W2).drew
  have tt : Touch [] W2 W2.drew := (Touch.refl [] W2).drew
  go_region_held3 (fun w' => w'.cell? ⟨w.heap.size, 1, none⟩ = some (.string a1) ∧ w'.cell? ⟨w.heap.size, 2, none⟩ = some (.string a2) ∧ w'.cell? ⟨w.heap.size, 4, none⟩ = some (.string a4)) (first | assumption | exact KA.out _ (by assumption) | exact hb3.set1.S | exact hb3.set1.set2.S | exact hb3.set1.set2.set4.S) (first
    | (go_at_call 32; with_reducible refine (C1.out _).mono ?_; rintro e w3 ⟨rfl, t3⟩; have tt := tt.trans t3 (by simp); clear t3; obtain ⟨e1, e2, e4, f1, f2, f4⟩ := KF.out _ tt; have hb3 := KB.out _ tt)
    | (go_at_call 32; with_reducible refine (C2.out _).mono ?_; rintro e w3 ⟨rfl, t3⟩; have tt := tt.trans t3 (by simp); clear t3; obtain ⟨e1, e2, e4, f1, f2, f4⟩ := KF.out _ tt; have hb3 := KB.out _ tt)
    | (go_at_call 32; with_reducible refine (C4.out _).mono ?_; rintro e w3 ⟨rfl, t3⟩; have tt := tt.trans t3 (by simp); clear t3; obtain ⟨e1, e2, e4, f1, f2, f4⟩ := KF.out _ tt; have hb3 := KB.out _ tt))
  have hb5 := hb3.set1.set2.set4
  have tt5 := (((T2.out.trans tt (by simp)).setCell (p := ⟨w.heap.size, 1, none⟩) (.inr (Nat.le_refl _)) (.string a1)).setCell (p := ⟨w.heap.size, 2, none⟩) (.inr (Nat.le_refl _)) (.string a2)).setCell (p := ⟨w.heap.size, 4, none⟩) (.inr (Nat.le_refl _)) (.string a4)
  have B5 := hid ((heap_set_other (w := (w3.setCell ⟨w.heap.size, 1, none⟩ (.string a1)).setCell ⟨w.heap.size, 2, none⟩ (.string a2)) (p := ⟨w.heap.size, 4, none⟩) (k := w.heap.size + 1) (.string a4) (by simp)).trans ((heap_set_other (p := ⟨w.heap.size, 2, none⟩) _ (by simp)).trans ((heap_set_other (p := ⟨w.heap.size, 1, none⟩) _ (by simp)).trans (touch_other tt B.out (by simp)))))
  clear e1 e2 e4 f1 f2 f4 hb3 tt
  generalize ((w3.setCell ⟨w.heap.size, 1, none⟩ (.string a1)).setCell ⟨w.heap.size, 2, none⟩ (.string a2)).setCell ⟨w.heap.size, 4, none⟩ (.string a4) = W5 at *
  have TT := hid tt5
  clear tt5 KA KF KB C1 C2 C4 k1 k2 k3
  have p3 := cell_of hb5.out 3
  have q3 := free_of hb5.out 3
  go_upto_region 3 with (go_at_call 33; refine (CC.out _).mono ?_; rintro e w' ⟨rfl, rfl⟩)
  have A6 := hid (heap_set (i := 3) hb5.out (.float .f64 (canon a3)))
  have B6 := hid ((heap_set_other (p := ⟨w.heap.size, 3, none⟩) (.float .f64 (canon a3)) (by simp)).trans B5.out)
  have T6 := hid (TT.out.setCell (p := ⟨w.heap.size, 3, none⟩) (.inr (Nat.le_refl _)) (.float .f64 (canon a3)))
  clear hb5 B5 TT p3 q3
  generalize W5.setCell ⟨w.heap.size, 3, none⟩ (.float .f64 (canon a3)) = W6 at *
  have p0 : W6.cell? ⟨w.heap.size, 0, none⟩ = _ := cell_of A6.out 0
  have p1 : W6.cell? ⟨w.heap.size, 1, none⟩ = _ := cell_of A6.out 1
  have p2 : W6.cell? ⟨w.heap.size, 2, none⟩ = _ := cell_of A6.out 2
  have p3 : W6.cell? ⟨w.heap.size, 3, none⟩ = _ := cell_of A6.out 3
  have p4 : W6.cell? ⟨w.heap.size, 4, none⟩ = _ := cell_of A6.out 4
  have p5 : W6.cell? ⟨w.heap.size, 5, none⟩ = _ := cell_of A6.out 5
  have p6 : W6.cell? ⟨w.heap.size, 6, none⟩ = _ := cell_of A6.out 6
  have p7 : W6.cell? ⟨w.heap.size, 7, none⟩ = _ := cell_of A6.out 7
  simp at p0 p1 p2 p3 p4 p5 p6 p7
  have z0 : W6.cell? ⟨w.heap.size + 1, 0, none⟩ = _ := cell_of B6.out 0
  have z1 : W6.cell? ⟨w.heap.size + 1, 1, none⟩ = _ := cell_of B6.out 1
  have z2 : W6.cell? ⟨w.heap.size + 1, 2, none⟩ = _ := cell_of B6.out 2
  have z3 : W6.cell? ⟨w.heap.size + 1, 3, none⟩ = _ := cell_of B6.out 3
  have z4 : W6.cell? ⟨w.heap.size + 1, 4, none⟩ = _ := cell_of B6.out 4
  have z5 : W6.cell? ⟨w.heap.size + 1, 5, none⟩ = _ := cell_of B6.out 5
  have z6 : W6.cell? ⟨w.heap.size + 1, 6, none⟩ = _ := cell_of B6.out 6
  have z7 : W6.cell? ⟨w.heap.size + 1, 7, none⟩ = _ := cell_of B6.out 7
  have y0 : W6.frozen? ⟨w.heap.size + 1, 0, none⟩ = _ := free_of B6.out 0
  have y1 : W6.frozen? ⟨w.heap.size + 1, 1, none⟩ = _ := free_of B6.out 1
  have y2 : W6.frozen? ⟨w.heap.size + 1, 2, none⟩ = _ := free_of B6.out 2
  have y3 : W6.frozen? ⟨w.heap.size + 1, 3, none⟩ = _ := free_of B6.out 3
  have y4 : W6.frozen? ⟨w.heap.size + 1, 4, none⟩ = _ := free_of B6.out 4
  have y5 : W6.frozen? ⟨w.heap.size + 1, 5, none⟩ = _ := free_of B6.out 5
  have y6 : W6.frozen? ⟨w.heap.size + 1, 6, none⟩ = _ := free_of B6.out 6
  have y7 : W6.frozen? ⟨w.heap.size + 1, 7, none⟩ = _ := free_of B6.out 7
  simp at z0 z1 z2 z3 z4 z5 z6 z7
  go_wp2
  refine bodyPost_ret (v := (canS ⟨a0, a1, a2, a3, a4, a5, a6, a7⟩).val) (by simp [results, Try.results19, go_sem, z0, z1, z2, z3, z4, z5, z6, z7, canS]) rfl ⟨rfl, ?_⟩
  repeat' refine Touch.setCell ?_ (.inr (by simp)) _
  exact T6.out
end Go.Proofs.Ytmgglmoiepjebaa
