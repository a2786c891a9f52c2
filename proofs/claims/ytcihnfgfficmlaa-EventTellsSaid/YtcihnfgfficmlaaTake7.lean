/- The laws' own take: an event out of bytes. -/
import Derived.Test.YtcihnfgfficmlaaPut7
import Derived.Test.YtcihnfgfficmlaaRefText
namespace Go.Proofs.Ytcihnfgfficmlaa
open Go.RowKit Go.Lib

/-- A uint64 as an int. -/
def i64 (n : Nat) : Int := if n < 9223372036854775808 then n else (n : Int) - 18446744073709551616
theorem i64_wrap (n : Nat) (h : n < 18446744073709551616) : wrap64 (n : Int) = i64 n := by unfold wrap64 i64; split <;> omega
theorem i64_wrap' (n : Nat) (h : n < 18446744073709551616) : IntKind.i64.wrap (n : Int) = i64 n := by rw [IntKind.wrap_i64]; unfold i64; split <;> omega
theorem val8_lt (st : List UInt8 × Int) : val (iTake st 8).1 < 18446744073709551616 := Nat.lt_of_lt_of_le (val_lt _) (Nat.le_trans (Nat.pow_le_pow_right (by decide) (iTake_len st 8)) (by decide))
theorem val1_lt (st : List UInt8 × Int) : val (iTake st 1).1 < 256 := Nat.lt_of_lt_of_le (val_lt _) (Nat.le_trans (Nat.pow_le_pow_right (by decide) (iTake_len st 1)) (by decide))

theorem store_flt (a : Addr) (b : Nat) (w : World) : (store a (.float .f64 b)).run Try.prog w = stored Try.prog w a (.float .f64 b) .plain := run_store Try.prog w a _ _ rfl
def bytesT (l : List UInt8) : ByteArray := ⟨l.toArray⟩
/-- An event, read. -/
def takeE (st : List UInt8 × Int) : EvD × (List UInt8 × Int) :=
  (⟨i64 (val (iTake st 8).1), bytesT (iText (iTake st 8).2 60).1, bytesT (iText (iText (iTake st 8).2 60).2 200).1, canon (val (iTake (iText (iText (iTake st 8).2 60).2 200).2 8).1)⟩,
   (iTake (iText (iText (iTake st 8).2 60).2 200).2 8).2)

theorem iText_le (st : List UInt8 × Int) (m : Int) : (iText st m).2.1.length ≤ st.1.length := by
  unfold iText
  split
  · simp
  · exact Nat.le_trans (iTake_le _ _).2 (iTake_le _ _).2

/-- While something is read by the reader at x: what it has left, what is read so far (in the block h1), and the result's block h0. -/
structure Rd (ty : TypeId) (w w' : World) (x h0 h1 : Nat) (st : List UInt8 × Int) (zs cs : Array Value) : Prop where
  r : RefIs w' x st
  b : w'.heap[h1]? = some (.cells cs ty (0, 0))
  z : w'.heap[h0]? = some (.cells zs ty (0, 0))
  t : Touch [x] w w'
  l0 : w.heap.size ≤ h0
  l1 : w.heap.size ≤ h1
  ne : h0 ≠ h1
  x0 : x < w.heap.size
theorem Rd.call {ty : TypeId} {w w' w'' : World} {x h0 h1 : Nat} {st st' : List UInt8 × Int} {zs cs : Array Value} (h : Rd ty w w' x h0 h1 st zs cs) (p : RPost x st' w' w'') : Rd ty w w'' x h0 h1 st' zs cs := by
  have := h.l0; have := h.l1; have := h.x0
  exact ⟨p.1, (p.2.block _ (lt_of_block h.b) (by simp; omega)).trans h.b, (p.2.block _ (lt_of_block h.z) (by simp; omega)).trans h.z, h.t.trans p.2 (by simp), h.l0, h.l1, h.ne, h.x0⟩
theorem Rd.set {ty : TypeId} {w w' : World} {x h0 h1 : Nat} {st : List UInt8 × Int} {zs cs : Array Value} (h : Rd ty w w' x h0 h1 st zs cs) (i : Nat) (u : Value) : Rd ty w (w'.setCell ⟨h1, i, none⟩ u) x h0 h1 st zs (cs.setIfInBounds i u) := by
  have h3 := h.l1; have h4 := h.x0; have h5 := h.ne
  refine ⟨?_, heap_set h.b u, ?_, h.t.setCell (.inr h3) u, h.l0, h.l1, h.ne, h.x0⟩
  · obtain ⟨B, hB, hb⟩ := h.r
    exact ⟨B, (heap_set_other u (by show x ≠ h1; omega)).trans hB, hb⟩
  · exact (heap_set_other u (by show h0 ≠ h1; exact h5)).trans h.z
theorem RPost.set {x h0 : Nat} {st : List UInt8 × Int} {w w' : World} (h : RPost x st w w') (hl : w.heap.size ≤ h0) (hx : x < w.heap.size) (i : Nat) (u : Value) : RPost x st w (w'.setCell ⟨h0, i, none⟩ u) := by
  obtain ⟨⟨B, hB, hb⟩, t⟩ := h
  exact ⟨⟨B, (heap_set_other u (by show x ≠ h0; omega)).trans hB, hb⟩, t.setCell (.inr hl) u⟩
theorem Rd.start {ty : TypeId} {w w1 w2 : World} {x : Nat} {st' : List UInt8 × Int} {zs cs : Array Value} (hx : x < w.heap.size) (hw1 : w1 = w.alloc (.cells zs ty)) (p : RPost x st' w1 w2) : Rd ty w (w2.alloc (.cells cs ty)) x w.heap.size w2.heap.size st' zs cs := by
  have z1 : w1.heap[w.heap.size]? = some (.cells zs ty (0, 0)) := by rw [hw1]; exact heap_alloc_new w _
  have z2 := (p.2.block _ (lt_of_block z1) (by simp; omega)).trans z1
  have hl := lt_of_block z2
  exact ⟨p.1.keep ((Touch.refl [] w2).alloc _) (by simp), heap_alloc_new w2 _, (Below.heap_alloc w2 _ _ hl).trans z2, ((by rw [hw1]; exact (Touch.refl [x] w).alloc _ : Touch [x] w w1).trans p.2 (by simp)).alloc _, Nat.le_refl _, by omega, by omega, hx⟩

set_option maxRecDepth 100000 in
set_option maxHeartbeats 1000000 in
theorem refTake_st (x : Nat) (st : List UInt8 × Int) (w : World) (h : RefIs w x st) (hl : st.1.length ≤ 100000) :
    Calls Try.prog 51 #[.pointer (some ⟨x, 0, none⟩)] w fun r w' => r = .returned (takeE st).1.agg ∧ RPost x (takeE st).2 w w' := by
  have hlt := h.lt
  have v8 := val8_lt st
  have hT : Hid (takeE st = (⟨i64 (val (iTake st 8).1), bytesT (iText (iTake st 8).2 60).1, bytesT (iText (iText (iTake st 8).2 60).2 200).1, canon (val (iTake (iText (iText (iTake st 8).2 60).2 200).2 8).1)⟩,
   (iTake (iText (iText (iTake st 8).2 60).2 200).2 8).2)) := rfl
  have le1 := (iTake_le st 8).2
  have le2 := iText_le (iTake st 8).2 60
  have le3 := iText_le (iText (iTake st 8).2 60).2 200
  have C1 := hid (fun w (h : RefIs w x st) => rNum_st x st 8 w h (by decide) hl)
  have C2 := hid (fun w (h : RefIs w x (iTake st 8).2) => rText_st x (iTake st 8).2 60 w h (by omega))
  have C3 := hid (fun w (h : RefIs w x (iText (iTake st 8).2 60).2) => rText_st x (iText (iTake st 8).2 60).2 200 w h (by omega))
  have C4 := hid (fun w (h : RefIs w x (iText (iText (iTake st 8).2 60).2 200).2) => rFloat_st x (iText (iText (iTake st 8).2 60).2 200).2 w h (by omega))
  unfold EvD.agg
  generalize takeE st = R at *
  generalize iText (iText (iTake st 8).2 60).2 200 = s3 at *
  generalize iText (iTake st 8).2 60 = s2 at *
  generalize iTake st 8 = s1 at *
  generalize iTake s3.2 8 = s4 at *
  have hi := i64_wrap' _ v8
  have hsf := store_flt
  have HR := hid h
  have Hlt := hid hlt
  clear h hl v8 le1 le2 le3
  generalize val s1.1 = n1 at *
  go_enter Try.func51, Try.ntmps51
  go_wp2_with fail
  obtain ⟨w1, hw1⟩ : ∃ w1, w1 = w.alloc (.cells #[.int .i64 0, .string ⟨#[]⟩, .string ⟨#[]⟩, .float .f64 0] 32) := ⟨_, rfl⟩
  have R1 : Hid (RefIs w1 x st) := hid (HR.out.keep (by rw [hw1]; exact (Touch.refl [] w).alloc _) (by simp))
  rw [← hw1]
  have HW1 := hid hw1
  clear hw1
  refine (C1.out w1 R1.out).mono ?_
  rintro e w2 ⟨rfl, p2⟩
  have P2 := hid p2
  clear p2 C1 R1
  go_wp2_with fail
  have M3 := hid (Rd.start (cs := #[.int .i64 (i64 n1), .string ⟨#[]⟩, .string ⟨#[]⟩, .float .f64 0]) Hlt.out HW1.out P2.out)
  generalize w2.alloc (.cells #[.int .i64 (i64 n1), .string ⟨#[]⟩, .string ⟨#[]⟩, .float .f64 0] 32) = w3 at *
  generalize w2.heap.size = h1 at *
  generalize hh0 : w.heap.size = h0 at *
  clear HW1 P2
  refine (C2.out w3 M3.out.r).mono ?_
  rintro e w4 ⟨rfl, p4⟩
  have M4 := hid (M3.out.call p4)
  clear p4 C2 M3
  have f4 := free_of M4.out.b 1
  have c4 := cell_of M4.out.b 1
  go_wp2_with fail
  have M5 := hid (M4.out.set 1 (.string ⟨s2.1.toArray⟩))
  generalize w4.setCell ⟨h1, 1, none⟩ (.string ⟨s2.1.toArray⟩) = w5 at *
  clear f4 c4 M4
  refine (C3.out w5 M5.out.r).mono ?_
  rintro e w6 ⟨rfl, p6⟩
  have M6 := hid (M5.out.call p6)
  clear p6 C3 M5
  have f6 := free_of M6.out.b 2
  have c6 := cell_of M6.out.b 2
  go_wp2_with fail
  have M7 := hid (M6.out.set 2 (.string ⟨s3.1.toArray⟩))
  generalize w6.setCell ⟨h1, 2, none⟩ (.string ⟨s3.1.toArray⟩) = w7 at *
  clear f6 c6 M6
  refine (C4.out w7 M7.out.r).mono ?_
  rintro e w8 ⟨rfl, p8⟩
  have M8 := hid (M7.out.call p8)
  clear p8 C4 M7
  have f8 := free_of M8.out.b 3
  have c8 := cell_of M8.out.b 3
  go_upto_region 5 with fail
  have M9 := hid (M8.out.set 3 (.float .f64 (canon (val s4.1))))
  generalize w8.setCell ⟨h1, 3, none⟩ (.float .f64 (canon (val s4.1))) = w9 at *
  clear f8 c8 M8
  have hc := M9.out.b
  simp only [List.setIfInBounds_toArray, List.set_cons_succ, List.set_cons_zero] at hc
  have k0 := cell_of hc 0; have k1 := cell_of hc 1; have k2 := cell_of hc 2; have k3 := cell_of hc 3
  have hz := M9.out.z
  have z0 := cell_of hz 0; have z1 := cell_of hz 1; have z2 := cell_of hz 2; have z3 := cell_of hz 3
  have y0 := free_of hz 0; have y1 := free_of hz 1; have y2 := free_of hz 2; have y3 := free_of hz 3
  have HZ := hid hz
  clear hc hz
  go_wp2
  have hl0 := M9.out.l0
  have F := ((((show RPost x s4.2 w w9 from ⟨M9.out.r, M9.out.t⟩).set hl0 M9.out.x0 0 (.int .i64 (i64 n1))).set hl0 M9.out.x0 1 (.string ⟨s2.1.toArray⟩)).set hl0 M9.out.x0 2 (.string ⟨s3.1.toArray⟩)).set hl0 M9.out.x0 3 (.float .f64 (canon (val s4.1)))
  refine bodyPost_ret (v := .agg #[.int .i64 (i64 n1), .string ⟨s2.1.toArray⟩, .string ⟨s3.1.toArray⟩, .float .f64 (canon (val s4.1))]) (by simp [results, Try.results51, go_sem, z0, z1, z2, z3]) rfl ⟨by rw [hT.out]; rfl, by rw [hT.out]; exact F⟩
end Go.Proofs.Ytcihnfgfficmlaa
