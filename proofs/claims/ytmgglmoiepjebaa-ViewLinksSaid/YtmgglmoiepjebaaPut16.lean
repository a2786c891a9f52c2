/- A stored event in a block of its own: read, stored anew. ask$1. -/
import Derived.Test.YtmgglmoiepjebaaFnd16
namespace Go.Proofs.Ytmgglmoiepjebaa
open Go.RowKit Go.Lib Go.ChangeShapes Go.WideShapes
set_option maxRecDepth 100000

@[reducible] def sC (s : StoD) : Array Value := #[.int .i64 s.id, .string s.typ, .string s.data, .float .f64 s.value, .string s.stream, .int .i64 s.version, .int .i64 s.position, .int .i64 s.time]
def SB (W : World) (b : Nat) (s : StoD) : Prop := W.heap[b]? = some (.cells (sC s) TSto (0, 0))
theorem SB.at {W : World} {b : Nat} {s : StoD} (h : SB W b s) : W.cell? ⟨b, 0, none⟩ = some (.int .i64 s.id) ∧ W.cell? ⟨b, 1, none⟩ = some (.string s.typ) ∧ W.cell? ⟨b, 2, none⟩ = some (.string s.data) ∧ W.cell? ⟨b, 3, none⟩ = some (.float .f64 s.value) ∧ W.cell? ⟨b, 4, none⟩ = some (.string s.stream) ∧ W.cell? ⟨b, 5, none⟩ = some (.int .i64 s.version) ∧ W.cell? ⟨b, 6, none⟩ = some (.int .i64 s.position) ∧ W.cell? ⟨b, 7, none⟩ = some (.int .i64 s.time) :=
  ⟨cell_of h 0, cell_of h 1, cell_of h 2, cell_of h 3, cell_of h 4, cell_of h 5, cell_of h 6, cell_of h 7⟩
theorem SB.free {W : World} {b : Nat} {s : StoD} (h : SB W b s) : W.frozen? ⟨b, 0, none⟩ = false ∧ W.frozen? ⟨b, 1, none⟩ = false ∧ W.frozen? ⟨b, 2, none⟩ = false ∧ W.frozen? ⟨b, 3, none⟩ = false ∧ W.frozen? ⟨b, 4, none⟩ = false ∧ W.frozen? ⟨b, 5, none⟩ = false ∧ W.frozen? ⟨b, 6, none⟩ = false ∧ W.frozen? ⟨b, 7, none⟩ = false :=
  ⟨free_of h 0, free_of h 1, free_of h 2, free_of h 3, free_of h 4, free_of h 5, free_of h 6, free_of h 7⟩
@[reducible] def setB (W : World) (b : Nat) (s : StoD) : World :=
  (((((((W.setCell ⟨b, 0, none⟩ (.int .i64 s.id)).setCell ⟨b, 1, none⟩ (.string s.typ)).setCell ⟨b, 2, none⟩ (.string s.data)).setCell ⟨b, 3, none⟩ (.float .f64 s.value)).setCell ⟨b, 4, none⟩ (.string s.stream)).setCell ⟨b, 5, none⟩ (.int .i64 s.version)).setCell ⟨b, 6, none⟩ (.int .i64 s.position)).setCell ⟨b, 7, none⟩ (.int .i64 s.time)
theorem SB.set {W : World} {b : Nat} {s : StoD} (h : SB W b s) (s' : StoD) : SB (setB W b s') b s' := by
  have k := heap_set (i := 7) (heap_set (i := 6) (heap_set (i := 5) (heap_set (i := 4) (heap_set (i := 3) (heap_set (i := 2) (heap_set (i := 1) (heap_set (i := 0) h (.int .i64 s'.id)) (.string s'.typ)) (.string s'.data)) (.float .f64 s'.value)) (.string s'.stream)) (.int .i64 s'.version)) (.int .i64 s'.position)) (.int .i64 s'.time)
  simp only [sC] at k
  unfold SB setB
  simpa using k
theorem setB_other {W : World} {b k : Nat} {s : StoD} (h : k ≠ b) : (setB W b s).heap[k]? = W.heap[k]? := by
  unfold setB
  repeat rw [heap_set_other _ (by simpa using h)]
theorem setB_touch {F : List Nat} {w W : World} {b : Nat} {s : StoD} (t : Touch F w W) (h : b ∈ F ∨ w.heap.size ≤ b) : Touch F w (setB W b s) := by
  unfold setB
  repeat' refine Touch.setCell ?_ h _
  exact t

theorem fdV_eq (o : Option StoD) : fdV o = .tuple #[(o.getD zeroS).val, .bool o.isSome] := by cases o <;> rfl
abbrev TBool : TypeId := 4

set_option maxHeartbeats 2000000 in
theorem ask1_any (W : World) (b3 b4 b5 b6 b7 bx : Nat) (v : Int) (t : ByteArray) (o : Option StoD)
    (h3 : W.cell? ⟨b3, 0, none⟩ = some (.func (.func 9) #[] #[.pointer (some ⟨bx, 0, none⟩)])) (h4 : W.cell? ⟨b4, 0, none⟩ = some (.int .i64 v)) (h5 : W.cell? ⟨b5, 0, none⟩ = some (.string t))
    (h6 : SB W b6 zeroS) (h7 : W.heap[b7]? = some (.cells #[.bool false] TBool (0, 0))) (h67 : b6 ≠ b7)
    (hF : Calls Try.prog 9 #[.int .i64 v, .string t, .pointer (some ⟨bx, 0, none⟩)] W fun e w' => e = .returned (fdV o) ∧ Touch [] W w') :
    Calls Try.prog 47 #[.pointer (some ⟨b3, 0, none⟩), .pointer (some ⟨b4, 0, none⟩), .pointer (some ⟨b5, 0, none⟩), .pointer (some ⟨b6, 0, none⟩), .pointer (some ⟨b7, 0, none⟩)] W fun e w' =>
      e = .returned (.tuple #[]) ∧ SB w' b6 (o.getD zeroS) ∧ w'.heap[b7]? = some (.cells #[.bool o.isSome] TBool (0, 0)) ∧ Touch [b6, b7] W w' := by
  rw [fdV_eq] at hF
  have HF := hid hF
  have H6 := hid h6
  have H7 := hid h7
  clear hF h6 h7
  generalize o.getD zeroS = s at *
  generalize o.isSome = q at *
  obtain ⟨sid, styp, sdata, svalue, sstream, sversion, sposition, stime⟩ := s
  have hsf := store_flt
  go_enter Try.func47, Try.ntmps47
  go_wp2_with fail
  refine HF.out.mono ?_
  rintro e w1 ⟨rfl, t1⟩
  have B6 : Hid (SB w1 b6 zeroS) := hid (touch_other t1 H6.out (by simp))
  have B7 := hid (touch_other t1 H7.out (by simp))
  have T1 := hid (t1.mono (G := [b6, b7]) (by simp))
  obtain ⟨z0, z1, z2, z3, z4, z5, z6, z7⟩ := B6.out.at
  obtain ⟨y0, y1, y2, y3, y4, y5, y6, y7⟩ := B6.out.free
  have x0 := cell_of B7.out 0
  have x1 := free_of B7.out 0
  clear t1 HF
  go_wp2
  have K := B6.out.set ⟨sid, styp, sdata, svalue, sstream, sversion, sposition, stime⟩
  have L := (setB_other (W := w1) (b := b6) (k := b7) (s := ⟨sid, styp, sdata, svalue, sstream, sversion, sposition, stime⟩) (by omega)).trans B7.out
  have M := setB_touch (b := b6) (s := ⟨sid, styp, sdata, svalue, sstream, sversion, sposition, stime⟩) T1.out (.inl (by simp))
  simp only [setB] at K L M
  generalize (((((((w1.setCell ⟨b6, 0, none⟩ (.int .i64 sid)).setCell ⟨b6, 1, none⟩ (.string styp)).setCell ⟨b6, 2, none⟩ (.string sdata)).setCell ⟨b6, 3, none⟩ (.float .f64 svalue)).setCell ⟨b6, 4, none⟩ (.string sstream)).setCell ⟨b6, 5, none⟩ (.int .i64 sversion)).setCell ⟨b6, 6, none⟩ (.int .i64 sposition)).setCell ⟨b6, 7, none⟩ (.int .i64 stime) = W9 at K L M ⊢
  refine bodyPost_end (results_none rfl _ _ _) rfl ⟨rfl, (heap_set_other _ (by simpa using h67)).trans K, heap_set L _, Touch.setCell M (.inl (by simp)) _⟩

end Go.Proofs.Ytmgglmoiepjebaa
