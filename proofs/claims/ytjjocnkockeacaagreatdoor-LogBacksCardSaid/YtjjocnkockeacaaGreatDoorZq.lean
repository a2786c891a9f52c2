/- chunk's begun: what the first frame says of a chunk. chunk's records: the bodies that stand behind the start. chunk's Read. -/
import Derived.Test.YtjjocnkockeacaaGreatDoorZp
namespace Go.Proofs.YtjjocnkockeacaaGreatDoor
open Go.RowKit Go.Lib
set_option maxRecDepth 100000

theorem cutp_any (l : List UInt8) (m : ByteArray) (w : World) : Calls Tryz.prog 131 #[.string (bytesT l), .string m] w fun e w' => e = .returned (.tuple #[.string (bytesT (Lib.trimPrefix l m.data.toList)), .bool (Lib.hasPrefix l m.data.toList)]) ∧ w' = w := by
  have h := Tryz.strings_CutPrefix (bytesT l) m w
  rw [bytesT_toList] at h
  exact h
theorem pre_yes (m r : List UInt8) : Lib.hasPrefix (m ++ r) m = true ∧ Lib.trimPrefix (m ++ r) m = r := by
  have h : Lib.hasPrefix (m ++ r) m = true := by unfold Lib.hasPrefix; rw [List.isPrefixOf_iff_prefix]; exact List.prefix_append m r
  refine ⟨h, ?_⟩
  unfold Lib.trimPrefix
  rw [if_pos h, List.drop_left' rfl]
theorem pre_form {l m : List UInt8} (h : Lib.hasPrefix l m = true) : l = m ++ l.drop m.length := by
  unfold Lib.hasPrefix at h
  rw [List.isPrefixOf_iff_prefix] at h
  obtain ⟨r, rfl⟩ := h
  rw [List.drop_left' rfl]
def stM : List UInt8 := [0, 67, 72, 78, 75]
def ScanV (n z : Int) (v : Value) (g : Int) (d : Bool) : Value := .agg #[.int .i64 n, .int .i64 z, v, .int .i64 g, .bool d]
/-- What begun tells. -/
def BegunV (b : ByteArray) (e : Ending) : Prop :=
  (∃ n z, Begins b.data.toList n z ∧ e = .returned (.tuple #[ScanV n z (.slice none 0 0) 33 false, .int .i64 0])) ∨ ((∀ n z, ¬ Begins b.data.toList n z) ∧ e = .returned (.tuple #[ScanV 0 0 (.slice none 0 0) 0 false, .int .i64 6]))
theorem wrap_small {n : Nat} (h : n < 9223372036854775808) : wrap64 (n : Int) = n := by unfold wrap64; omega
/-- The two numbers of a start. -/
theorem stL_nums {n z : Nat} (h1 : n ≤ 999999) (h3 : z ≤ 1000000) : wrap64 (val (iTake (be 8 n ++ be 8 z, 0) 8).1) = n ∧ wrap64 (val (iTake (iTake (be 8 n ++ be 8 z, 0) 8).2 8).1) = z := by
  have e1 : iTake (be 8 n ++ be 8 z, 0) 8 = (be 8 n, (be 8 z, 0)) := by
    rw [iTake_good _ _ (by rw [List.length_append, be_length, be_length]; decide), List.take_left' (be_length 8 n), List.drop_left' (be_length 8 n)]
  have e2 : iTake (be 8 z, 0) 8 = (be 8 z, ([], 0)) := by
    rw [iTake_good _ _ (by rw [be_length]; decide), List.take_of_length_le (by rw [be_length]; decide), List.drop_eq_nil_of_le (by rw [be_length]; decide)]
  rw [e1]
  simp only []
  rw [e2]
  simp only []
  rw [val_be_8 (by omega), val_be_8 (by omega), wrap_small (by omega), wrap_small (by omega)]
  exact ⟨rfl, rfl⟩

theorem five {w : World} {b : Nat} {c0 c1 c2 c3 c4 : Value} {ty : TypeId} (h : w.heap[b]? = some (.cells #[c0, c1, c2, c3, c4] ty (0, 0))) :
    (w.cell? ⟨b, 0, none⟩ = some c0 ∧ w.cell? ⟨b, 1, none⟩ = some c1 ∧ w.cell? ⟨b, 2, none⟩ = some c2 ∧ w.cell? ⟨b, 3, none⟩ = some c3 ∧ w.cell? ⟨b, 4, none⟩ = some c4) ∧
    w.frozen? ⟨b, 0, none⟩ = false ∧ w.frozen? ⟨b, 1, none⟩ = false ∧ w.frozen? ⟨b, 2, none⟩ = false ∧ w.frozen? ⟨b, 3, none⟩ = false ∧ w.frozen? ⟨b, 4, none⟩ = false :=
  ⟨⟨cell_of h 0, cell_of h 1, cell_of h 2, cell_of h 3, cell_of h 4⟩, free_of h 0, free_of h 1, free_of h 2, free_of h 3, free_of h 4⟩
theorem touch5 {F : List Nat} {w0 w : World} {b : Nat} (h : Touch F w0 w) (hb : b ∈ F ∨ w0.heap.size ≤ b) (a0 a1 a2 a3 a4 : Value) :
    Touch F w0 (((((w.setCell ⟨b, 0, none⟩ a0).setCell ⟨b, 1, none⟩ a1).setCell ⟨b, 2, none⟩ a2).setCell ⟨b, 3, none⟩ a3).setCell ⟨b, 4, none⟩ a4) :=
  ((((h.setCell hb _).setCell hb _).setCell hb _).setCell hb _).setCell hb _
def zScan : Array Value := #[.int .i64 0, .int .i64 0, .slice none 0 0, .int .i64 0, .bool false]
abbrev tScan : TypeId := 95
set_option maxHeartbeats 1000000 in
theorem begun_any (b : ByteArray) (w : World) (hs : b.size ≤ 1000000000) : Calls Tryz.prog 103 #[.string b] w fun e w' => BegunV b e ∧ Touch [] w w' := by
  have hl := list_len b
  have Z1 := hid (heap_alloc_new w (.cells zScan tScan))
  have S1 : Hid (Touch [] w (w.alloc (.cells zScan tScan))) := (Touch.refl _ _).alloc _
  unfold zScan at Z1 S1
  simp only [tScan] at Z1 S1
  have F := hid (fun w => frFirst_any b w hs)
  unfold FirstV at F
  have CP := hid (fun l m w => cutp_any l m w)
  by_cases he : (firstOf b.data.toList).2.2 = 0
  rotate_left
  · have hB : Hid (∀ n z, ¬ Begins b.data.toList n z) := fun n z h => he (by rw [begins_first h])
    have q : ((firstOf b.data.toList).2.2 != 0) = true := by simpa using he
    generalize firstOf b.data.toList = R at *
    clear he hl hs
    go_enter Tryz.func103, Tryz.ntmps103
    go_wp2_with fail
    generalize hW1 : w.alloc (.cells #[.int .i64 0, .int .i64 0, .slice none 0 0, .int .i64 0, .bool false] 95) = W1 at *
    have HS : Hid (w.heap.size ≤ W1.heap.size) := S1.out.size
    clear hW1
    go_wp2_with (first
      | (go_at_call 130; refine (F.out _).mono ?_; rintro e w1 ⟨rfl, t1⟩)
      | (go_at_call 131; refine (CP.out _ _ _).mono ?_; rintro e w2 ⟨rfl, rfl⟩; obtain ⟨⟨z0, z1, z2, z3, z4⟩, y0, y1, y2, y3, y4⟩ := five (touch_blk0 t1 Z1.out)))
    refine bodyPost_ret (v := .tuple #[ScanV 0 0 (.slice none 0 0) 0 false, .int .i64 6]) (by simp [results, Tryz.results103, go_sem, ScanV, z0, z1, z2, z3, z4]) rfl ⟨.inr ⟨hB.out, rfl⟩, touch5 (S1.out.trans t1 (by simp)) (.inr (Nat.le_refl _)) _ _ _ _ _⟩
  obtain ⟨l, hb, h4, hf, _, hlen⟩ := first_ok he
  rw [hf] at F
  simp only [] at F
  by_cases hp : Lib.hasPrefix l stM = true
  rotate_left
  · have hB : Hid (∀ n z, ¬ Begins b.data.toList n z) := fun n z h => hp (by
      have e := begins_first h
      rw [hf] at e
      rw [show l = stL n z from congrArg Prod.fst e]
      exact (pre_yes stM _).1)
    have C := hid (fun (m : ByteArray) (w : World) (hm : m = bytesT stM) => show Calls Tryz.prog 131 #[.string (bytesT l), .string m] w fun e w' => e = .returned (.tuple #[.string (bytesT (Lib.trimPrefix l stM)), .bool false]) ∧ w' = w by
      subst hm
      have h := cutp_any l (bytesT stM) w
      rw [bytesT_toList, Bool.eq_false_iff.2 hp] at h
      exact h)
    generalize Lib.trimPrefix l stM = r at *
    generalize bytesT l = x at *
    clear he hl hs hp hb h4 hf hlen CP
    go_enter Tryz.func103, Tryz.ntmps103
    go_wp2_with fail
    generalize hW1 : w.alloc (.cells #[.int .i64 0, .int .i64 0, .slice none 0 0, .int .i64 0, .bool false] 95) = W1 at *
    have HS : Hid (w.heap.size ≤ W1.heap.size) := S1.out.size
    clear hW1
    go_wp2_with (first
      | (go_at_call 130; refine (F.out _).mono ?_; rintro e w1 ⟨rfl, t1⟩)
      | (go_at_call 131; refine (C.out _ _ rfl).mono ?_; rintro e w2 ⟨rfl, rfl⟩; obtain ⟨⟨z0, z1, z2, z3, z4⟩, y0, y1, y2, y3, y4⟩ := five (touch_blk0 t1 Z1.out)))
    refine bodyPost_ret (v := .tuple #[ScanV 0 0 (.slice none 0 0) 0 false, .int .i64 6]) (by simp [results, Tryz.results103, go_sem, ScanV, z0, z1, z2, z3, z4]) rfl ⟨.inr ⟨hB.out, rfl⟩, touch5 (S1.out.trans t1 (by simp)) (.inr (Nat.le_refl _)) _ _ _ _ _⟩
  have C := hid (fun (m : ByteArray) (w : World) (hm : m = bytesT stM) => show Calls Tryz.prog 131 #[.string (bytesT l), .string m] w fun e w' => e = .returned (.tuple #[.string (bytesT (l.drop 5)), .bool true]) ∧ w' = w by
    subst hm
    have h := cutp_any l (bytesT stM) w
    rw [bytesT_toList, hp] at h
    have e : Lib.trimPrefix l stM = l.drop 5 := by unfold Lib.trimPrefix; rw [if_pos hp]; rfl
    rw [e] at h
    exact h)
  obtain ⟨r, hr⟩ : ∃ r, r = l.drop 5 := ⟨_, rfl⟩
  have hlr : l = stM ++ r := by rw [hr]; exact pre_form hp
  rw [← hr] at C
  have NI := hid (fun w => newIn_any (bytesT r) w)
  rw [bytesT_toList] at NI
  have I1 := hid (fun i w (h : InIs w i (r, 0)) => inI64_st i (r, 0) w h)
  have I2 := hid (fun i w (h : InIs w i (iTake (r, 0) 8).2) => inI64_st i (iTake (r, 0) 8).2 w h)
  obtain ⟨x1, hx1⟩ : ∃ x, x = wrap64 (val (iTake (r, 0) 8).1) := ⟨_, rfl⟩
  obtain ⟨x2, hx2⟩ : ∃ x, x = wrap64 (val (iTake (iTake (r, 0) 8).2 8).1) := ⟨_, rfl⟩
  rw [← hx1] at I1
  rw [← hx2] at I2
  have hx2m : x2 ≤ 9223372036854775807 := by rw [hx2]; unfold wrap64; omega
  have S := hid (fun w => start_any x1 x2 w hx2m)
  unfold StartV at S
  have hBn : ∀ n z, Begins b.data.toList n z → x1 = n ∧ x2 = z ∧ l.length + 12 = 33 := fun n z h => by
    have e := begins_first h
    rw [hf] at e
    have e1 : l = stL n z := congrArg Prod.fst e
    have e2 : r = be 8 n ++ be 8 z := by rw [hr, e1]; rfl
    have e3 := stL_nums h.1 h.2.2.1
    rw [← e2, ← hx1, ← hx2] at e3
    exact ⟨e3.1, e3.2, by rw [e1, stL_len]⟩
  generalize (iTake (iTake (r, 0) 8).2 8).2 = st2 at *
  generalize (iTake (r, 0) 8).2 = st1 at *
  by_cases hv : x1 < 0 ∨ 999999 < x1 ∨ x2 < 100 ∨ 1000000 < x2
  · rw [if_pos hv] at S
    have hB : Hid (∀ n z, ¬ Begins b.data.toList n z) := fun n z h => by
      obtain ⟨e1, e2, _⟩ := hBn n z h
      have := h.1; have := h.2.1; have := h.2.2.1
      omega
    generalize bytesT r = y at *
    generalize bytesT l = x at *
    clear he hl hs hp hb h4 hf hlen CP hv hBn hx1 hx2 hx2m hlr hr
    go_enter Tryz.func103, Tryz.ntmps103
    go_wp2_with fail
    generalize hW1 : w.alloc (.cells #[.int .i64 0, .int .i64 0, .slice none 0 0, .int .i64 0, .bool false] 95) = W1 at *
    have HS : Hid (w.heap.size ≤ W1.heap.size) := S1.out.size
    clear hW1
    go_wp2_with (first
      | (go_at_call 130; refine (F.out _).mono ?_; rintro e w1 ⟨rfl, t1⟩)
      | (go_at_call 131; refine (C.out _ _ rfl).mono ?_; rintro e w2 ⟨rfl, rfl⟩)
      | (go_at_call 132; refine (NI.out _).mono ?_; rintro e w3 ⟨rfl, i3, t3⟩; (have I3 := hid i3); clear i3)
      | (go_at_call 133; refine (I1.out _ _ I3.out).mono ?_; rintro e w4 ⟨rfl, p4⟩; (have I4 := hid p4); clear p4 I1)
      | (go_at_call 133; refine (I2.out _ _ I4.out.1).mono ?_; rintro e w5 ⟨rfl, p5⟩)
      | (go_at_call 31; refine (S.out _).mono ?_; rintro e w6 ⟨rfl, t6⟩; (have TT := hid ((((t1.trans t3 (by simp)).trans I4.out.2 (fun f hf => .inr (by have := t1.size; simp at hf; omega))).trans p5.2 (fun f hf => .inr (by have := t1.size; simp at hf; omega))).trans t6 (by simp))); obtain ⟨⟨z0, z1, z2, z3, z4⟩, y0, y1, y2, y3, y4⟩ := five (touch_blk0 TT.out Z1.out)))
    refine bodyPost_ret (v := .tuple #[ScanV 0 0 (.slice none 0 0) 0 false, .int .i64 6]) (by simp [results, Tryz.results103, go_sem, ScanV, z0, z1, z2, z3, z4]) rfl ⟨.inr ⟨hB.out, rfl⟩, touch5 (S1.out.trans TT.out (by simp)) (.inr (Nat.le_refl _)) _ _ _ _ _⟩
  rw [if_neg hv] at S
  obtain ⟨n, rfl⟩ := Int.eq_ofNat_of_zero_le (show 0 ≤ x1 by omega)
  obtain ⟨z, rfl⟩ := Int.eq_ofNat_of_zero_le (show 0 ≤ x2 by omega)
  rw [show ((n : Int)).toNat = n by omega, show ((z : Int)).toNat = z by omega] at S
  have sl := sl_to b (l.length + 12) ((l.length + 12 : Nat) : Int) rfl (by omega)
  have ee : (b.extract 0 (l.length + 12)).data.toList = b.data.toList.take (l.length + 12) := by rw [extract_data]; simp
  by_cases hq : b.data.toList.take (l.length + 12) = frL (stL n z)
  · have q : ((b.extract 0 (l.length + 12)).toList == (bytesT (frL (stL n z))).toList) = true := txt_same (by rw [ee, bytesT_toList]; exact hq)
    have hB := hid (begins_of (n := n) (z := z) (u := l.length + 12) (by omega) (by omega) (by omega) (by omega) hq)
    have hk : ((l.length + 12 : Nat) : Int) = 33 := by have := (hBn n z hB.out).2.2; omega
    rw [hk] at sl F
    generalize b.extract 0 (l.length + 12) = c at *
    generalize bytesT (frL (stL n z)) = Z at *
    generalize bytesT r = y at *
    generalize bytesT l = x at *
    clear he hl hs hp hb h4 hf hlen CP hv hBn hx1 hx2 hx2m hlr hr hk ee hq
    go_enter Tryz.func103, Tryz.ntmps103
    go_wp2_with fail
    generalize hW1 : w.alloc (.cells #[.int .i64 0, .int .i64 0, .slice none 0 0, .int .i64 0, .bool false] 95) = W1 at *
    have HS : Hid (w.heap.size ≤ W1.heap.size) := S1.out.size
    clear hW1
    go_wp2_with (first
      | (go_at_call 130; refine (F.out _).mono ?_; rintro e w1 ⟨rfl, t1⟩)
      | (go_at_call 131; refine (C.out _ _ rfl).mono ?_; rintro e w2 ⟨rfl, rfl⟩)
      | (go_at_call 132; refine (NI.out _).mono ?_; rintro e w3 ⟨rfl, i3, t3⟩; (have I3 := hid i3); clear i3)
      | (go_at_call 133; refine (I1.out _ _ I3.out).mono ?_; rintro e w4 ⟨rfl, p4⟩; (have I4 := hid p4); clear p4 I1)
      | (go_at_call 133; refine (I2.out _ _ I4.out.1).mono ?_; rintro e w5 ⟨rfl, p5⟩)
      | (go_at_call 31; refine (S.out _).mono ?_; rintro e w6 ⟨rfl, t6⟩; (have TT := hid ((((t1.trans t3 (by simp)).trans I4.out.2 (fun f hf => .inr (by have := t1.size; simp at hf; omega))).trans p5.2 (fun f hf => .inr (by have := t1.size; simp at hf; omega))).trans t6 (by simp))); obtain ⟨⟨z0, z1, z2, z3, z4⟩, y0, y1, y2, y3, y4⟩ := five (touch_blk0 TT.out Z1.out)))
    refine bodyPost_ret (v := .tuple #[ScanV n z (.slice none 0 0) 33 false, .int .i64 0]) (by simp [results, Tryz.results103, go_sem, ScanV, z0, z1, z2, z3, z4]) rfl ⟨.inl ⟨n, z, hB.out, rfl⟩, touch5 (S1.out.trans TT.out (by simp)) (.inr (Nat.le_refl _)) _ _ _ _ _⟩
  · have q : ((b.extract 0 (l.length + 12)).toList == (bytesT (frL (stL n z))).toList) = false := txt_ne (by rw [ee, bytesT_toList]; exact hq)
    have hB : Hid (∀ n z, ¬ Begins b.data.toList n z) := fun n' z' h => by
      obtain ⟨e1, e2, e3⟩ := hBn n' z' h
      obtain rfl : n = n' := by omega
      obtain rfl : z = z' := by omega
      exact hq (by rw [e3]; exact h.2.2.2)
    generalize ((l.length + 12 : Nat) : Int) = k at *
    generalize b.extract 0 (l.length + 12) = c at *
    generalize bytesT (frL (stL n z)) = Z at *
    generalize bytesT r = y at *
    generalize bytesT l = x at *
    clear he hl hs hp hb h4 hf hlen CP hv hBn hx1 hx2 hx2m hlr hr ee hq
    go_enter Tryz.func103, Tryz.ntmps103
    go_wp2_with fail
    generalize hW1 : w.alloc (.cells #[.int .i64 0, .int .i64 0, .slice none 0 0, .int .i64 0, .bool false] 95) = W1 at *
    have HS : Hid (w.heap.size ≤ W1.heap.size) := S1.out.size
    clear hW1
    go_wp2_with (first
      | (go_at_call 130; refine (F.out _).mono ?_; rintro e w1 ⟨rfl, t1⟩)
      | (go_at_call 131; refine (C.out _ _ rfl).mono ?_; rintro e w2 ⟨rfl, rfl⟩)
      | (go_at_call 132; refine (NI.out _).mono ?_; rintro e w3 ⟨rfl, i3, t3⟩; (have I3 := hid i3); clear i3)
      | (go_at_call 133; refine (I1.out _ _ I3.out).mono ?_; rintro e w4 ⟨rfl, p4⟩; (have I4 := hid p4); clear p4 I1)
      | (go_at_call 133; refine (I2.out _ _ I4.out.1).mono ?_; rintro e w5 ⟨rfl, p5⟩)
      | (go_at_call 31; refine (S.out _).mono ?_; rintro e w6 ⟨rfl, t6⟩; (have TT := hid ((((t1.trans t3 (by simp)).trans I4.out.2 (fun f hf => .inr (by have := t1.size; simp at hf; omega))).trans p5.2 (fun f hf => .inr (by have := t1.size; simp at hf; omega))).trans t6 (by simp))); obtain ⟨⟨z0, z1, z2, z3, z4⟩, y0, y1, y2, y3, y4⟩ := five (touch_blk0 TT.out Z1.out)))
    refine bodyPost_ret (v := .tuple #[ScanV 0 0 (.slice none 0 0) 0 false, .int .i64 6]) (by simp [results, Tryz.results103, go_sem, ScanV, z0, z1, z2, z3, z4]) rfl ⟨.inr ⟨hB.out, rfl⟩, touch5 (S1.out.trans TT.out (by simp)) (.inr (Nat.le_refl _)) _ _ _ _ _⟩
end Go.Proofs.YtjjocnkockeacaaGreatDoor

namespace Go.Proofs.YtjjocnkockeacaaGreatDoor
open Go.RowKit Go.Lib
set_option maxRecDepth 100000

def RecPost (b : ByteArray) (w : World) (r : Ending) (w' : World) : Prop :=
  ∃ v, r = .returned (.tuple #[v, .int .i64 ((recOf b.data.toList).2 : Int)]) ∧ w'.ownsRow w.heap.size tStr 1 v (recOf b.data.toList).1.length (txtCells (recOf b.data.toList).1) ∧ Touch [] w w'
structure Rc (b : ByteArray) (w W : World) (v : Value) (a : Nat) (L : List (List UInt8)) : Prop where
  o : W.ownsRow w.heap.size tStr 1 v L.length (txtCells L)
  t : Touch [] w W
  le : a ≤ b.size
  n : 12 * L.length ≤ a
  e : recOf b.data.toList = (L ++ (recOf (b.data.toList.drop a)).1, a + (recOf (b.data.toList.drop a)).2)
theorem head_one {l : List UInt8} (h : Lib.hasPrefix l [1] = true) : l = 1 :: l.drop 1 := pre_form h
theorem head_not {l : List UInt8} (h : Lib.hasPrefix l [1] ≠ true) : l.head? ≠ some 1 := by
  intro e
  apply h
  cases l with
  | nil => cases e
  | cons c t =>
    simp at e
    subst e
    exact (pre_yes [1] t).1

set_option maxHeartbeats 1000000 in
theorem records_any (b : ByteArray) (w : World) (hs : b.size ≤ 1000000000) : Calls Tryz.prog 104 #[.string b] w (RecPost b w) := by
  have hl := list_len b
  have HS := hid hs
  have HL := hid hl
  obtain ⟨i0, hi, hz0, hz1, hz2⟩ := info_parts Tryz.infoStr
  clear hs hl
  go_enter Tryz.func104, Tryz.ntmps104
  go_wp2
  go_loopw [4, 5] (fun lv av wr => ∃ (L : List (List UInt8)) (a : Nat), av = .int .i64 a ∧ Rc b w wr lv a L) (fun _ av _ => b.size - (RowKit.intOf av).toNat)
  case atStart => exact ⟨[], 0, rfl, ⟨⟨rfl, .inl ⟨rfl, rfl⟩⟩, Touch.refl _ _, Nat.zero_le _, Nat.zero_le _, by simp⟩⟩
  case round =>
    obtain ⟨L, a, rfl, hM⟩ := hrel
    have M := hid hM
    clear hM
    have haI : (a : Int) ≤ b.size := by have := M.out.le; omega
    have ha0 : (0 : Int) ≤ a := by omega
    have sl := sl_from b a (a : Int) rfl M.out.le
    have e0 : (b.extract a b.size).data.toList = b.data.toList.drop a := by rw [extract_data]; exact List.take_of_length_le (by rw [List.length_drop]; have := HL.out; omega)
    have s0 : (b.extract a b.size).size ≤ 1000000000 := by rw [← list_len, e0, List.length_drop]; have := HS.out; have := HL.out; omega
    have F := hid (fun w => frFirst_any (b.extract a b.size) w s0)
    unfold FirstV at F
    rw [e0] at F
    generalize b.extract a b.size = X at *
    clear e0 s0
    by_cases he : (firstOf (b.data.toList.drop a)).2.2 = 0
    rotate_left
    · have CP := hid (fun m w => cutp_any (firstOf (b.data.toList.drop a)).1 m w)
      have hA := hid (M.out.e)
      rw [rec_stop (.inl he)] at hA
      simp only [List.append_nil, Nat.add_zero] at hA
      have q : ((firstOf (b.data.toList.drop a)).2.2 != 0) = true := by simpa using he
      generalize firstOf (b.data.toList.drop a) = R at *
      clear he
      go_wp2_with (first
        | (go_at_call 130; refine (F.out _).mono ?_; rintro e w1 ⟨rfl, t1⟩)
        | (go_at_call 131; refine (CP.out _ _).mono ?_; rintro e w2 ⟨rfl, rfl⟩))
      go_ret2
      refine ⟨u4, by rw [hA.out]; rfl, by rw [hA.out]; exact ownsS_same M.out.o t1, M.out.t.trans t1 (by simp)⟩
    · obtain ⟨l, _, hl4, hR, _, hlen⟩ := first_ok he
      by_cases hp : Lib.hasPrefix l [1] = true
      rotate_left
      · have hA := hid (M.out.e)
        rw [rec_stop (b := b.data.toList.drop a) (.inr (by rw [hR]; exact head_not hp))] at hA
        simp only [List.append_nil, Nat.add_zero] at hA
        have C := hid (fun (m : ByteArray) (w : World) (hm : m = bytesT [1]) => show Calls Tryz.prog 131 #[.string (bytesT l), .string m] w fun e w' => e = .returned (.tuple #[.string (bytesT (Lib.trimPrefix l [1])), .bool false]) ∧ w' = w by
          subst hm
          have h := cutp_any l (bytesT [1]) w
          rw [bytesT_toList, Bool.eq_false_iff.2 hp] at h
          exact h)
        rw [hR] at F
        simp only [] at F
        generalize ((l.length + 12 : Nat) : Int) = k at *
        generalize Lib.trimPrefix l [1] = r at *
        generalize bytesT l = x at *
        clear he hR hlen hl4 hp
        go_wp2_with (first
          | (go_at_call 130; refine (F.out _).mono ?_; rintro e w1 ⟨rfl, t1⟩)
          | (go_at_call 131; refine (C.out _ _ rfl).mono ?_; rintro e w2 ⟨rfl, rfl⟩))
        go_ret2
        refine ⟨u4, by rw [hA.out]; rfl, by rw [hA.out]; exact ownsS_same M.out.o t1, M.out.t.trans t1 (by simp)⟩
      · obtain ⟨r, hr⟩ : ∃ r, r = l.drop 1 := ⟨_, rfl⟩
        have hlr : l = 1 :: r := by rw [hr]; exact head_one hp
        have C := hid (fun (m : ByteArray) (w : World) (hm : m = bytesT [1]) => show Calls Tryz.prog 131 #[.string (bytesT l), .string m] w fun e w' => e = .returned (.tuple #[.string (bytesT r), .bool true]) ∧ w' = w by
          subst hm
          have h := cutp_any l (bytesT [1]) w
          rw [bytesT_toList, hp] at h
          have e : Lib.trimPrefix l [1] = r := by unfold Lib.trimPrefix; rw [if_pos hp, hr]; rfl
          rw [e] at h
          exact h)
        have hst := hid (rec_step (b := b.data.toList.drop a) (l := r) (u := l.length + 12) (by rw [hR, ← hlr]))
        rw [hR] at F
        rw [List.length_drop] at hlen
        simp only [] at F
        rw [List.drop_drop] at hst
        have HR := hid hlen
        clear he hR hlen hl4 hp hr hlr
        have hkl : 12 ≤ l.length + 12 := by omega
        generalize l.length + 12 = k at *
        generalize bytesT l = x at *
        have HK := hid hkl
        clear hkl
        have hbd : (a : Int) + (k : Int) ≤ 9223372036854775807 := by have := HR.out; have := HL.out; have := HS.out; omega
        go_wp2_with (first
          | (go_at_call 130; refine (F.out _).mono ?_; rintro e w1 ⟨rfl, t1⟩)
          | (go_at_call 131; refine (C.out _ _ rfl).mono ?_; rintro e w2 ⟨rfl, rfl⟩)
          | (at_builtin; refine wpList_append_lies _ rfl (.tmp 32) (.tmp 34) 43 rfl w.heap.size tStr i0 (.string ⟨#[]⟩) 1 16 Tryz.underlying43 hi hz0 hz1 hz2 rfl (by decide) u4 L.length (txtCells L) (by rfl) (ownsS_same M.out.o (t1.alloc _)) ⟨w2.heap.size, 0, none⟩ 1 1 [.string (bytesT r)] (by rfl) rfl (World.news_of_block (cs := #[.string (bytesT r)]) (t := tStr) (fr := (0, 0)) (heap_alloc_new w2 _)) (by intro u hu; simp at hu; subst hu; rfl) (by decide) (by have := M.out.n; have := M.out.le; have := HS.out; unfold maxLen; omega) (by have := M.out.n; have := M.out.le; have := HS.out; omega) (by have := M.out.t.size; have := t1.size; simp; omega) (w2.heap.size + 1) (by simp) ?_; intro g cap w4 hown hgrow hat hlt4))
        go_roundw
        case rel =>
          refine ⟨L ++ [r], a + k, by go_num, ?_⟩
          refine ⟨by rw [txtCells_snoc, List.length_append]; exact hown, ((M.out.t.trans t1 (by simp)).alloc _).grown hgrow (fun k hk => .inr (ownsS_blk M.out.o k hk)), by have := HR.out; have := HL.out; omega, by have := M.out.n; have := HK.out; simp; omega, ?_⟩
          rw [M.out.e, hst.out]
          simp only [List.append_assoc, List.singleton_append, Prod.mk.injEq, true_and]
          omega
        case measure => have := HR.out; have := HL.out; have := HK.out; simp [RowKit.intOf]; omega
end Go.Proofs.YtjjocnkockeacaaGreatDoor

namespace Go.Proofs.YtjjocnkockeacaaGreatDoor
open Go.RowKit Go.Lib
set_option maxRecDepth 100000

/-- What Read tells. -/
def ReadV (l : List UInt8) (w : World) (e : Ending) (w' : World) : Prop :=
  ((∃ n z v, Begins l n z ∧ e = .returned (.tuple #[ScanV n z v (goodAt n (l.drop 33)) (doneAt n (l.drop 33)), .int .i64 0]) ∧ w'.ownsRow w.heap.size tStr 1 v (recOf (l.drop 33)).1.length (txtCells (recOf (l.drop 33)).1)) ∨
   ((∀ n z, ¬ Begins l n z) ∧ e = .returned (.tuple #[ScanV 0 0 (.slice none 0 0) 0 false, .int .i64 6]))) ∧ Touch [] w w'

theorem cown_form {w : World} {base n : Nat} {v : Value} {xs : List Value} (h : w.ownsRow base tStr 1 v n xs) : ∃ y c, v = .slice y n c ∧ ∀ g, v.ownBlock = some g → base ≤ g := by
  have h2 := ownsS_blk h
  obtain ⟨_, ⟨rfl, rfl⟩ | ⟨g', cap, cur, rfl, h3, _, _⟩⟩ := h
  · exact ⟨none, 0, rfl, h2⟩
  · exact ⟨_, cap, rfl, h2⟩
theorem own_keep {F : List Nat} {w w' : World} {base base' n : Nat} {v : Value} {xs : List Value} (h : w.ownsRow base tStr 1 v n xs) (t : Touch F w w') (hF : ∀ f ∈ F, f < base) (hb : base' ≤ base) : w'.ownsRow base' tStr 1 v n xs := by
  obtain ⟨h1, h2 | ⟨g, cap, cur, hv, h3, h4, h5⟩⟩ := h
  · exact ⟨h1, .inl h2⟩
  · exact ⟨h1, .inr ⟨g, cap, cur, hv, Nat.le_trans hb h3, touch_blk0 t h4 (fun hm => by have := hF g hm; omega), h5⟩⟩
theorem pre_done (l : List UInt8) (n k : Nat) : Lib.hasPrefix l (frL (finL n k)) = decide (l.take 33 = frL (finL n k)) := by
  unfold Lib.hasPrefix
  rw [Bool.eq_iff_iff, List.isPrefixOf_iff_prefix, decide_eq_true_iff]
  constructor
  · rintro ⟨r, rfl⟩
    exact List.take_left' (frFin_len n k)
  · intro h
    rw [← h]
    exact List.take_prefix 33 l
set_option maxHeartbeats 2000000 in
theorem chread_any (b : ByteArray) (w : World) (hs : b.size ≤ 1000000000) : Calls Tryz.prog 65 #[.string b] w (ReadV b.data.toList w) := by
  have hl := list_len b
  have B := hid (fun w => begun_any b w hs)
  have Z1 := hid (heap_alloc_new w (.cells zScan tScan))
  have S1 : Hid (Touch [] w (w.alloc (.cells zScan tScan))) := (Touch.refl _ _).alloc _
  unfold zScan at Z1 S1
  simp only [tScan] at Z1 S1
  go_enter Tryz.func65, Tryz.ntmps65
  go_wp2_with fail
  generalize hW1 : w.alloc (.cells #[.int .i64 0, .int .i64 0, .slice none 0 0, .int .i64 0, .bool false] 95) = W1 at *
  have HS : Hid (w.heap.size ≤ W1.heap.size) := S1.out.size
  clear hW1
  refine (B.out W1).mono ?_
  rintro e w1 ⟨hb, t1⟩
  unfold BegunV ScanV at hb
  rcases hb with ⟨n, z, hb, rfl⟩ | ⟨hb, rfl⟩
  rotate_left
  · obtain ⟨⟨z0, z1, z2, z3, z4⟩, y0, y1, y2, y3, y4⟩ := five (touch_blk0 (t1.alloc (.cells #[.int .i64 0, .int .i64 0, .slice none 0 0, .int .i64 0, .bool false] 95)) Z1.out)
    clear hl hs B
    go_wp2
    refine bodyPost_ret (v := .tuple #[ScanV 0 0 (.slice none 0 0) 0 false, .int .i64 6]) (by simp [results, Tryz.results65, go_sem, ScanV, z0, z1, z2, z3, z4]) rfl ⟨.inr ⟨hb, rfl⟩, touch5 ((S1.out.trans t1 (by simp)).alloc _) (.inr (Nat.le_refl _)) _ _ _ _ _⟩
  · have Z2 := hid (heap_alloc_new w1 (.cells #[.int .i64 n, .int .i64 z, .slice none 0 0, .int .i64 33, .bool false] tScan))
    have HB := hid hb
    have hlen := begins_len hb
    have h33 : (33 : Int) ≤ b.size := by omega
    have e0 : (b.extract 33 b.size).data.toList = b.data.toList.drop 33 := by rw [extract_data]; exact List.take_of_length_le (by rw [List.length_drop]; omega)
    have s0 : (b.extract 33 b.size).size ≤ 1000000000 := by rw [← list_len, e0, List.length_drop]; omega
    have R := hid (fun w => records_any (b.extract 33 b.size) w s0)
    unfold RecPost at R
    rw [e0] at R
    have hrl := recOf_len (b.data.toList.drop 33)
    rw [List.length_drop] at hrl
    have HG := hid (good_len (n := n) hlen)
    clear hb
    go_wp2_with fail
    refine (R.out _).mono ?_
    rintro e w2 ⟨v, rfl, ho, t2⟩
    obtain ⟨y, c, rfl, _⟩ := cown_form ho
    have Z3 := hid (touch_blk0 t2 Z2.out)
    have Y2 := hid (touch_blk0 ((t1.alloc (.cells #[.int .i64 n, .int .i64 z, .slice none 0 0, .int .i64 33, .bool false] 95)).trans t2 (by simp)) Z1.out)
    have hn : n ≤ 999999 := HB.out.1
    have T3 := hid (((S1.out.trans t1 (by simp)).alloc (.cells #[.int .i64 n, .int .i64 z, .slice none 0 0, .int .i64 33, .bool false] 95)).trans t2 (by simp))
    have HLT : Hid (w.heap.size < w1.heap.size) := hid (lt_of_block (touch_blk0 t1 Z1.out))
    have hab : 33 + (recOf (b.data.toList.drop 33)).2 ≤ b.size := by omega
    have F := hid (fun w => finish_any n (recOf (b.data.toList.drop 33)).1.length w (by omega))
    unfold FinishV at F
    rw [if_neg (by omega), show ((n : Int)).toNat = n by omega, show (((recOf (b.data.toList.drop 33)).1.length : Int)).toNat = (recOf (b.data.toList.drop 33)).1.length by omega] at F
    have HP := hid (fun (x : ByteArray) (w : World) => Tryz.strings_HasPrefix x (bytesT (frL (finL n (recOf (b.data.toList.drop 33)).1.length))) w)
    have ep : (b.extract (33 + (recOf (b.data.toList.drop 33)).2) b.size).data.toList = (b.data.toList.drop 33).drop (recOf (b.data.toList.drop 33)).2 := by rw [extract_data, List.drop_drop]; exact List.take_of_length_le (by rw [List.length_drop]; omega)
    have HPX := hid (fun (w : World) => HP.out (b.extract (33 + (recOf (b.data.toList.drop 33)).2) b.size) w)
    rw [ep, bytesT_toList, pre_done] at HPX
    have sl := sl_from b (33 + (recOf (b.data.toList.drop 33)).2) ((33 : Int) + ((recOf (b.data.toList.drop 33)).2 : Int)) (by omega) hab
    have fz : (bytesT (frL (finL n (recOf (b.data.toList.drop 33)).1.length))).size = 33 := by rw [bytesT_size, frFin_len]
    have hfit : doneAt n (b.data.toList.drop 33) = true → 33 + (recOf (b.data.toList.drop 33)).2 + 33 ≤ b.size := fun h => by
      have := HG.out
      unfold goodAt at this
      rw [if_pos h] at this
      omega
    have HO : Hid (w2.ownsRow (w1.heap.size + 1) tStr 1 (.slice y (recOf (b.data.toList.drop 33)).1.length c) (recOf (b.data.toList.drop 33)).1.length (txtCells (recOf (b.data.toList.drop 33)).1)) := by
      have : (w1.alloc (.cells #[.int .i64 n, .int .i64 z, .slice none 0 0, .int .i64 33, .bool false] 95)).heap.size = w1.heap.size + 1 := by simp
      rw [this] at ho
      exact hid ho
    rw [show decide (((b.data.toList.drop 33).drop (recOf (b.data.toList.drop 33)).2).take 33 = frL (finL n (recOf (b.data.toList.drop 33)).1.length)) = doneAt n (b.data.toList.drop 33) from rfl] at HPX
    have hgd : goodAt n (b.data.toList.drop 33) = 33 + (recOf (b.data.toList.drop 33)).2 + (if doneAt n (b.data.toList.drop 33) then 33 else 0) := rfl
    have FIN : Hid (∀ e w', e = Ending.returned (.tuple #[.agg #[.int .i64 n, .int .i64 z, .slice y (recOf (b.data.toList.drop 33)).1.length c, .int .i64 ((33 + (recOf (b.data.toList.drop 33)).2 + (if doneAt n (b.data.toList.drop 33) then 33 else 0) : Nat) : Int), .bool (doneAt n (b.data.toList.drop 33))], .int .i64 0]) → w'.ownsRow w.heap.size tStr 1 (.slice y (recOf (b.data.toList.drop 33)).1.length c) (recOf (b.data.toList.drop 33)).1.length (txtCells (recOf (b.data.toList.drop 33)).1) → Touch [] w w' → ReadV b.data.toList w e w') := fun e w' h1 h2 h3 => ⟨.inl ⟨n, z, _, HB.out, by rw [h1, hgd]; rfl, h2⟩, h3⟩
    generalize bytesT (frL (finL n (recOf (b.data.toList.drop 33)).1.length)) = ZF at *
    generalize txtCells (recOf (b.data.toList.drop 33)).1 = TC at *
    generalize (recOf (b.data.toList.drop 33)).1.length = LN at *
    generalize (recOf (b.data.toList.drop 33)).2 = a at *
    generalize doneAt n (b.data.toList.drop 33) = DN at *
    generalize b.extract (33 + a) b.size = X2 at *
    obtain ⟨⟨z0, z1, z2, z3, z4⟩, y0, y1, y2, y3, y4⟩ := five Z3.out
    have ha : a ≤ 1000000000 := by omega
    clear Z2 ho t2 R e0 s0 hrl HG hgd ep hs hl HP
    go_wp2_with fail
    have Z4 : Hid (((w2.setCell ⟨w1.heap.size, 2, none⟩ (.slice y LN c)).setCell ⟨w1.heap.size, 3, none⟩ (.int .i64 (33 + (a : Int)))).heap[w1.heap.size]? = some (.cells #[.int .i64 n, .int .i64 z, .slice y LN c, .int .i64 (33 + (a : Int)), .bool false] 95 (0, 0))) := hid (by rw [heap_set (heap_set Z3.out _) _]; rfl)
    have Y4 : Hid (((w2.setCell ⟨w1.heap.size, 2, none⟩ (.slice y LN c)).setCell ⟨w1.heap.size, 3, none⟩ (.int .i64 (33 + (a : Int)))).heap[w.heap.size]? = some (.cells #[.int .i64 0, .int .i64 0, .slice none 0 0, .int .i64 0, .bool false] 95 (0, 0))) := hid (by rw [heap_set_other _ (by have := HLT.out; simp; omega), heap_set_other _ (by have := HLT.out; simp; omega)]; exact Y2.out)
    have T4 : Hid (Touch [] w ((w2.setCell ⟨w1.heap.size, 2, none⟩ (.slice y LN c)).setCell ⟨w1.heap.size, 3, none⟩ (.int .i64 (33 + (a : Int))))) := hid ((T3.out.setCell (.inr (Nat.le_of_lt HLT.out)) _).setCell (.inr (Nat.le_of_lt HLT.out)) _)
    have TW : Hid (Touch [w1.heap.size] w2 ((w2.setCell ⟨w1.heap.size, 2, none⟩ (.slice y LN c)).setCell ⟨w1.heap.size, 3, none⟩ (.int .i64 (33 + (a : Int))))) := hid (((Touch.refl _ _).setCell (.inl (by simp)) _).setCell (.inl (by simp)) _)
    generalize (w2.setCell ⟨w1.heap.size, 2, none⟩ (.slice y LN c)).setCell ⟨w1.heap.size, 3, none⟩ (.int .i64 (33 + (a : Int))) = W3 at *
    clear z0 z1 z2 z3 z4 y0 y1 y2 y3 y4 Z3 Y2
    refine (F.out _).mono ?_
    rintro e w4 ⟨rfl, t4⟩
    obtain ⟨⟨z0, z1, z2, z3, z4⟩, y0, y1, y2, y3, y4⟩ := five (touch_blk0 t4 Z4.out)
    obtain ⟨⟨r0, r1, r2, r3, r4⟩, s0, s1, s2, s3, s4⟩ := five (touch_blk0 t4 Y4.out)
    have ZB := hid (touch_blk0 t4 Z4.out)
    have YB := hid (touch_blk0 t4 Y4.out)
    have TW4 := hid (TW.out.trans t4 (by simp))
    have T5 := hid (T4.out.trans t4 (by simp))
    generalize w1.heap.size = sb at *
    clear TW T4 t4 F Z4 Y4 T3 t1
    cases DN with
    | false =>
      go_wp2_with (go_at_call 56; refine (HPX.out _).mono ?_; rintro e w5 ⟨rfl, rfl⟩)
      refine bodyPost_ret (v := .tuple #[.agg #[.int .i64 n, .int .i64 z, .slice y LN c, .int .i64 (33 + (a : Int)), .bool false], .int .i64 0]) (by simp [results, Tryz.results65, go_sem, r0, r1, r2, r3, r4]) rfl ?_
      refine FIN.out _ _ (by simp) (own_keep HO.out ((TW4.out.mono (G := [sb, w.heap.size]) (fun x hx => .inl (by simp at hx; simp [hx]))).trans (touch5 (Touch.refl [w.heap.size] _) (.inl (by simp)) _ _ _ _ _) ?_) ?_ ?_) (touch5 T5.out (.inr (Nat.le_refl _)) _ _ _ _ _)
      · intro x hx; simp at hx; subst hx; exact .inl (by simp)
      · intro f hf; simp at hf; have := HLT.out; omega
      · have := HLT.out; omega
    | true =>
      have hfit2 : (33 : Int) + a + 33 ≤ b.size := by have := hfit rfl; omega
      go_upto_region 9 with (go_at_call 56; refine (HPX.out _).mono ?_; rintro e w5 ⟨rfl, rfl⟩)
      have Z6 : Hid (((w5.setCell ⟨sb, 3, none⟩ (.int .i64 (33 + (a : Int) + 33))).setCell ⟨sb, 4, none⟩ (.bool true)).heap[sb]? = some (.cells #[.int .i64 n, .int .i64 z, .slice y LN c, .int .i64 (33 + (a : Int) + 33), .bool true] 95 (0, 0))) := hid (by rw [heap_set (heap_set ZB.out _) _]; rfl)
      have Y6 : Hid (((w5.setCell ⟨sb, 3, none⟩ (.int .i64 (33 + (a : Int) + 33))).setCell ⟨sb, 4, none⟩ (.bool true)).heap[w.heap.size]? = some (.cells #[.int .i64 0, .int .i64 0, .slice none 0 0, .int .i64 0, .bool false] 95 (0, 0))) := hid (by rw [heap_set_other _ (by have := HLT.out; simp; omega), heap_set_other _ (by have := HLT.out; simp; omega)]; exact YB.out)
      have T6 : Hid (Touch [] w ((w5.setCell ⟨sb, 3, none⟩ (.int .i64 (33 + (a : Int) + 33))).setCell ⟨sb, 4, none⟩ (.bool true))) := hid ((T5.out.setCell (.inr (Nat.le_of_lt HLT.out)) _).setCell (.inr (Nat.le_of_lt HLT.out)) _)
      have TW6 : Hid (Touch [sb] w2 ((w5.setCell ⟨sb, 3, none⟩ (.int .i64 (33 + (a : Int) + 33))).setCell ⟨sb, 4, none⟩ (.bool true))) := hid ((TW4.out.setCell (.inl (by simp)) _).setCell (.inl (by simp)) _)
      generalize (w5.setCell ⟨sb, 3, none⟩ (.int .i64 (33 + (a : Int) + 33))).setCell ⟨sb, 4, none⟩ (.bool true) = W6 at *
      clear z0 z1 z2 z3 z4 y0 y1 y2 y3 y4 r0 r1 r2 r3 r4 s0 s1 s2 s3 s4 TW4 T5
      obtain ⟨⟨z0, z1, z2, z3, z4⟩, y0, y1, y2, y3, y4⟩ := five Z6.out
      obtain ⟨⟨r0, r1, r2, r3, r4⟩, s0, s1, s2, s3, s4⟩ := five Y6.out
      go_wp2
      refine bodyPost_ret (v := .tuple #[.agg #[.int .i64 n, .int .i64 z, .slice y LN c, .int .i64 (33 + (a : Int) + 33), .bool true], .int .i64 0]) (by simp [results, Tryz.results65, go_sem, r0, r1, r2, r3, r4]) rfl ?_
      refine FIN.out _ _ (by simp) (own_keep HO.out ((TW6.out.mono (G := [sb, w.heap.size]) (fun x hx => .inl (by simp at hx; simp [hx]))).trans (touch5 (Touch.refl [w.heap.size] _) (.inl (by simp)) _ _ _ _ _) ?_) ?_ ?_) (touch5 T6.out (.inr (Nat.le_refl _)) _ _ _ _ _)
      · intro x hx; simp at hx; subst hx; exact .inl (by simp)
      · intro f hf; simp at hf; have := HLT.out; omega
      · have := HLT.out; omega
end Go.Proofs.YtjjocnkockeacaaGreatDoor
