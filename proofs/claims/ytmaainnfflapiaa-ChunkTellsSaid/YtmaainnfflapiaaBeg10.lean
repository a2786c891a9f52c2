/- chunk's begun: what the first frame says of a chunk. -/
import Derived.Test.YtmaainnfflapiaaChn10
namespace Go.Proofs.Ytmaainnfflapiaa
open Go.RowKit Go.Lib
set_option maxRecDepth 100000

theorem cutp_any (l : List UInt8) (m : ByteArray) (w : World) : Calls Try.prog 66 #[.string (bytesT l), .string m] w fun e w' => e = .returned (.tuple #[.string (bytesT (Lib.trimPrefix l m.data.toList)), .bool (Lib.hasPrefix l m.data.toList)]) ∧ w' = w := by
  have h := Try.strings_CutPrefix (bytesT l) m w
  rw [bytesT_toList] at h
  exact h
theorem pre_yes (m r : List UInt8) : Lib.hasPrefix (m ++ r) m = true ∧ Lib.trimPrefix (m ++ r) m = r := by
  have h : Lib.hasPrefix (m ++ r) m = true := by unfold Lib.hasPrefix; rw [List.isPrefixOf_iff_prefix]; exact List.prefix_append m r
  refine ⟨h, ?_⟩
  unfold Lib.trimPrefix
  rw [if_pos h, List.drop_left' rfl]
theorem pre_form {l m : List UInt8} (h : Lib.hasPrefix l m = true) : l = m ++ l.drop m.length := by
  unfold Lib.hasPrefix at h
  rw [List.isPrefixOf_iff_prefix] at h
  obtain ⟨r, rfl⟩ := h
  rw [List.drop_left' rfl]
def stM : List UInt8 := [0, 67, 72, 78, 75]
def ScanV (n z : Int) (v : Value) (g : Int) (d : Bool) : Value := .agg #[.int .i64 n, .int .i64 z, v, .int .i64 g, .bool d]
/-- What begun tells. -/
def BegunV (b : ByteArray) (e : Ending) : Prop :=
  (∃ n z, Begins b.data.toList n z ∧ e = .returned (.tuple #[ScanV n z (.slice none 0 0) 33 false, .int .i64 0])) ∨ ((∀ n z, ¬ Begins b.data.toList n z) ∧ e = .returned (.tuple #[ScanV 0 0 (.slice none 0 0) 0 false, .int .i64 6]))
theorem wrap_small {n : Nat} (h : n < 9223372036854775808) : wrap64 (n : Int) = n := by unfold wrap64; omega
/-- The two numbers of a start. -/
theorem stL_nums {n z : Nat} (h1 : n ≤ 999999) (h3 : z ≤ 1000000) : wrap64 (val (iTake (be 8 n ++ be 8 z, 0) 8).1) = n ∧ wrap64 (val (iTake (iTake (be 8 n ++ be 8 z, 0) 8).2 8).1) = z := by
  have e1 : iTake (be 8 n ++ be 8 z, 0) 8 = (be 8 n, (be 8 z, 0)) := by
    rw [iTake_good _ _ (by rw [List.length_append, be_length, be_length]; decide), List.take_left' (be_length 8 n), List.drop_left' (be_length 8 n)]
  have e2 : iTake (be 8 z, 0) 8 = (be 8 z, ([], 0)) := by
    rw [iTake_good _ _ (by rw [be_length]; decide), List.take_of_length_le (by rw [be_length]; decide), List.drop_eq_nil_of_le (by rw [be_length]; decide)]
  rw [e1]
  simp only []
  rw [e2]
  simp only []
  rw [val_be_8 (by omega), val_be_8 (by omega), wrap_small (by omega), wrap_small (by omega)]
  exact ⟨rfl, rfl⟩

theorem five {w : World} {b : Nat} {c0 c1 c2 c3 c4 : Value} {ty : TypeId} (h : w.heap[b]? = some (.cells #[c0, c1, c2, c3, c4] ty (0, 0))) :
    (w.cell? ⟨b, 0, none⟩ = some c0 ∧ w.cell? ⟨b, 1, none⟩ = some c1 ∧ w.cell? ⟨b, 2, none⟩ = some c2 ∧ w.cell? ⟨b, 3, none⟩ = some c3 ∧ w.cell? ⟨b, 4, none⟩ = some c4) ∧
    w.frozen? ⟨b, 0, none⟩ = false ∧ w.frozen? ⟨b, 1, none⟩ = false ∧ w.frozen? ⟨b, 2, none⟩ = false ∧ w.frozen? ⟨b, 3, none⟩ = false ∧ w.frozen? ⟨b, 4, none⟩ = false :=
  ⟨⟨cell_of h 0, cell_of h 1, cell_of h 2, cell_of h 3, cell_of h 4⟩, free_of h 0, free_of h 1, free_of h 2, free_of h 3, free_of h 4⟩
theorem touch5 {F : List Nat} {w0 w : World} {b : Nat} (h : Touch F w0 w) (hb : b ∈ F ∨ w0.heap.size ≤ b) (a0 a1 a2 a3 a4 : Value) :
    Touch F w0 (((((w.setCell ⟨b, 0, none⟩ a0).setCell ⟨b, 1, none⟩ a1).setCell ⟨b, 2, none⟩ a2).setCell ⟨b, 3, none⟩ a3).setCell ⟨b, 4, none⟩ a4) :=
  ((((h.setCell hb _).setCell hb _).setCell hb _).setCell hb _).setCell hb _
def zScan : Array Value := #[.int .i64 0, .int .i64 0, .slice none 0 0, .int .i64 0, .bool false]
abbrev tScan : TypeId := 43
set_option maxHeartbeats 1000000 in
theorem begun_any (b : ByteArray) (w : World) (hs : b.size ≤ 1000000000) : Calls Try.prog 29 #[.string b] w fun e w' => BegunV b e ∧ Touch [] w w' := by
  have hl := list_len b
  have Z1 := hid (heap_alloc_new w (.cells zScan tScan))
  have S1 : Hid (Touch [] w (w.alloc (.cells zScan tScan))) := (Touch.refl _ _).alloc _
  unfold zScan at Z1 S1
  simp only [tScan] at Z1 S1
  have F := hid (fun w => frFirst_any b w hs)
  unfold FirstV at F
  have CP := hid (fun l m w => cutp_any l m w)
  by_cases he : (firstOf b.data.toList).2.2 = 0
  rotate_left
  · have hB : Hid (∀ n z, ¬ Begins b.data.toList n z) := fun n z h => he (by rw [begins_first h])
    have q : ((firstOf b.data.toList).2.2 != 0) = true := by simpa using he
    generalize firstOf b.data.toList = R at *
    clear he hl hs
    go_enter Try.func29, Try.ntmps29
    go_wp2_with fail
    generalize hW1 : w.alloc (.cells #[.int .i64 0, .int .i64 0, .slice none 0 0, .int .i64 0, .bool false] 43) = W1 at *
    have HS : Hid (w.heap.size ≤ W1.heap.size) := S1.out.size
    clear hW1
    go_wp2_with (first
      | (go_at_call 65; refine (F.out _).mono ?_; rintro e w1 ⟨rfl, t1⟩)
      | (go_at_call 66; refine (CP.out _ _ _).mono ?_; rintro e w2 ⟨rfl, rfl⟩; obtain ⟨⟨z0, z1, z2, z3, z4⟩, y0, y1, y2, y3, y4⟩ := five (touch_blk0 t1 Z1.out)))
    refine bodyPost_ret (v := .tuple #[ScanV 0 0 (.slice none 0 0) 0 false, .int .i64 6]) (by simp [results, Try.results29, go_sem, ScanV, z0, z1, z2, z3, z4]) rfl ⟨.inr ⟨hB.out, rfl⟩, touch5 (S1.out.trans t1 (by simp)) (.inr (Nat.le_refl _)) _ _ _ _ _⟩
  obtain ⟨l, hb, h4, hf, _, hlen⟩ := first_ok he
  rw [hf] at F
  simp only [] at F
  by_cases hp : Lib.hasPrefix l stM = true
  rotate_left
  · have hB : Hid (∀ n z, ¬ Begins b.data.toList n z) := fun n z h => hp (by
      have e := begins_first h
      rw [hf] at e
      rw [show l = stL n z from congrArg Prod.fst e]
      exact (pre_yes stM _).1)
    have C := hid (fun (m : ByteArray) (w : World) (hm : m = bytesT stM) => show Calls Try.prog 66 #[.string (bytesT l), .string m] w fun e w' => e = .returned (.tuple #[.string (bytesT (Lib.trimPrefix l stM)), .bool false]) ∧ w' = w by
      subst hm
      have h := cutp_any l (bytesT stM) w
      rw [bytesT_toList, Bool.eq_false_iff.2 hp] at h
      exact h)
    generalize Lib.trimPrefix l stM = r at *
    generalize bytesT l = x at *
    clear he hl hs hp hb h4 hf hlen CP
    go_enter Try.func29, Try.ntmps29
    go_wp2_with fail
    generalize hW1 : w.alloc (.cells #[.int .i64 0, .int .i64 0, .slice none 0 0, .int .i64 0, .bool false] 43) = W1 at *
    have HS : Hid (w.heap.size ≤ W1.heap.size) := S1.out.size
    clear hW1
    go_wp2_with (first
      | (go_at_call 65; refine (F.out _).mono ?_; rintro e w1 ⟨rfl, t1⟩)
      | (go_at_call 66; refine (C.out _ _ rfl).mono ?_; rintro e w2 ⟨rfl, rfl⟩; obtain ⟨⟨z0, z1, z2, z3, z4⟩, y0, y1, y2, y3, y4⟩ := five (touch_blk0 t1 Z1.out)))
    refine bodyPost_ret (v := .tuple #[ScanV 0 0 (.slice none 0 0) 0 false, .int .i64 6]) (by simp [results, Try.results29, go_sem, ScanV, z0, z1, z2, z3, z4]) rfl ⟨.inr ⟨hB.out, rfl⟩, touch5 (S1.out.trans t1 (by simp)) (.inr (Nat.le_refl _)) _ _ _ _ _⟩
  have C := hid (fun (m : ByteArray) (w : World) (hm : m = bytesT stM) => show Calls Try.prog 66 #[.string (bytesT l), .string m] w fun e w' => e = .returned (.tuple #[.string (bytesT (l.drop 5)), .bool true]) ∧ w' = w by
    subst hm
    have h := cutp_any l (bytesT stM) w
    rw [bytesT_toList, hp] at h
    have e : Lib.trimPrefix l stM = l.drop 5 := by unfold Lib.trimPrefix; rw [if_pos hp]; rfl
    rw [e] at h
    exact h)
  obtain ⟨r, hr⟩ : ∃ r, r = l.drop 5 := ⟨_, rfl⟩
  have hlr : l = stM ++ r := by rw [hr]; exact pre_form hp
  rw [← hr] at C
  have NI := hid (fun w => newIn_any (bytesT r) w)
  rw [bytesT_toList] at NI
  have I1 := hid (fun i w (h : InIs w i (r, 0)) => inI64_st i (r, 0) w h)
  have I2 := hid (fun i w (h : InIs w i (iTake (r, 0) 8).2) => inI64_st i (iTake (r, 0) 8).2 w h)
  obtain ⟨x1, hx1⟩ : ∃ x, x = wrap64 (val (iTake (r, 0) 8).1) := ⟨_, rfl⟩
  obtain ⟨x2, hx2⟩ : ∃ x, x = wrap64 (val (iTake (iTake (r, 0) 8).2 8).1) := ⟨_, rfl⟩
  rw [← hx1] at I1
  rw [← hx2] at I2
  have hx2m : x2 ≤ 9223372036854775807 := by rw [hx2]; unfold wrap64; omega
  have S := hid (fun w => start_any x1 x2 w hx2m)
  unfold StartV at S
  have hBn : ∀ n z, Begins b.data.toList n z → x1 = n ∧ x2 = z ∧ l.length + 12 = 33 := fun n z h => by
    have e := begins_first h
    rw [hf] at e
    have e1 : l = stL n z := congrArg Prod.fst e
    have e2 : r = be 8 n ++ be 8 z := by rw [hr, e1]; rfl
    have e3 := stL_nums h.1 h.2.2.1
    rw [← e2, ← hx1, ← hx2] at e3
    exact ⟨e3.1, e3.2, by rw [e1, stL_len]⟩
  generalize (iTake (iTake (r, 0) 8).2 8).2 = st2 at *
  generalize (iTake (r, 0) 8).2 = st1 at *
  by_cases hv : x1 < 0 ∨ 999999 < x1 ∨ x2 < 100 ∨ 1000000 < x2
  · rw [if_pos hv] at S
    have hB : Hid (∀ n z, ¬ Begins b.data.toList n z) := fun n z h => by
      obtain ⟨e1, e2, _⟩ := hBn n z h
      have := h.1; have := h.2.1; have := h.2.2.1
      omega
    generalize bytesT r = y at *
    generalize bytesT l = x at *
    clear he hl hs hp hb h4 hf hlen CP hv hBn hx1 hx2 hx2m hlr hr
    go_enter Try.func29, Try.ntmps29
    go_wp2_with fail
    generalize hW1 : w.alloc (.cells #[.int .i64 0, .int .i64 0, .slice none 0 0, .int .i64 0, .bool false] 43) = W1 at *
    have HS : Hid (w.heap.size ≤ W1.heap.size) := S1.out.size
    clear hW1
    go_wp2_with (first
      | (go_at_call 65; refine (F.out _).mono ?_; rintro e w1 ⟨rfl, t1⟩)
      | (go_at_call 66; refine (C.out _ _ rfl).mono ?_; rintro e w2 ⟨rfl, rfl⟩)
      | (go_at_call 67; refine (NI.out _).mono ?_; rintro e w3 ⟨rfl, i3, t3⟩; (have I3 := hid i3); clear i3)
      | (go_at_call 68; refine (I1.out _ _ I3.out).mono ?_; rintro e w4 ⟨rfl, p4⟩; (have I4 := hid p4); clear p4 I1)
      | (go_at_call 68; refine (I2.out _ _ I4.out.1).mono ?_; rintro e w5 ⟨rfl, p5⟩)
      | (go_at_call 8; refine (S.out _).mono ?_; rintro e w6 ⟨rfl, t6⟩; (have TT := hid ((((t1.trans t3 (by simp)).trans I4.out.2 (fun f hf => .inr (by have := t1.size; simp at hf; omega))).trans p5.2 (fun f hf => .inr (by have := t1.size; simp at hf; omega))).trans t6 (by simp))); obtain ⟨⟨z0, z1, z2, z3, z4⟩, y0, y1, y2, y3, y4⟩ := five (touch_blk0 TT.out Z1.out)))
    refine bodyPost_ret (v := .tuple #[ScanV 0 0 (.slice none 0 0) 0 false, .int .i64 6]) (by simp [results, Try.results29, go_sem, ScanV, z0, z1, z2, z3, z4]) rfl ⟨.inr ⟨hB.out, rfl⟩, touch5 (S1.out.trans TT.out (by simp)) (.inr (Nat.le_refl _)) _ _ _ _ _⟩
  rw [if_neg hv] at S
  obtain ⟨n, rfl⟩ := Int.eq_ofNat_of_zero_le (show 0 ≤ x1 by omega)
  obtain ⟨z, rfl⟩ := Int.eq_ofNat_of_zero_le (show 0 ≤ x2 by omega)
  rw [show ((n : Int)).toNat = n by omega, show ((z : Int)).toNat = z by omega] at S
  have sl := sl_to b (l.length + 12) ((l.length + 12 : Nat) : Int) rfl (by omega)
  have ee : (b.extract 0 (l.length + 12)).data.toList = b.data.toList.take (l.length + 12) := by rw [extract_data]; simp
  by_cases hq : b.data.toList.take (l.length + 12) = frL (stL n z)
  · have q : ((b.extract 0 (l.length + 12)).toList == (bytesT (frL (stL n z))).toList) = true := txt_same (by rw [ee, bytesT_toList]; exact hq)
    have hB := hid (begins_of (n := n) (z := z) (u := l.length + 12) (by omega) (by omega) (by omega) (by omega) hq)
    have hk : ((l.length + 12 : Nat) : Int) = 33 := by have := (hBn n z hB.out).2.2; omega
    rw [hk] at sl F
    generalize b.extract 0 (l.length + 12) = c at *
    generalize bytesT (frL (stL n z)) = Z at *
    generalize bytesT r = y at *
    generalize bytesT l = x at *
    clear he hl hs hp hb h4 hf hlen CP hv hBn hx1 hx2 hx2m hlr hr hk ee hq
    go_enter Try.func29, Try.ntmps29
    go_wp2_with fail
    generalize hW1 : w.alloc (.cells #[.int .i64 0, .int .i64 0, .slice none 0 0, .int .i64 0, .bool false] 43) = W1 at *
    have HS : Hid (w.heap.size ≤ W1.heap.size) := S1.out.size
    clear hW1
    go_wp2_with (first
      | (go_at_call 65; refine (F.out _).mono ?_; rintro e w1 ⟨rfl, t1⟩)
      | (go_at_call 66; refine (C.out _ _ rfl).mono ?_; rintro e w2 ⟨rfl, rfl⟩)
      | (go_at_call 67; refine (NI.out _).mono ?_; rintro e w3 ⟨rfl, i3, t3⟩; (have I3 := hid i3); clear i3)
      | (go_at_call 68; refine (I1.out _ _ I3.out).mono ?_; rintro e w4 ⟨rfl, p4⟩; (have I4 := hid p4); clear p4 I1)
      | (go_at_call 68; refine (I2.out _ _ I4.out.1).mono ?_; rintro e w5 ⟨rfl, p5⟩)
      | (go_at_call 8; refine (S.out _).mono ?_; rintro e w6 ⟨rfl, t6⟩; (have TT := hid ((((t1.trans t3 (by simp)).trans I4.out.2 (fun f hf => .inr (by have := t1.size; simp at hf; omega))).trans p5.2 (fun f hf => .inr (by have := t1.size; simp at hf; omega))).trans t6 (by simp))); obtain ⟨⟨z0, z1, z2, z3, z4⟩, y0, y1, y2, y3, y4⟩ := five (touch_blk0 TT.out Z1.out)))
    refine bodyPost_ret (v := .tuple #[ScanV n z (.slice none 0 0) 33 false, .int .i64 0]) (by simp [results, Try.results29, go_sem, ScanV, z0, z1, z2, z3, z4]) rfl ⟨.inl ⟨n, z, hB.out, rfl⟩, touch5 (S1.out.trans TT.out (by simp)) (.inr (Nat.le_refl _)) _ _ _ _ _⟩
  · have q : ((b.extract 0 (l.length + 12)).toList == (bytesT (frL (stL n z))).toList) = false := txt_ne (by rw [ee, bytesT_toList]; exact hq)
    have hB : Hid (∀ n z, ¬ Begins b.data.toList n z) := fun n' z' h => by
      obtain ⟨e1, e2, e3⟩ := hBn n' z' h
      obtain rfl : n = n' := by omega
      obtain rfl : z = z' := by omega
      exact hq (by rw [e3]; exact h.2.2.2)
    generalize ((l.length + 12 : Nat) : Int) = k at *
    generalize b.extract 0 (l.length + 12) = c at *
    generalize bytesT (frL (stL n z)) = Z at *
    generalize bytesT r = y at *
    generalize bytesT l = x at *
    clear he hl hs hp hb h4 hf hlen CP hv hBn hx1 hx2 hx2m hlr hr ee hq
    go_enter Try.func29, Try.ntmps29
    go_wp2_with fail
    generalize hW1 : w.alloc (.cells #[.int .i64 0, .int .i64 0, .slice none 0 0, .int .i64 0, .bool false] 43) = W1 at *
    have HS : Hid (w.heap.size ≤ W1.heap.size) := S1.out.size
    clear hW1
    go_wp2_with (first
      | (go_at_call 65; refine (F.out _).mono ?_; rintro e w1 ⟨rfl, t1⟩)
      | (go_at_call 66; refine (C.out _ _ rfl).mono ?_; rintro e w2 ⟨rfl, rfl⟩)
      | (go_at_call 67; refine (NI.out _).mono ?_; rintro e w3 ⟨rfl, i3, t3⟩; (have I3 := hid i3); clear i3)
      | (go_at_call 68; refine (I1.out _ _ I3.out).mono ?_; rintro e w4 ⟨rfl, p4⟩; (have I4 := hid p4); clear p4 I1)
      | (go_at_call 68; refine (I2.out _ _ I4.out.1).mono ?_; rintro e w5 ⟨rfl, p5⟩)
      | (go_at_call 8; refine (S.out _).mono ?_; rintro e w6 ⟨rfl, t6⟩; (have TT := hid ((((t1.trans t3 (by simp)).trans I4.out.2 (fun f hf => .inr (by have := t1.size; simp at hf; omega))).trans p5.2 (fun f hf => .inr (by have := t1.size; simp at hf; omega))).trans t6 (by simp))); obtain ⟨⟨z0, z1, z2, z3, z4⟩, y0, y1, y2, y3, y4⟩ := five (touch_blk0 TT.out Z1.out)))
    refine bodyPost_ret (v := .tuple #[ScanV 0 0 (.slice none 0 0) 0 false, .int .i64 6]) (by simp [results, Try.results29, go_sem, ScanV, z0, z1, z2, z3, z4]) rfl ⟨.inr ⟨hB.out, rfl⟩, touch5 (S1.out.trans TT.out (by simp)) (.inr (Nat.le_refl _)) _ _ _ _ _⟩
end Go.Proofs.Ytmaainnfflapiaa
