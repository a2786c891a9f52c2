/- Numbers that are none: nan, minus of the laws; what Check and Put tell of them. -/
import Derived.Test.YtcihnfgfficmlaaFloats
import Derived.Test.YtcihnfgfficmlaaAlive7
import Derived.Test.YtcihnfgfficmlaaArg7
import Derived.Test.YtcihnfgfficmlaaPartsF
namespace Go.Proofs.Ytcihnfgfficmlaa
open Go.RowKit Go.Lib
set_option maxRecDepth 100000

def nanW (a : Nat) : Nat := a ||| 9218868437227405313
theorem nanW_lt {a : Nat} (h : a < 18446744073709551616) : nanW a < 18446744073709551616 := Nat.or_lt_two_pow (n := 64) h (by decide)
theorem nanW_nan {a : Nat} (h : a < 18446744073709551616) : nanB (nanW a) = true := by
  have h1 : nanB (nanW a) = isNan (nanW a) := nanB_eq (nanW a) (nanW_lt h)
  rw [h1, isNan_iff]
  have h2 : rung (nanW a) = (a % 2 ^ 63) ||| (9218868437227405313 % 2 ^ 63) := by
    show nanW a % 2 ^ 63 = _
    unfold nanW
    exact Nat.or_mod_two_pow
  rw [h2]
  have h3 : 9218868437227405313 % 2 ^ 63 ≤ (a % 2 ^ 63) ||| (9218868437227405313 % 2 ^ 63) := Nat.right_le_or
  have h4 : 9218868437227405313 % 2 ^ 63 = 9218868437227405313 := by decide
  omega
theorem nan_any (a : Nat) (w : World) (h : a < 18446744073709551616) : Calls Try.prog 32 #[.int .u64 a] w fun e w' => e = .returned (.float .f64 (nanW a)) ∧ w = w' := by
  have hb : bits .or .u64 (a : Int) 9218868437227405313 = ((nanW a : Nat) : Int) := bits_or a 9218868437227405313 h (by decide)
  have hf := frombits_run (nanW a)
  clear h
  go_enter Try.func32, Try.ntmps32
  go_wp2
  go_ret
  exact ⟨rfl, rfl⟩
theorem copysign_0 (w : World) : Calls Try.prog 62 #[.float .f64 0, .float .f64 13830554455654793216] w fun e w' => e = .returned (.float .f64 9223372036854775808) ∧ w = w' := by
  have h1 := tobits_run 0
  have h2 := tobits_run 13830554455654793216
  have h3 := frombits_run 9223372036854775808
  have b1 : bits .andNot .u64 (0 : Int) 9223372036854775808 = 0 := by decide +kernel
  have b2 : bits .and .u64 (13830554455654793216 : Int) 9223372036854775808 = 9223372036854775808 := by decide +kernel
  have b3 : bits .or .u64 (0 : Int) 9223372036854775808 = 9223372036854775808 := by decide +kernel
  simp only [Int.cast_ofNat_Int] at h1 h2 h3
  go_enter Try.func62, Try.ntmps62
  go_wp2
  go_ret
  exact ⟨rfl, rfl⟩
theorem minus_any (w : World) : Calls Try.prog 33 #[] w fun e w' => e = .returned (.float .f64 9223372036854775808) ∧ w = w' := by
  go_enter Try.func33, Try.ntmps33
  go_wp2_with (go_at_call 62; refine (copysign_0 _).mono ?_; rintro e w' ⟨rfl, rfl⟩)
  go_ret
  exact ⟨rfl, rfl⟩

def nanE (a : Nat) (id : Int) : EvD := ⟨id, ⟨#[116]⟩, ⟨#[]⟩, a⟩
def nanC (a : Nat) (id : Int) : CmdD := ⟨1, 0, ⟨#[115]⟩, 0, [nanE a id], 0, 0, 0⟩
theorem nanE_valid (a : Nat) (id : Int) : validE (nanE a id) = decide (1 ≤ id) := by
  unfold validE nanE
  simp only []
  rw [show strm (ByteArray.mk #[116]).data.toList = true by decide +kernel, show decide ((ByteArray.mk #[]).size ≤ 200) = true by decide]
  simp
theorem nanC_check (a : Nat) (id : Int) : checkC (nanC a id) = if id < 1 then 1 else 0 := by
  by_cases h : id < 1
  · rw [if_pos h]
    unfold checkC nanC
    simp only []
    rw [if_neg (by unfold great; omega), if_neg (by decide +kernel), if_neg (by simp), if_neg (by simp), if_pos ⟨trivial, by simp [nanE_valid]; omega⟩]
  · rw [if_neg h, check_iff]
    unfold nanC
    simp only []
    refine ⟨by unfold great; omega, by decide +kernel, by simp, by simp, ?_, by decide +kernel, by simp, by simp⟩
    simp [nanE_valid]
    omega
theorem nanE_same (a b : Nat) (id : Int) (ha : nanB a = true) (hb : nanB b = true) : sameE (nanE a id) (nanE b id) = true := by
  unfold sameE nanE
  simp only []
  rw [canon_nan ha, canon_nan hb]
  simp
theorem nanC_same (a b : Nat) (id : Int) (ha : nanB a = true) (hb : nanB b = true) : sameC (nanC a id) (nanC b id) = true := by
  unfold sameC nanC
  simp only [sameL, nanE_same a b id ha hb]
  simp
theorem nanC_bytes (a b : Nat) (id : Int) (ha : nanB a = true) (hb : nanB b = true) : putB (nanC a id) = putB (nanC b id) := by
  have h : layC (nanC a id) = layC (nanC b id) := by
    unfold layC nanC layL nanE
    simp only [List.flatMap_cons, List.flatMap_nil, layE]
    rw [canon_nan ha, canon_nan hb]
    rfl
  unfold putB
  rw [nanC_check, nanC_check, h]
theorem noughts (id : Int) : sameE (nanE 9223372036854775808 id) (nanE 0 id) = false := by
  unfold sameE nanE
  simp only []
  rw [canon_num (show nanB 9223372036854775808 = false by decide +kernel), canon_num (show nanB 0 = false by decide +kernel)]
  simp
theorem nanE_ok {a : Nat} {id : Int} (ha : a < 18446744073709551616) (h0 : -9223372036854775808 ≤ id) (h1 : id ≤ 9223372036854775807) : (nanE a id).Ok := ⟨h0, h1, by show (1 : Nat) ≤ 9223372036854775807; decide, by show (0 : Nat) ≤ 9223372036854775807; decide, ha⟩
theorem nanE_row {W : World} {h a : Nat} {id : Int} (hr : W.heap[h]? = some (.cells #[.int .i64 id, .string ⟨#[116]⟩, .string ⟨#[]⟩, .float .f64 a] 32 (0, 0))) (ok : (nanE a id).Ok) : EvX W (some ⟨h, 0, none⟩) [nanE a id] := by
  intro i hi
  obtain rfl : i = 0 := by simp at hi; omega
  exact ⟨h, 0, rfl, ⟨cell_of hr 0, cell_of hr 1, cell_of hr 2, cell_of hr 3⟩, ok⟩

theorem u64_nat {x : Int} (h : (Lit.int .u64 x).wf = true) : ∃ n : Nat, x = n ∧ n < 18446744073709551616 := by
  have h2 : 0 ≤ x ∧ x ≤ 18446744073709551615 := by
    have e1 : IntKind.u64.min = 0 := rfl
    have e2 : IntKind.u64.max = 18446744073709551615 := rfl
    simp only [Lit.wf, e1, e2, Bool.and_eq_true, decide_eq_true_eq] at h
    exact h
  obtain ⟨n, rfl⟩ := Int.eq_ofNat_of_zero_le h2.1
  exact ⟨n, rfl, by omega⟩
theorem i64_range {x : Int} (h : (Lit.int .i64 x).wf = true) : -9223372036854775808 ≤ x ∧ x ≤ 9223372036854775807 := by
  have e1 : IntKind.i64.min = -9223372036854775808 := rfl
  have e2 : IntKind.i64.max = 9223372036854775807 := rfl
  simp only [Lit.wf, e1, e2, Bool.and_eq_true, decide_eq_true_eq] at h
  exact h

set_option maxHeartbeats 4000000 in
theorem nan_walk (a b : Nat) (id : Int) (ha : a < 18446744073709551616) (hb : b < 18446744073709551616) (h0 : -9223372036854775808 ≤ id) (h1 : id ≤ 9223372036854775807) (w : World) :
    Calls Try.prog 6 #[.int .u64 a, .int .u64 b, .int .i64 id] w fun e w' => e = .returned (.bool true) ∧ Touch [] w w' := by
  have CA := hid alive_true
  have N1 := hid (fun w => nan_any a w ha)
  have N2 := hid (fun w => nan_any b w hb)
  have CMn := hid minus_any
  have okA := hid (nanE_ok (nanW_lt ha) h0 h1)
  have okB := hid (nanE_ok (nanW_lt hb) h0 h1)
  have nA := nanW_nan ha
  have nB := nanW_nan hb
  have hbytes := nanC_bytes _ _ id nA nB
  have hsc := nanC_same _ _ id nA nB
  have hse := nanE_same _ _ id nA nB
  have hno := noughts id
  have PA := hid (fun w' r hx => evPut_any (nanC (nanW a) id) (some ⟨r, 0, none⟩) 1 w' hx)
  have PB := hid (fun w' r hx => evPut_any (nanC (nanW b) id) (some ⟨r, 0, none⟩) 1 w' hx)
  have SC := hid (fun w' r1 r2 hx hy => evSame_any (nanC (nanW a) id) (nanC (nanW b) id) (some ⟨r1, 0, none⟩) (some ⟨r2, 0, none⟩) 1 1 w' hx hy (by show (1 : Nat) ≤ 9223372036854775807; decide))
  have SE := hid (fun w' => evSameEvent_any (nanE (nanW a) id) (nanE (nanW b) id) w')
  have SZ := hid (fun w' => evSameEvent_any (nanE 9223372036854775808 id) (nanE 0 id) w')
  rw [hsc] at SC
  rw [hse] at SE
  rw [hno] at SZ
  rw [nanC_check] at PA PB
  rw [hbytes] at PA
  have hq : ((putB (nanC (nanW b) id)).toList == (putB (nanC (nanW b) id)).toList) = true := by simp
  generalize putB (nanC (nanW b) id) = S at *
  unfold nanC CmdD.agg at PA PB SC
  unfold nanE EvD.agg at SE SZ
  simp only [List.length_cons, List.length_nil] at PA PB SC
  clear hbytes hsc hse hno nA nB ha hb h0 h1
  generalize nanW a = A at *
  generalize nanW b = B at *
  have hsf := store_flt
  go_enter Try.func6, Try.ntmps6
  go_upto_region 3 with (first | (go_at_call 32; with_reducible refine (N1.out _).mono ?_; rintro e w1 ⟨rfl, rfl⟩; clear N1) | (go_at_call 32; with_reducible refine (N2.out _).mono ?_; rintro e w1 ⟨rfl, rfl⟩))
  obtain ⟨W2, hW2⟩ : ∃ W2, W2 = (w.alloc (.cells #[.int .i64 id, .string ⟨#[116]⟩, .string ⟨#[]⟩, .float .f64 A] 32)).alloc (.cells #[.int .i64 id, .string ⟨#[116]⟩, .string ⟨#[]⟩, .float .f64 B] 32) := ⟨_, rfl⟩
  have T2 : Hid (Touch [] w W2) := by rw [hW2]; exact hid (((Touch.refl [] w).alloc _).alloc _)
  have X2 : Hid (W2.heap[w.heap.size]? = some (.cells #[.int .i64 id, .string ⟨#[116]⟩, .string ⟨#[]⟩, .float .f64 A] 32 (0, 0))) := by rw [hW2]; exact hid (touch_blk0 ((Touch.refl [] _).alloc _) (heap_alloc_new w _))
  have Y2 : Hid (W2.heap[w.heap.size + 1]? = some (.cells #[.int .i64 id, .string ⟨#[116]⟩, .string ⟨#[]⟩, .float .f64 B] 32 (0, 0))) := by
    have := heap_alloc_new (w.alloc (.cells #[.int .i64 id, .string ⟨#[116]⟩, .string ⟨#[]⟩, .float .f64 A] 32)) (.cells #[.int .i64 id, .string ⟨#[116]⟩, .string ⟨#[]⟩, .float .f64 B] 32)
    rw [show (w.alloc (.cells #[.int .i64 id, .string ⟨#[116]⟩, .string ⟨#[]⟩, .float .f64 A] 32)).heap.size = w.heap.size + 1 by simp] at this
    rw [hW2]; exact hid this
  rw [← hW2]
  clear hW2
  generalize hx7 : w.heap.size = x7 at *
  generalize hx8 : x7 + 1 = x8 at *
  clear hx7 hx8
  obtain ⟨x0, x1, x2, x3⟩ := cells4_of X2.out
  go_upto_region 4 with fail
  obtain ⟨W3, hW3⟩ : ∃ W3, W3 = (W2.alloc (.cells #[.int .i64 id, .string ⟨#[116]⟩, .string ⟨#[]⟩, .float .f64 A] 32)).alloc (.cells #[.int .i64 1, .int .i64 0, .string ⟨#[115]⟩, .int .i64 0, .slice (some ⟨W2.heap.size, 0, none⟩) 1 1, .int .i64 0, .int .i64 0, .int .i64 0] 26) := ⟨_, rfl⟩
  have u3 : Touch [] W2 W3 := by rw [hW3]; exact ((Touch.refl [] W2).alloc _).alloc _
  have R3 : Hid (W3.heap[W2.heap.size]? = some (.cells #[.int .i64 id, .string ⟨#[116]⟩, .string ⟨#[]⟩, .float .f64 A] 32 (0, 0))) := by rw [hW3]; exact hid (touch_blk0 ((Touch.refl [] _).alloc _) (heap_alloc_new W2 _))
  have C3 : Hid (W3.heap[W2.heap.size + 1]? = some (.cells #[.int .i64 1, .int .i64 0, .string ⟨#[115]⟩, .int .i64 0, .slice (some ⟨W2.heap.size, 0, none⟩) 1 1, .int .i64 0, .int .i64 0, .int .i64 0] 26 (0, 0))) := by
    have := heap_alloc_new (W2.alloc (.cells #[.int .i64 id, .string ⟨#[116]⟩, .string ⟨#[]⟩, .float .f64 A] 32)) (.cells #[.int .i64 1, .int .i64 0, .string ⟨#[115]⟩, .int .i64 0, .slice (some ⟨W2.heap.size, 0, none⟩) 1 1, .int .i64 0, .int .i64 0, .int .i64 0] 26)
    rw [show (W2.alloc (.cells #[.int .i64 id, .string ⟨#[116]⟩, .string ⟨#[]⟩, .float .f64 A] 32)).heap.size = W2.heap.size + 1 by simp] at this
    rw [hW3]; exact hid this
  rw [← hW3]
  clear hW3 x0 x1 x2 x3
  generalize W2.heap.size = r3 at *
  generalize hc9 : r3 + 1 = c9 at *
  clear hc9
  have T3 := hid (T2.out.trans u3 (by simp))
  have X3 := hid (touch_blk0 u3 X2.out)
  have Y3 := hid (touch_blk0 u3 Y2.out)
  clear u3 T2 X2 Y2
  obtain ⟨y0, y1, y2, y3⟩ := cells4_of Y3.out
  go_upto_region 5 with fail
  obtain ⟨W4, hW4⟩ : ∃ W4, W4 = (W3.alloc (.cells #[.int .i64 id, .string ⟨#[116]⟩, .string ⟨#[]⟩, .float .f64 B] 32)).alloc (.cells #[.int .i64 1, .int .i64 0, .string ⟨#[115]⟩, .int .i64 0, .slice (some ⟨W3.heap.size, 0, none⟩) 1 1, .int .i64 0, .int .i64 0, .int .i64 0] 26) := ⟨_, rfl⟩
  have u4 : Touch [] W3 W4 := by rw [hW4]; exact ((Touch.refl [] W3).alloc _).alloc _
  have R4 : Hid (W4.heap[W3.heap.size]? = some (.cells #[.int .i64 id, .string ⟨#[116]⟩, .string ⟨#[]⟩, .float .f64 B] 32 (0, 0))) := by rw [hW4]; exact hid (touch_blk0 ((Touch.refl [] _).alloc _) (heap_alloc_new W3 _))
  have C4 : Hid (W4.heap[W3.heap.size + 1]? = some (.cells #[.int .i64 1, .int .i64 0, .string ⟨#[115]⟩, .int .i64 0, .slice (some ⟨W3.heap.size, 0, none⟩) 1 1, .int .i64 0, .int .i64 0, .int .i64 0] 26 (0, 0))) := by
    have := heap_alloc_new (W3.alloc (.cells #[.int .i64 id, .string ⟨#[116]⟩, .string ⟨#[]⟩, .float .f64 B] 32)) (.cells #[.int .i64 1, .int .i64 0, .string ⟨#[115]⟩, .int .i64 0, .slice (some ⟨W3.heap.size, 0, none⟩) 1 1, .int .i64 0, .int .i64 0, .int .i64 0] 26)
    rw [show (W3.alloc (.cells #[.int .i64 id, .string ⟨#[116]⟩, .string ⟨#[]⟩, .float .f64 B] 32)).heap.size = W3.heap.size + 1 by simp] at this
    rw [hW4]; exact hid this
  rw [← hW4]
  clear hW4 y0 y1 y2 y3
  generalize W3.heap.size = r4 at *
  generalize hc10 : r4 + 1 = c10 at *
  clear hc10
  have T4 := hid (T3.out.trans u4 (by simp))
  have KX := hid (fun w' (h : Touch [] W4 w') => cells4_of (touch_blk0 h (touch_blk0 u4 X3.out)))
  have KY := hid (fun w' (h : Touch [] W4 w') => cells4_of (touch_blk0 h (touch_blk0 u4 Y3.out)))
  have KC := hid (fun w' (h : Touch [] W4 w') => cells_of (touch_blk0 h (touch_blk0 u4 C3.out)))
  have KD := hid (fun w' (h : Touch [] W4 w') => cells_of (touch_blk0 h C4.out))
  have QA := hid (fun w' (h : Touch [] W4 w') => PA.out w' r3 (nanE_row (touch_blk0 h (touch_blk0 u4 R3.out)) okA.out))
  have QB := hid (fun w' (h : Touch [] W4 w') => PB.out w' r4 (nanE_row (touch_blk0 h R4.out) okB.out))
  have QS := hid (fun w' (h : Touch [] W4 w') => SC.out w' r3 r4 (nanE_row (touch_blk0 h (touch_blk0 u4 R3.out)) okA.out) (nanE_row (touch_blk0 h R4.out) okB.out))
  clear PA PB SC T3 X3 Y3 R3 C3 R4 C4 u4 okA okB
  have tt : Touch [] W4 W4 := Touch.refl _ _
  obtain ⟨e0, e1, e2, e3, e4, e5, e6, e7⟩ := KC.out _ tt
  obtain ⟨f0, f1, f2, f3, f4, f5, f6, f7⟩ := KD.out _ tt
  go_upto_region 7 with (first
    | (go_at_call 16; with_reducible refine (QA.out _ (by assumption)).mono ?_; rintro e w5 ⟨rfl, t5⟩; have tt := tt.trans t5 (by simp); obtain ⟨f0, f1, f2, f3, f4, f5, f6, f7⟩ := KD.out _ tt)
    | (go_at_call 16; with_reducible refine (QB.out _ (by assumption)).mono ?_; rintro e w6 ⟨rfl, t6⟩; have tt := tt.trans t6 (by simp)))
  clear e0 e1 e2 e3 e4 e5 e6 e7 f0 f1 f2 f3 f4 f5 f6 f7
  by_cases hid1 : id < 1
  · rw [if_pos hid1]
    go_wp2_with (go_at_call 11; refine (CA.out _).mono ?_; rintro e w7 ⟨rfl, t7⟩; have tt := tt.trans t7 (by simp))
    go_ret
    exact ⟨rfl, T4.out.trans tt (by simp)⟩
  rw [if_neg hid1]
  have hid2 : (1 : Int) ≤ id := by omega
  clear hid1
  obtain ⟨x0, x1, x2, x3⟩ := KX.out _ tt
  go_upto_region 11 with (go_at_call 33; with_reducible refine (CMn.out _).mono ?_; rintro e w7 ⟨rfl, rfl⟩)
  obtain ⟨W7, hW7⟩ : ∃ W7, W7 = w6.alloc (.cells #[.int .i64 id, .string ⟨#[116]⟩, .string ⟨#[]⟩, .float .f64 9223372036854775808] 32) := ⟨_, rfl⟩
  have u7 : Touch [] w6 W7 := by rw [hW7]; exact (Touch.refl [] w6).alloc _
  have Z7 : Hid (W7.heap[w6.heap.size]? = some (.cells #[.int .i64 id, .string ⟨#[116]⟩, .string ⟨#[]⟩, .float .f64 9223372036854775808] 32 (0, 0))) := by rw [hW7]; exact hid (heap_alloc_new w6 _)
  rw [← hW7]
  clear hW7 x0 x1 x2 x3
  generalize w6.heap.size = z15 at *
  have tt := tt.trans u7 (by simp)
  obtain ⟨x0, x1, x2, x3⟩ := KX.out _ tt
  go_upto_region 13 with fail
  obtain ⟨W8, hW8⟩ : ∃ W8, W8 = W7.alloc (.cells #[.int .i64 id, .string ⟨#[116]⟩, .string ⟨#[]⟩, .float .f64 0] 32) := ⟨_, rfl⟩
  have u8 : Touch [] W7 W8 := by rw [hW8]; exact (Touch.refl [] W7).alloc _
  have Z8 : Hid (W8.heap[W7.heap.size]? = some (.cells #[.int .i64 id, .string ⟨#[116]⟩, .string ⟨#[]⟩, .float .f64 0] 32 (0, 0))) := by rw [hW8]; exact hid (heap_alloc_new W7 _)
  rw [← hW8]
  clear hW8 x0 x1 x2 x3
  generalize W7.heap.size = w16 at *
  have tt := tt.trans u8 (by simp)
  have KZ := hid (fun w' (h : Touch [] W8 w') => cells4_of (touch_blk0 h (touch_blk0 u8 Z7.out)))
  have KW := hid (fun w' (h : Touch [] W8 w') => cells4_of (touch_blk0 h Z8.out))
  have vv : Touch [] W8 W8 := Touch.refl _ _
  clear QA QB u7 u8
  go_wp2_with (first
    | (go_at_call 11; refine (CA.out _).mono ?_; rintro e v1 ⟨rfl, t1⟩; have tt := tt.trans t1 (by simp); have vv := vv.trans t1 (by simp); obtain ⟨x0, x1, x2, x3⟩ := KX.out _ tt; obtain ⟨y0, y1, y2, y3⟩ := KY.out _ tt; obtain ⟨e0, e1, e2, e3, e4, e5, e6, e7⟩ := KC.out _ tt; obtain ⟨f0, f1, f2, f3, f4, f5, f6, f7⟩ := KD.out _ tt; obtain ⟨z0, z1, z2, z3⟩ := KZ.out _ vv; obtain ⟨w0, w1, w2, w3⟩ := KW.out _ vv)
    | (go_at_call 25; with_reducible refine (QS.out _ (by assumption)).mono ?_; rintro e v2 ⟨rfl, t2⟩; have tt := tt.trans t2 (by simp); have vv := vv.trans t2 (by simp); obtain ⟨x0, x1, x2, x3⟩ := KX.out _ tt; obtain ⟨y0, y1, y2, y3⟩ := KY.out _ tt; obtain ⟨e0, e1, e2, e3, e4, e5, e6, e7⟩ := KC.out _ tt; obtain ⟨f0, f1, f2, f3, f4, f5, f6, f7⟩ := KD.out _ tt; obtain ⟨z0, z1, z2, z3⟩ := KZ.out _ vv; obtain ⟨w0, w1, w2, w3⟩ := KW.out _ vv)
    | (go_at_call 14; with_reducible refine (SE.out _).mono ?_; rintro e v3 ⟨rfl, t3⟩; have tt := tt.trans t3 (by simp); have vv := vv.trans t3 (by simp); obtain ⟨x0, x1, x2, x3⟩ := KX.out _ tt; obtain ⟨y0, y1, y2, y3⟩ := KY.out _ tt; obtain ⟨e0, e1, e2, e3, e4, e5, e6, e7⟩ := KC.out _ tt; obtain ⟨f0, f1, f2, f3, f4, f5, f6, f7⟩ := KD.out _ tt; obtain ⟨z0, z1, z2, z3⟩ := KZ.out _ vv; obtain ⟨w0, w1, w2, w3⟩ := KW.out _ vv)
    | (go_at_call 14; with_reducible refine (SZ.out _).mono ?_; rintro e v4 ⟨rfl, t4⟩; have tt := tt.trans t4 (by simp)))
  go_ret
  exact ⟨by first | rfl | simp [hq], T4.out.trans tt (by simp)⟩

theorem walk_EventNaN (a : Int) (wa : (Lit.int .u64 a).wf = true) (b : Int) (wb : (Lit.int .u64 b).wf = true) (id : Int) (wi : (Lit.int .i64 id).wf = true) (w : World) :
    Calls Try.prog 6 #[.int .u64 a, .int .u64 b, .int .i64 id] w fun e w' => e = .returned (.bool true) ∧ Touch [] w w' := by
  obtain ⟨x, rfl, hx⟩ := u64_nat wa
  obtain ⟨y, rfl, hy⟩ := u64_nat wb
  obtain ⟨h0, h1⟩ := i64_range wi
  exact nan_walk x y id hx hy h0 h1 w
end Go.Proofs.Ytcihnfgfficmlaa
