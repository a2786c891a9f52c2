/- A nil and a zero log; what may not be opened; LogNone, walked. LogNone, walked. -/
import Derived.Test.YtjjocnkockeacaaGreatDoorZt
namespace Go.Proofs.YtjjocnkockeacaaGreatDoor
open Go.RowKit Go.Lib
set_option maxRecDepth 100000

theorem open_nil (p : ByteArray) (z : Int) (w : World) : Calls Tryz.prog 9 #[.pointer none, .string p, .int .i64 z] w fun e w' => e = .returned (.tuple #[.pointer none, .int .i64 1]) ∧ w' = w := by
  go_enter Tryz.func9, Tryz.ntmps9
  go_wp2
  go_ret2
  exact ⟨rfl, rfl⟩
theorem open_nameless (d : Nat) (z : Int) (w : World) : Calls Tryz.prog 9 #[.pointer (some ⟨d, 0, none⟩), .string ⟨#[]⟩, .int .i64 z] w fun e w' => e = .returned (.tuple #[.pointer none, .int .i64 1]) ∧ w' = w := by
  go_enter Tryz.func9, Tryz.ntmps9
  go_wp2
  go_ret2
  exact ⟨rfl, rfl⟩
theorem lappend_nil (v : Value) (w : World) : Calls Tryz.prog 11 #[.pointer none, v] w fun e w' => e = .returned (.tuple #[.int .i64 0, .int .i64 1]) ∧ w' = w := by
  have C := hid fun w => lrefuses_nil w
  go_enter Tryz.func11, Tryz.ntmps11
  go_wp2_with (go_at_call 35; refine (C.out _).mono ?_; rintro e w1 ⟨rfl, rfl⟩)
  go_ret2
  exact ⟨rfl, rfl⟩
theorem lappend_zero {b : Nat} (v : Value) {w : World} (h : w.cell? ⟨b, 0, none⟩ = some (.pointer none)) : Calls Tryz.prog 11 #[.pointer (some ⟨b, 0, none⟩), v] w fun e w' => e = .returned (.tuple #[.int .i64 0, .int .i64 1]) ∧ w' = w := by
  have C := hid (lrefuses_zero h)
  go_enter Tryz.func11, Tryz.ntmps11
  go_wp2_with (go_at_call 35; refine C.out.mono ?_; rintro e w1 ⟨rfl, rfl⟩)
  go_ret2
  exact ⟨rfl, rfl⟩
theorem lget_nil (n : Int) (w : World) : Calls Tryz.prog 12 #[.pointer none, .int .i64 n] w fun e w' => e = .returned (.tuple #[.string ⟨#[]⟩, .int .i64 1]) ∧ w' = w := by
  have C := hid fun w => lrefuses_nil w
  go_enter Tryz.func12, Tryz.ntmps12
  go_wp2_with (go_at_call 35; refine (C.out _).mono ?_; rintro e w1 ⟨rfl, rfl⟩)
  go_ret2
  exact ⟨rfl, rfl⟩
theorem lsync_nil (w : World) : Calls Tryz.prog 13 #[.pointer none] w fun e w' => e = .returned (.int .i64 1) ∧ w' = w := by
  have C := hid fun w => lrefuses_nil w
  go_enter Tryz.func13, Tryz.ntmps13
  go_wp2_with (go_at_call 35; refine (C.out _).mono ?_; rintro e w1 ⟨rfl, rfl⟩)
  go_ret
  exact ⟨rfl, rfl⟩
theorem ltrunc_nil (n : Int) (w : World) : Calls Tryz.prog 14 #[.pointer none, .int .i64 n] w fun e w' => e = .returned (.int .i64 1) ∧ w' = w := by
  have C := hid fun w => lrefuses_nil w
  go_enter Tryz.func14, Tryz.ntmps14
  go_wp2_with (go_at_call 35; refine (C.out _).mono ?_; rintro e w1 ⟨rfl, rfl⟩)
  go_ret
  exact ⟨rfl, rfl⟩
theorem lmark_nil (n : Int) (w : World) : Calls Tryz.prog 15 #[.pointer none, .int .i64 n] w fun e w' => e = .returned (.int .i64 1) ∧ w' = w := by
  have C := hid fun w => lrefuses_nil w
  go_enter Tryz.func15, Tryz.ntmps15
  go_wp2_with (go_at_call 35; refine (C.out _).mono ?_; rintro e w1 ⟨rfl, rfl⟩)
  go_ret
  exact ⟨rfl, rfl⟩
theorem lrewrite_nil (n : Int) (v : Value) (w : World) : Calls Tryz.prog 16 #[.pointer none, .int .i64 n, v] w fun e w' => e = .returned (.int .i64 1) ∧ w' = w := by
  have C := hid fun w => lrefuses_nil w
  go_enter Tryz.func16, Tryz.ntmps16
  go_wp2_with (go_at_call 35; refine (C.out _).mono ?_; rintro e w1 ⟨rfl, rfl⟩)
  go_ret
  exact ⟨rfl, rfl⟩
theorem llen_nil (w : World) : Calls Tryz.prog 17 #[.pointer none] w fun e w' => e = .returned (.int .i64 0) ∧ w' = w := by
  go_enter Tryz.func17, Tryz.ntmps17
  go_wp2
  go_ret
  exact ⟨rfl, rfl⟩
theorem llen_zero {b : Nat} {w : World} (h : w.cell? ⟨b, 6, none⟩ = some (.int .i64 0)) : Calls Tryz.prog 17 #[.pointer (some ⟨b, 0, none⟩)] w fun e w' => e = .returned (.int .i64 0) ∧ w' = w := by
  go_enter Tryz.func17, Tryz.ntmps17
  go_wp2
  go_ret
  exact ⟨rfl, rfl⟩
theorem lsynced_nil (w : World) : Calls Tryz.prog 18 #[.pointer none] w fun e w' => e = .returned (.int .i64 0) ∧ w' = w := by
  go_enter Tryz.func18, Tryz.ntmps18
  go_wp2
  go_ret
  exact ⟨rfl, rfl⟩
theorem lmarked_nil (w : World) : Calls Tryz.prog 19 #[.pointer none] w fun e w' => e = .returned (.int .i64 0) ∧ w' = w := by
  go_enter Tryz.func19, Tryz.ntmps19
  go_wp2
  go_ret
  exact ⟨rfl, rfl⟩
theorem lchunks_nil (w : World) : Calls Tryz.prog 22 #[.pointer none] w fun e w' => e = .returned (.slice none 0 0) ∧ w' = w := by
  go_enter Tryz.func22, Tryz.ntmps22
  go_wp2
  go_ret
  exact ⟨rfl, rfl⟩
theorem lbroken_nil (w : World) : Calls Tryz.prog 23 #[.pointer none] w fun e w' => e = .returned (.bool false) ∧ w' = w := by
  go_enter Tryz.func23, Tryz.ntmps23
  go_wp2
  go_ret
  exact ⟨rfl, rfl⟩
theorem lrange_nil (m : Int) (w : World) : Calls Tryz.prog 20 #[.pointer none, .int .i64 0, .int .i64 m] w fun e w' => e = .returned (.slice none 0 0) ∧ w' = w := by
  have C := hid fun w => llen_nil w
  go_enter Tryz.func20, Tryz.ntmps20
  go_wp2_with (go_at_call 17; refine (C.out _).mono ?_; rintro e w1 ⟨rfl, rfl⟩)
  go_ret
  exact ⟨rfl, rfl⟩
theorem lback_nil (n m : Int) (w : World) : Calls Tryz.prog 21 #[.pointer none, .int .i64 n, .int .i64 m] w fun e w' => e = .returned (.slice none 0 0) ∧ w' = w := by
  have C := hid fun w => llen_nil w
  have hm : decide (min n (-1) < 0) = true := decide_eq_true (by omega)
  go_enter Tryz.func21, Tryz.ntmps21
  go_wp2_with (go_at_call 17; refine (C.out _).mono ?_; rintro e w1 ⟨rfl, rfl⟩)
  go_ret
  exact ⟨rfl, rfl⟩
end Go.Proofs.YtjjocnkockeacaaGreatDoor

namespace Go.Proofs.YtjjocnkockeacaaGreatDoor
open Go.RowKit Go.Lib
set_option maxRecDepth 100000

set_option maxHeartbeats 2000000 in
theorem walk_LogNone (n : Int) (_hk : (Lit.int .i64 n).wf = true) (s : ByteArray) (_hs : s.size ≤ maxLen) (w : World) : Calls Tryz.prog 3 #[.int .i64 n, .string s] w fun e w' => e = .returned (.bool true) ∧ Touch [] w w' := by
  have AL := hid fun w => alive_true w
  by_cases h : 300 < s.size
  · have e1 : decide ((300 : Int) < (s.size : Int)) = true := decide_eq_true (by omega)
    clear h
    go_enter Tryz.func3, Tryz.ntmps3
    go_wp2_with (go_at_call 8; refine (AL.out _).mono ?_; rintro e w12 ⟨rfl, t12⟩; have T12 := hid t12; clear t12)
    go_ret
    exact ⟨rfl, T12.out⟩
  · have e1 : decide ((300 : Int) < (s.size : Int)) = false := decide_eq_false (by omega)
    clear h
    have CN := hid fun w => new_left 0 w
    have CO := hid fun w => open_nil ⟨#[112]⟩ 200 w
    have CP := hid fun d w => open_nameless d 200 w
    have CA := hid fun v w => lappend_nil v w
    have CZ := hid fun b v w (h : World.cell? w ⟨b, 0, none⟩ = some (.pointer none)) => lappend_zero v h
    have CG := hid fun w => lget_nil n w
    have CS := hid fun w => lsync_nil w
    have CT := hid fun w => ltrunc_nil n w
    have CM := hid fun w => lmark_nil n w
    have CR := hid fun w => lrewrite_nil n (.slice none 0 0) w
    have CL := hid fun w => llen_nil w
    have CLz := hid fun b w (h : World.cell? w ⟨b, 6, none⟩ = some (.int .i64 0)) => llen_zero h
    have CY := hid fun w => lsynced_nil w
    have CK := hid fun w => lmarked_nil w
    have CC := hid fun w => lchunks_nil w
    have CB := hid fun w => lbroken_nil w
    have CRa := hid fun w => lrange_nil n w
    have CBa := hid fun w => lback_nil n n w
    go_enter Tryz.func3, Tryz.ntmps3
    go_wp2_with fail
    refine (CO.out _).mono ?_
    rintro e w1 ⟨rfl, hw1⟩
    have z0 : w1.cell? ⟨w.heap.size, 0, none⟩ = some (.pointer none) := by rw [hw1]; exact cell_of (heap_alloc_new w _) 0
    have z6 : w1.cell? ⟨w.heap.size, 6, none⟩ = some (.int .i64 0) := by rw [hw1]; exact cell_of (heap_alloc_new w _) 6
    have T1 : Hid (Touch [] w w1) := hid (by rw [hw1]; exact (Touch.refl [] w).alloc _)
    clear hw1
    go_wp2_with fail
    refine (CN.out _).mono ?_
    rintro e w2 ⟨d, rfl, h2⟩
    have t2 : Touch [] w1 w2 := by obtain ⟨_, _, t, _⟩ := h2; exact t
    have T2 := hid (T1.out.trans t2 (by simp))
    replace z0 := t2.cell z0
    replace z6 := t2.cell z6
    clear h2 t2
    go_wp2_with (go_at_call 9; refine (CP.out _ _).mono ?_; rintro e w3 ⟨rfl, hw3⟩; rw [hw3])
    refine (CA.out _ _).mono ?_
    rintro e w3 ⟨rfl, hw3⟩
    have T3 : Hid (Touch [] w w3) := hid (by rw [hw3]; exact T2.out.alloc _)
    replace z0 : w3.cell? ⟨w.heap.size, 0, none⟩ = some (.pointer none) := by rw [hw3]; exact ((Touch.refl [] w2).alloc _).cell z0
    replace z6 : w3.cell? ⟨w.heap.size, 6, none⟩ = some (.int .i64 0) := by rw [hw3]; exact ((Touch.refl [] w2).alloc _).cell z6
    clear hw3 T1 T2
    go_wp2_with fail
    have z0' : ∀ o, (w3.alloc o).cell? ⟨w.heap.size, 0, none⟩ = some (.pointer none) := fun o => ((Touch.refl [] w3).alloc o).cell z0
    refine (CZ.out _ _ _ (z0' _)).mono ?_
    rintro e w4 ⟨rfl, hw4⟩
    have T4 : Hid (Touch [] w w4) := hid (by rw [hw4]; exact T3.out.alloc _)
    replace z6 : w4.cell? ⟨w.heap.size, 6, none⟩ = some (.int .i64 0) := by rw [hw4]; exact ((Touch.refl [] w3).alloc _).cell z6
    clear hw4 T3 z0 z0'
    go_wp2_with (first
      | (go_at_call 12; refine (CG.out _).mono ?_; rintro e w5 ⟨rfl, hw5⟩; rw [hw5])
      | (go_at_call 8; refine (AL.out _).mono ?_; rintro e w12 ⟨rfl, t12⟩; replace z6 := t12.cell z6; have T12 := hid (T4.out.trans t12 (by simp)); clear t12)
      | (go_at_call 13; refine (CS.out _).mono ?_; rintro e w5 ⟨rfl, hw5⟩; rw [hw5])
      | (go_at_call 14; refine (CT.out _).mono ?_; rintro e w5 ⟨rfl, hw5⟩; rw [hw5])
      | (go_at_call 15; refine (CM.out _).mono ?_; rintro e w5 ⟨rfl, hw5⟩; rw [hw5])
      | (go_at_call 16; refine (CR.out _).mono ?_; rintro e w5 ⟨rfl, hw5⟩; rw [hw5])
      | (go_at_call 17; first | (refine (CL.out _).mono ?_; rintro e w5 ⟨rfl, hw5⟩; rw [hw5]) | (refine (CLz.out _ _ z6).mono ?_; rintro e w5 ⟨rfl, hw5⟩; rw [hw5]))
      | (go_at_call 18; refine (CY.out _).mono ?_; rintro e w5 ⟨rfl, hw5⟩; rw [hw5])
      | (go_at_call 19; refine (CK.out _).mono ?_; rintro e w5 ⟨rfl, hw5⟩; rw [hw5])
      | (go_at_call 20; refine (CRa.out _).mono ?_; rintro e w5 ⟨rfl, hw5⟩; rw [hw5])
      | (go_at_call 21; refine (CBa.out _).mono ?_; rintro e w5 ⟨rfl, hw5⟩; rw [hw5])
      | (go_at_call 22; refine (CC.out _).mono ?_; rintro e w5 ⟨rfl, hw5⟩; rw [hw5])
      | (go_at_call 23; refine (CB.out _).mono ?_; rintro e w5 ⟨rfl, hw5⟩; rw [hw5]))
    go_ret
    exact ⟨rfl, T12.out⟩
end Go.Proofs.YtjjocnkockeacaaGreatDoor
