/- A nil disk's calls; DiskNone, walked. -/
import Derived.Test.YthibabfojndlkaaAl9
namespace Go.Proofs.Ythibabfojndlkaa
open Go.RowKit Go.Lib
set_option maxRecDepth 100000

theorem on_nil (w : World) : Calls Try.prog 24 #[.pointer none] w fun e w' => e = .returned (.bool false) ∧ w' = w := by
  go_enter Try.func24, Try.ntmps24
  go_wp2
  go_ret
  exact ⟨rfl, rfl⟩
theorem refuses_nil (nm : ByteArray) (w : World) : Calls Try.prog 35 #[.pointer none, .string nm] w fun e w' => e = .returned (.int .i64 14) ∧ w' = w := by
  have C := hid fun w => on_nil w
  go_enter Try.func35, Try.ntmps35
  go_wp2_with (first
    | (go_at_call 24; with_reducible refine (C.out _).mono ?_; rintro e w1 ⟨rfl, rfl⟩))
  go_ret
  exact ⟨rfl, rfl⟩
theorem place_nil (nm : ByteArray) (w : World) : Calls Try.prog 33 #[.pointer none, .string nm] w fun e w' => e = .returned (.tuple #[.int .i64 0, .int .i64 14]) ∧ w' = w := by
  have C := hid fun w => refuses_nil nm w
  go_enter Try.func33, Try.ntmps33
  go_wp2_with (first
    | (go_at_call 35; with_reducible refine (C.out _).mono ?_; rintro e w1 ⟨rfl, rfl⟩))
  go_ret2
  exact ⟨rfl, rfl⟩
theorem restore_nil (w : World) : Calls Try.prog 10 #[.pointer none] w fun e w' => e = .returned (.tuple #[]) ∧ w' = w := by
  go_enter Try.func10, Try.ntmps10
  go_wp2
  first | exact bodyPost_ret (results_none rfl _ _ _) rfl ⟨rfl, rfl⟩ | exact bodyPost_end (results_none rfl _ _ _) rfl ⟨rfl, rfl⟩
theorem arm_nil (n : Int) (v : Value) (w : World) : Calls Try.prog 11 #[.pointer none, .int .i64 n, v] w fun e w' => e = .returned (.tuple #[]) ∧ w' = w := by
  go_enter Try.func11, Try.ntmps11
  go_wp2
  first | exact bodyPost_ret (results_none rfl _ _ _) rfl ⟨rfl, rfl⟩ | exact bodyPost_end (results_none rfl _ _ _) rfl ⟨rfl, rfl⟩
theorem room_nil (n : Int) (w : World) : Calls Try.prog 12 #[.pointer none, .int .i64 n] w fun e w' => e = .returned (.tuple #[]) ∧ w' = w := by
  go_enter Try.func12, Try.ntmps12
  go_wp2
  first | exact bodyPost_ret (results_none rfl _ _ _) rfl ⟨rfl, rfl⟩ | exact bodyPost_end (results_none rfl _ _ _) rfl ⟨rfl, rfl⟩
theorem read_nil (nm : ByteArray) (a n : Int) (w : World) : Calls Try.prog 13 #[.pointer none, .string nm, .int .i64 a, .int .i64 n] w fun e w' => e = .returned (.tuple #[.string ⟨#[]⟩, .int .i64 14]) ∧ w' = w := by
  have C := hid fun w => place_nil nm w
  go_enter Try.func13, Try.ntmps13
  go_wp2_with (first
    | (go_at_call 33; with_reducible refine (C.out _).mono ?_; rintro e w1 ⟨rfl, rfl⟩))
  go_ret2
  exact ⟨rfl, rfl⟩
theorem size_nil (nm : ByteArray) (w : World) : Calls Try.prog 14 #[.pointer none, .string nm] w fun e w' => e = .returned (.tuple #[.int .i64 0, .int .i64 14]) ∧ w' = w := by
  have C := hid fun w => place_nil nm w
  go_enter Try.func14, Try.ntmps14
  go_wp2_with (first
    | (go_at_call 33; with_reducible refine (C.out _).mono ?_; rintro e w1 ⟨rfl, rfl⟩))
  go_ret2
  exact ⟨rfl, rfl⟩
theorem append_nil (nm s : ByteArray) (w : World) : Calls Try.prog 15 #[.pointer none, .string nm, .string s] w fun e w' => e = .returned (.int .i64 14) ∧ w' = w := by
  have C := hid fun w => refuses_nil nm w
  go_enter Try.func15, Try.ntmps15
  go_wp2_with (first
    | (go_at_call 35; with_reducible refine (C.out _).mono ?_; rintro e w1 ⟨rfl, rfl⟩))
  go_ret
  exact ⟨rfl, rfl⟩
theorem sync_nil (nm : ByteArray) (w : World) : Calls Try.prog 16 #[.pointer none, .string nm] w fun e w' => e = .returned (.int .i64 14) ∧ w' = w := by
  have C := hid fun w => place_nil nm w
  go_enter Try.func16, Try.ntmps16
  go_wp2_with (first
    | (go_at_call 33; with_reducible refine (C.out _).mono ?_; rintro e w1 ⟨rfl, rfl⟩))
  go_ret
  exact ⟨rfl, rfl⟩
theorem trunc_nil (nm : ByteArray) (n : Int) (w : World) : Calls Try.prog 17 #[.pointer none, .string nm, .int .i64 n] w fun e w' => e = .returned (.int .i64 14) ∧ w' = w := by
  have C := hid fun w => place_nil nm w
  go_enter Try.func17, Try.ntmps17
  go_wp2_with (first
    | (go_at_call 33; with_reducible refine (C.out _).mono ?_; rintro e w1 ⟨rfl, rfl⟩))
  go_ret
  exact ⟨rfl, rfl⟩
theorem rename_nil (nm nt : ByteArray) (w : World) : Calls Try.prog 18 #[.pointer none, .string nm, .string nt] w fun e w' => e = .returned (.int .i64 14) ∧ w' = w := by
  have C := hid fun w => refuses_nil nt w
  go_enter Try.func18, Try.ntmps18
  go_wp2_with (first
    | (go_at_call 35; with_reducible refine (C.out _).mono ?_; rintro e w1 ⟨rfl, rfl⟩))
  go_ret
  exact ⟨rfl, rfl⟩
theorem remove_nil (nm : ByteArray) (w : World) : Calls Try.prog 19 #[.pointer none, .string nm] w fun e w' => e = .returned (.int .i64 14) ∧ w' = w := by
  have C := hid fun w => place_nil nm w
  go_enter Try.func19, Try.ntmps19
  go_wp2_with (first
    | (go_at_call 33; with_reducible refine (C.out _).mono ?_; rintro e w1 ⟨rfl, rfl⟩))
  go_ret
  exact ⟨rfl, rfl⟩
theorem list_nil (p : ByteArray) (w : World) : Calls Try.prog 20 #[.pointer none, .string p] w fun e w' => e = .returned (.slice none 0 0) ∧ w' = w := by
  have C := hid fun w => on_nil w
  go_enter Try.func20, Try.ntmps20
  go_wp2_with (first
    | (go_at_call 24; with_reducible refine (C.out _).mono ?_; rintro e w1 ⟨rfl, rfl⟩))
  go_ret
  exact ⟨rfl, rfl⟩
theorem crash_nil (x : Option Addr) (n c : Nat) (w : World) : Calls Try.prog 21 #[.pointer none, .slice x n c] w fun e w' => e = .returned (.int .i64 0) ∧ w' = w := by
  have C := hid fun w => on_nil w
  go_enter Try.func21, Try.ntmps21
  go_wp2_with (first
    | (go_at_call 24; with_reducible refine (C.out _).mono ?_; rintro e w1 ⟨rfl, rfl⟩))
  go_ret
  exact ⟨rfl, rfl⟩
theorem used_nil (w : World) : Calls Try.prog 22 #[.pointer none] w fun e w' => e = .returned (.int .i64 0) ∧ w' = w := by
  go_enter Try.func22, Try.ntmps22
  go_wp2
  go_ret
  exact ⟨rfl, rfl⟩
theorem unsyn_nil (nm : ByteArray) (w : World) : Calls Try.prog 23 #[.pointer none, .string nm] w fun e w' => e = .returned (.int .i64 0) ∧ w' = w := by
  have C := hid fun w => place_nil nm w
  go_enter Try.func23, Try.ntmps23
  go_wp2_with (first
    | (go_at_call 33; with_reducible refine (C.out _).mono ?_; rintro e w1 ⟨rfl, rfl⟩))
  go_ret
  exact ⟨rfl, rfl⟩
theorem twin_nil (w : World) : Calls Try.prog 25 #[.pointer none] w fun e w' => e = .returned (.pointer none) ∧ w' = w := by
  go_enter Try.func25, Try.ntmps25
  go_wp2
  go_ret
  exact ⟨rfl, rfl⟩

set_option maxHeartbeats 2000000 in
theorem none_good (nm s : ByteArray) (n : Int) (w : World) (v : Int) (hw : wrap64 ((nm.size : Int) + (s.size : Int)) = v) (e1 : decide ((300 : Int) < v) = false) : Calls Try.prog 3 #[.string nm, .string s, .int .i64 n] w fun e w' => e = .returned (.bool true) ∧ Touch [] w w' := by
  have AL := hid fun w => alive_true w
  have CR := hid fun w => restore_nil w
  have CM := hid fun w => arm_nil n (.slice none 0 0) w
  have CO := hid fun w => room_nil n w
  have CE := hid fun w => read_nil nm 0 n w
  have CS := hid fun w => size_nil nm w
  have CA := hid fun w => append_nil nm s w
  have CY := hid fun w => sync_nil nm w
  have CT := hid fun w => trunc_nil nm n w
  have CN := hid fun w => rename_nil nm nm w
  have CV := hid fun w => remove_nil nm w
  have CL := hid fun w => list_nil ⟨#[]⟩ w
  have CU := hid fun w => used_nil w
  have CW := hid fun w => unsyn_nil nm w
  have CQ := hid fun w => on_nil w
  have CZ := hid fun w => twin_nil w
  have CC := hid fun x w => crash_nil x 1 1 w
  go_enter Try.func3, Try.ntmps3
  go_wp2_with (first
    | (go_at_call 10; with_reducible refine (CR.out _).mono ?_; rintro e w1 ⟨rfl, rfl⟩)
    | (go_at_call 11; with_reducible refine (CM.out _).mono ?_; rintro e w1 ⟨rfl, rfl⟩)
    | (go_at_call 12; with_reducible refine (CO.out _).mono ?_; rintro e w1 ⟨rfl, rfl⟩)
    | (go_at_call 13; with_reducible refine (CE.out _).mono ?_; rintro e w1 ⟨rfl, rfl⟩)
    | (go_at_call 14; with_reducible refine (CS.out _).mono ?_; rintro e w1 ⟨rfl, rfl⟩)
    | (go_at_call 15; with_reducible refine (CA.out _).mono ?_; rintro e w1 ⟨rfl, rfl⟩)
    | (go_at_call 16; with_reducible refine (CY.out _).mono ?_; rintro e w1 ⟨rfl, rfl⟩)
    | (go_at_call 17; with_reducible refine (CT.out _).mono ?_; rintro e w1 ⟨rfl, rfl⟩)
    | (go_at_call 18; with_reducible refine (CN.out _).mono ?_; rintro e w1 ⟨rfl, rfl⟩)
    | (go_at_call 19; with_reducible refine (CV.out _).mono ?_; rintro e w1 ⟨rfl, rfl⟩)
    | (go_at_call 20; with_reducible refine (CL.out _).mono ?_; rintro e w1 ⟨rfl, rfl⟩)
    | (go_at_call 22; with_reducible refine (CU.out _).mono ?_; rintro e w1 ⟨rfl, rfl⟩)
    | (go_at_call 23; with_reducible refine (CW.out _).mono ?_; rintro e w1 ⟨rfl, rfl⟩)
    | (go_at_call 24; with_reducible refine (CQ.out _).mono ?_; rintro e w1 ⟨rfl, rfl⟩)
    | (go_at_call 25; with_reducible refine (CZ.out _).mono ?_; rintro e w1 ⟨rfl, rfl⟩)
    | (go_at_call 21; with_reducible refine (CC.out _ _).mono ?_; rintro e w1 ⟨rfl, rfl⟩)
    | (go_at_call 9; with_reducible refine (AL.out _).mono ?_; rintro e w2 ⟨rfl, t2⟩; have T2 := hid t2; clear t2))
  go_ret
  exact ⟨rfl, T2.out.alloc _⟩
theorem walk_DiskNone (nm : ByteArray) (_hn : nm.size ≤ maxLen) (s : ByteArray) (_hs : s.size ≤ maxLen) (n : Int) (_hk : (Lit.int .i64 n).wf = true) (w : World) : Calls Try.prog 3 #[.string nm, .string s, .int .i64 n] w fun e w' => e = .returned (.bool true) ∧ Touch [] w w' := by
  obtain ⟨v, hw⟩ : ∃ v, wrap64 ((nm.size : Int) + (s.size : Int)) = v := ⟨_, rfl⟩
  by_cases h : 300 < v
  · have CA := hid fun w => alive_true w
    have e1 : decide ((300 : Int) < v) = true := by rw [decide_eq_true_eq]; exact h
    clear h
    go_enter Try.func3, Try.ntmps3
    go_wp2_with (go_at_call 9; with_reducible refine (CA.out _).mono ?_; rintro e w12 ⟨rfl, t12⟩; have T12 := hid t12; clear t12)
    go_ret
    exact ⟨rfl, T12.out⟩
  · exact none_good nm s n w v hw (by rw [decide_eq_false_iff_not]; exact h)
end Go.Proofs.Ythibabfojndlkaa
