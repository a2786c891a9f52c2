/- ChunkRooms, walked. -/
import Derived.Test.YtmaainnfflapiaaAl10
import Derived.Lib.MinMax
import Derived.Laws.MakeOwn
import Derived.Laws.OwnMore
namespace Go.Proofs.Ytmaainnfflapiaa
open Go.RowKit Go.Lib
set_option maxRecDepth 100000

theorem i64_range {x : Int} (h : (Lit.int .i64 x).wf = true) : -9223372036854775808 ≤ x ∧ x ≤ 9223372036854775807 := by
  have e1 : IntKind.i64.min = -9223372036854775808 := rfl
  have e2 : IntKind.i64.max = 9223372036854775807 := rfl
  simp only [Lit.wf, e1, e2, Bool.and_eq_true, decide_eq_true_eq] at h
  exact h
theorem make_zeros (n : Nat) (h : n ≤ 4000) : ∃ W : World → World, (∀ w, Touch [] w (W w)) ∧ (∀ w, (Instr.makeSlice 52 (.int .i64 n) (.int .i64 n)).run Try.prog w = .ok (.slice (some ⟨w.heap.size, 0, none⟩) n n) (W w)) ∧
    ∀ w, ∃ s : ByteArray, s.size = n ∧ (convert 52 9 (.slice (some ⟨w.heap.size, 0, none⟩) n n)).run Try.prog (W w) = .ok (.string s) (W w) := by
  obtain ⟨i0, hi, hz0, hz1, hz2⟩ := info_parts Try.infoByte
  refine ⟨fun w => w.alloc (.cells (madeCells #[.int .u8 0] n) tByte), fun w => (Touch.refl _ _).alloc _, fun w => ?_, fun w => ⟨bytesT (List.replicate n 0), by rw [bytesT_size, List.length_replicate], ?_⟩⟩
  · have hr := run_make (P := Try.prog) w 52 tByte i0 (.int .u8 0) Try.underlying52 hi hz0 .i64 .i64 (n : Int) (n : Int) (by omega) (Int.le_refl _) (by rw [hz2]; omega) (by omega)
    rw [hz1] at hr
    rw [show ((n : Int)).toNat = n by omega, Nat.mul_one] at hr
    exact hr
  · have hB : Bts tByte (w.alloc (.cells (madeCells #[.int .u8 0] n) tByte)) w.heap.size n (List.replicate n 0) := by
      refine ⟨madeCells #[.int .u8 0] n, (0, 0), heap_alloc_new w _, .inl (Nat.zero_le _), by rw [List.length_replicate]; exact Nat.le_refl _, by unfold maxLen; omega, size_madeCells _ _, ?_⟩
      rw [toList_madeCells_one, List.length_replicate, List.take_of_length_le (by rw [List.length_replicate]; exact Nat.le_refl _), List.map_replicate]
      rfl
    have hc := run_convert_bytes_back (P := Try.prog) (w.alloc (.cells (madeCells #[.int .u8 0] n) tByte)) 52 9 tByte ⟨w.heap.size, 0, none⟩ n (List.replicate n 0) rfl rfl rfl hB.cell
    rw [List.length_replicate] at hc
    exact hc
theorem walk_ChunkRooms (z : Int) (wz : (Lit.int .i64 z).wf = true) (u : Int) (wu : (Lit.int .i64 u).wf = true) (w : World) :
    Calls Try.prog 5 #[.int .i64 z, .int .i64 u] w fun e w' => e = .returned (.bool true) ∧ Touch [] w w' := by
  have hz := i64_range wz
  have hu := i64_range wu
  have AL := hid (fun w => alive10_true w)
  have RM := hid (fun w => room_any z u w hz hu)
  clear wz wu
  by_cases h1 : z < 0
  · go_enter Try.func5, Try.ntmps5
    go_wp2_with (go_at_call 7; refine (AL.out _).mono ?_; rintro e w1 ⟨rfl, t1⟩)
    go_ret
    exact ⟨rfl, t1⟩
  by_cases h2 : 1000000 < z
  · go_enter Try.func5, Try.ntmps5
    go_wp2_with (go_at_call 7; refine (AL.out _).mono ?_; rintro e w1 ⟨rfl, t1⟩)
    go_ret
    exact ⟨rfl, t1⟩
  by_cases h3 : u < 0
  · go_enter Try.func5, Try.ntmps5
    go_wp2_with (go_at_call 7; refine (AL.out _).mono ?_; rintro e w1 ⟨rfl, t1⟩)
    go_ret
    exact ⟨rfl, t1⟩
  by_cases h4 : z < u
  · go_enter Try.func5, Try.ntmps5
    go_wp2_with (go_at_call 7; refine (AL.out _).mono ?_; rintro e w1 ⟨rfl, t1⟩)
    go_ret
    exact ⟨rfl, t1⟩
  have w1 : wrap64 (z - u) = z - u := by unfold wrap64; omega
  by_cases h5 : z - u ≤ 13
  · have e0 : roomV z u = 0 := by unfold roomV; split <;> omega
    rw [e0] at RM
    clear hz hu e0
    go_enter Try.func5, Try.ntmps5
    go_wp2_with (first
      | (go_at_call 14; refine (RM.out _).mono ?_; rintro e w1 ⟨rfl, rfl⟩)
      | (go_at_call 7; refine (AL.out _).mono ?_; rintro e w2 ⟨rfl, t1⟩))
    go_ret
    exact ⟨rfl, t1⟩
  obtain ⟨n, hn⟩ : ∃ n : Nat, (n : Int) = roomV z u := ⟨(roomV z u).toNat, by unfold roomV; rw [if_neg (by omega)]; omega⟩
  have hn2 : (n : Int) = min (z - u - 13) 3999 := by rw [hn]; unfold roomV; rw [if_neg (by omega)]
  rw [← hn] at RM
  have n1 : (1 : Int) ≤ n := by omega
  have n2 : (n : Int) ≤ 3999 := by omega
  have n3 : (n : Int) + 13 ≤ z - u := by omega
  have n4 : (n : Int) = 3999 ∨ (n : Int) + 13 = z - u := by omega
  have R := hid (fun (s : ByteArray) (w : World) (hs : s.size = n) => show Calls Try.prog 10 #[.string s] w fun e w' => ∃ x : ByteArray, (x.size : Int) = n + 13 ∧ e = .returned (.tuple #[.string x, .int .i64 0]) ∧ Touch [] w w' by
    refine (record_any s w (by omega)).mono fun e w' h => ⟨recB s, ?_, ?_, h.2⟩
    · unfold recB
      rw [bytesT_size, frL_len, List.length_cons, list_len]
      omega
    · rw [h.1]
      unfold RecordV
      rw [if_neg (by omega)])
  obtain ⟨Wf, hWt, hmk, hcv⟩ := make_zeros n (by omega)
  obtain ⟨sf, hsf⟩ : ∃ sf : World → ByteArray, ∀ w, (sf w).size = n ∧ (convert 52 9 (.slice (some ⟨w.heap.size, 0, none⟩) n n)).run Try.prog (Wf w) = .ok (.string (sf w)) (Wf w) := ⟨fun w => Classical.choose (hcv w), fun w => Classical.choose_spec (hcv w)⟩
  have hcv2 : ∀ w, (convert 52 9 (.slice (some ⟨w.heap.size, 0, none⟩) n n)).run Try.prog (Wf w) = .ok (.string (sf w)) (Wf w) := fun w => (hsf w).2
  have R2 := hid (fun w w' => R.out (sf w) w' (hsf w).1)
  have HT := hid hWt
  have qn : ((n : Int) == 3999 || (n : Int) + 13 == z - u) = true := by simp; omega
  clear hn hn2 hz hu hcv hsf R hWt
  go_enter Try.func5, Try.ntmps5
  go_wp2_with (first
    | (go_at_call 14; refine (RM.out _).mono ?_; rintro e w1 ⟨rfl, rfl⟩)
    | (go_at_call 10; refine (R2.out _ _).mono ?_; rintro e w2 ⟨x, hx, rfl, t2⟩)
    | (go_at_call 7; refine (AL.out _).mono ?_; rintro e w3 ⟨rfl, t3⟩))
  all_goals go_ret
  all_goals refine ⟨?_, ((HT.out w).trans t2 (by simp)).trans t3 (by simp)⟩
  all_goals first | rfl | exact congrArg (fun b => Ending.returned (.bool b)) qn
end Go.Proofs.Ytmaainnfflapiaa
