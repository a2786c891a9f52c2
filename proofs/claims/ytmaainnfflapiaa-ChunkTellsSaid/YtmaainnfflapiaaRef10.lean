/- The laws' own Start, Record, Finish, Room, by the same words. -/
import Derived.Test.YtmaainnfflapiaaChn10
namespace Go.Proofs.Ytmaainnfflapiaa
open Go.RowKit Go.Lib
set_option maxRecDepth 100000

theorem number8_any (v : Nat) (w : World) (x : Int) (hx : IntKind.u64.wrap x = (v : Int)) :
    Calls Try.prog 25 #[.int .i64 x, .int .i64 8] w fun e w' => e = .returned (.string (bytesT (be 8 v))) ∧ Touch [] w w' := by
  obtain ⟨W1, hW⟩ : ∃ W1, W1 = w.alloc (.cells #[.slice none 0 0, .int .i64 0] tROut) := ⟨_, rfl⟩
  have R := hid (rout_new w)
  rw [← hW] at R
  have T1 : Hid (Touch [] w W1) := by rw [hW]; exact hid ((Touch.refl [] w).alloc _)
  have C := hid (roNum_st w.heap.size [w.heap.size] ([], 0) 8 v W1 R.out (by decide) (by decide) (by decide))
  clear R
  simp only [tROut] at hW
  go_enter Try.func25, Try.ntmps25
  go_upto_region 2 with fail
  rw [← hW]
  clear hW
  go_wp2_with fail
  refine C.out.mono ?_
  rintro e w2 ⟨rfl, hp⟩
  rw [show pPut ([], 0) (be 8 v) = (be 8 v, 0) by simp [pPut]] at hp
  obtain ⟨G', ⟨va, h1, h2, _, _⟩, ht, _⟩ := hp
  have c0 : w2.cell? ⟨w.heap.size, 0, none⟩ = some va := cell_of h1 0
  have hconv : (convert 52 9 va).run Try.prog w2 = .ok (.string (bytesT (be 8 v))) w2 := by
    obtain ⟨hl, ⟨rfl, hn⟩ | ⟨g, cap, cur, rfl, _, hg, hle, hm, hs, ht⟩⟩ := h2
    · exact absurd hn (by simp [be_length])
    · refine run_convert_bytes_back w2 52 9 tByte ⟨g, 0, none⟩ cap (be 8 v) rfl rfl rfl (Bts.cell ⟨cur, (0, 0), hg, .inl (Nat.zero_le _), hle, hm, by simpa using hs, ?_⟩)
      have : (be 8 v).length * 1 = (be 8 v).length := Nat.mul_one _
      rw [this] at ht
      exact ht
  have T2 := hid (T1.out.trans ht (fun f hf => .inr (by simp at hf; omega)))
  clear h1 h2 ht C T1
  go_wp2
  go_ret
  exact ⟨rfl, T2.out⟩
theorem value_upto (s : ByteArray) (w : World) (hs : s.size ≤ 8) :
    Calls Try.prog 28 #[.string s] w fun e w' => e = .returned (.int .i64 (wrap64 (val s.data.toList))) ∧ Touch [] w w' := by
  have hl := list_len s
  have hi : iTake (s.data.toList, 0) s.size = (s.data.toList, ([], 0)) := by
    rw [iTake_good _ _ (by omega), List.take_of_length_le (by omega), List.drop_eq_nil_of_le (by omega)]
  have hsz : (s.size : Int) ≤ 8 := by omega
  obtain ⟨W1, hW⟩ : ∃ W1, W1 = w.alloc (.cells #[.string s, .int .i64 0] tRIn) := ⟨_, rfl⟩
  have R : Hid (RefIs W1 w.heap.size (s.data.toList, 0)) := by rw [hW]; exact hid ⟨s, heap_alloc_new w _, fun _ => rfl⟩
  have T1 : Hid (Touch [] w W1) := by rw [hW]; exact hid ((Touch.refl [] w).alloc _)
  have C := hid (rNum_st w.heap.size (s.data.toList, 0) s.size W1 R.out hs (by simp only []; omega))
  rw [hi] at C
  simp only [] at C
  generalize val s.data.toList = n at *
  clear hi hl R hs
  simp only [tRIn] at hW
  go_enter Try.func28, Try.ntmps28
  go_upto_region 2 with fail
  rw [← hW]
  clear hW
  go_wp2_with (go_at_call 64; refine C.out.mono ?_; rintro e w2 ⟨rfl, hp⟩)
  go_ret
  exact ⟨rfl, T1.out.trans hp.2 (fun f hf => .inr (by simp at hf; omega))⟩
theorem frame_edge (m : ByteArray) (n k : Nat) (w : World) (hm : m.size ≤ 100) :
    Calls Try.prog 24 #[.string (m ++ bytesT (be 8 n) ++ bytesT (be 8 k))] w fun e w' => e = .returned (.tuple #[.string (bytesT (frL (edgeL m.data.toList n k))), .int .i64 0]) ∧ Touch [] w w' := by
  have h1 : (bytesT (be 8 n)).size = 8 := by rw [bytesT_size, be_length]
  have h2 : (bytesT (be 8 k)).size = 8 := by rw [bytesT_size, be_length]
  have hz : (m ++ bytesT (be 8 n) ++ bytesT (be 8 k)).size = m.size + 16 := by rw [ByteArray.size_append, ByteArray.size_append]; omega
  have P := refFrame_any (m ++ bytesT (be 8 n) ++ bytesT (be 8 k)) w (by omega)
  have hB : frB (m ++ bytesT (be 8 n) ++ bytesT (be 8 k)) = bytesT (frL (edgeL m.data.toList n k)) := by
    unfold frB
    rw [if_neg (by omega)]
    unfold edgeL bytesT
    congr 3
    simp
  have hE : frE (m ++ bytesT (be 8 n) ++ bytesT (be 8 k)) = 0 := by
    unfold frE
    rw [if_neg (by omega)]
  rwa [hB, hE] at P

theorem refStart_any (n z : Int) (w : World) : Calls Try.prog 9 #[.int .i64 n, .int .i64 z] w fun e w' => e = .returned (StartV n z) ∧ Touch [] w w' := by
  unfold StartV
  by_cases h1 : n < 0
  · rw [if_pos (by omega)]
    go_enter Try.func9, Try.ntmps9
    go_wp2
    go_ret2
    exact ⟨rfl, Touch.refl _ _⟩
  by_cases h2 : 999999 < n
  · rw [if_pos (by omega)]
    go_enter Try.func9, Try.ntmps9
    go_wp2
    go_ret2
    exact ⟨rfl, Touch.refl _ _⟩
  by_cases h3 : z < 100
  · rw [if_pos (by omega)]
    go_enter Try.func9, Try.ntmps9
    go_wp2
    go_ret2
    exact ⟨rfl, Touch.refl _ _⟩
  by_cases h4 : 1000000 < z
  · rw [if_pos (by omega)]
    go_enter Try.func9, Try.ntmps9
    go_wp2
    go_ret2
    exact ⟨rfl, Touch.refl _ _⟩
  rw [if_neg (by omega)]
  obtain ⟨a, rfl⟩ := Int.eq_ofNat_of_zero_le (show 0 ≤ n by omega)
  obtain ⟨b, rfl⟩ := Int.eq_ofNat_of_zero_le (show 0 ≤ z by omega)
  rw [show ((a : Int)).toNat = a by omega, show ((b : Int)).toNat = b by omega]
  have N1 := hid (fun w => number8_any a w a (by rw [IntKind.wrap_u64]; omega))
  have N2 := hid (fun w => number8_any b w b (by rw [IntKind.wrap_u64]; omega))
  have F := hid (fun (m : ByteArray) (w : World) (hm : m = bytesT [0, 67, 72, 78, 75]) => show Calls Try.prog 24 #[.string (m ++ bytesT (be 8 a) ++ bytesT (be 8 b))] w fun e w' => e = .returned (.tuple #[.string (bytesT (frL (stL a b))), .int .i64 0]) ∧ Touch [] w w' by
    subst hm
    exact frame_edge (bytesT [0, 67, 72, 78, 75]) a b w (by decide))
  have s1 : (bytesT (be 8 a)).size = 8 := by rw [bytesT_size, be_length]
  have s2 : (bytesT (be 8 b)).size = 8 := by rw [bytesT_size, be_length]
  have a1 : (0 : Int) ≤ a := by omega
  have a2 : (a : Int) ≤ 999999 := by omega
  have a3 : (100 : Int) ≤ b := by omega
  have a4 : (b : Int) ≤ 1000000 := by omega
  generalize bytesT (frL (stL a b)) = Z at *
  generalize bytesT (be 8 a) = X1 at *
  generalize bytesT (be 8 b) = X2 at *
  have c1 : ¬ 9223372036854775807 < 5 + X1.size := by omega
  have c2 : ¬ 9223372036854775807 < 5 + X1.size + X2.size := by omega
  clear h1 h2 h3 h4 s1 s2
  go_enter Try.func9, Try.ntmps9
  go_wp2_with (first
    | (go_at_call 25; with_reducible refine (N1.out _).mono ?_; rintro e w1 ⟨rfl, t1⟩)
    | (go_at_call 25; with_reducible refine (N2.out _).mono ?_; rintro e w2 ⟨rfl, t2⟩)
    | (go_at_call 24; refine (F.out _ _ rfl).mono ?_; rintro e w3 ⟨rfl, t3⟩))
  go_ret2
  exact ⟨rfl, (t1.trans t2 (by simp)).trans t3 (by simp)⟩
theorem refFinish_any (n k : Int) (w : World) (hk : k ≤ 9223372036854775807) : Calls Try.prog 13 #[.int .i64 n, .int .i64 k] w fun e w' => e = .returned (FinishV n k) ∧ Touch [] w w' := by
  unfold FinishV
  by_cases h1 : n < 0
  · rw [if_pos (by omega)]
    go_enter Try.func13, Try.ntmps13
    go_wp2
    go_ret2
    exact ⟨rfl, Touch.refl _ _⟩
  by_cases h2 : 999999 < n
  · rw [if_pos (by omega)]
    go_enter Try.func13, Try.ntmps13
    go_wp2
    go_ret2
    exact ⟨rfl, Touch.refl _ _⟩
  by_cases h3 : k < 0
  · rw [if_pos (by omega)]
    go_enter Try.func13, Try.ntmps13
    go_wp2
    go_ret2
    exact ⟨rfl, Touch.refl _ _⟩
  rw [if_neg (by omega)]
  obtain ⟨a, rfl⟩ := Int.eq_ofNat_of_zero_le (show 0 ≤ n by omega)
  obtain ⟨b, rfl⟩ := Int.eq_ofNat_of_zero_le (show 0 ≤ k by omega)
  rw [show ((a : Int)).toNat = a by omega, show ((b : Int)).toNat = b by omega]
  have N1 := hid (fun w => number8_any a w a (by rw [IntKind.wrap_u64]; omega))
  have N2 := hid (fun w => number8_any b w b (by rw [IntKind.wrap_u64]; omega))
  have F := hid (fun (m : ByteArray) (w : World) (hm : m = bytesT [2, 68, 79, 78, 69]) => show Calls Try.prog 24 #[.string (m ++ bytesT (be 8 a) ++ bytesT (be 8 b))] w fun e w' => e = .returned (.tuple #[.string (bytesT (frL (finL a b))), .int .i64 0]) ∧ Touch [] w w' by
    subst hm
    exact frame_edge (bytesT [2, 68, 79, 78, 69]) a b w (by decide))
  have s1 : (bytesT (be 8 a)).size = 8 := by rw [bytesT_size, be_length]
  have s2 : (bytesT (be 8 b)).size = 8 := by rw [bytesT_size, be_length]
  have a1 : (0 : Int) ≤ a := by omega
  have a2 : (a : Int) ≤ 999999 := by omega
  have a3 : (0 : Int) ≤ b := by omega
  generalize bytesT (frL (finL a b)) = Z at *
  generalize bytesT (be 8 a) = X1 at *
  generalize bytesT (be 8 b) = X2 at *
  have c1 : ¬ 9223372036854775807 < 5 + X1.size := by omega
  have c2 : ¬ 9223372036854775807 < 5 + X1.size + X2.size := by omega
  clear h1 h2 h3 s1 s2
  go_enter Try.func13, Try.ntmps13
  go_wp2_with (first
    | (go_at_call 25; with_reducible refine (N1.out _).mono ?_; rintro e w1 ⟨rfl, t1⟩)
    | (go_at_call 25; with_reducible refine (N2.out _).mono ?_; rintro e w2 ⟨rfl, t2⟩)
    | (go_at_call 24; refine (F.out _ _ rfl).mono ?_; rintro e w3 ⟨rfl, t3⟩))
  go_ret2
  exact ⟨rfl, (t1.trans t2 (by simp)).trans t3 (by simp)⟩
theorem refRecord_any (s : ByteArray) (w : World) (hs : s.size ≤ 1000000) : Calls Try.prog 11 #[.string s] w fun e w' => e = .returned (RecordV s) ∧ Touch [] w w' := by
  unfold RecordV
  by_cases h1 : 3999 < s.size
  · rw [if_pos h1]
    have q1 : (3999 : Int) < s.size := by omega
    clear h1 hs
    go_enter Try.func11, Try.ntmps11
    go_wp2
    go_ret2
    exact ⟨rfl, Touch.refl _ _⟩
  rw [if_neg h1]
  have q1 : (s.size : Int) ≤ 3999 := by omega
  have P := hid (fun (m : ByteArray) (w : World) (hm : m = bytesT [1]) => show Calls Try.prog 24 #[.string (m ++ s)] w fun e w' => e = .returned (.tuple #[.string (recB s), .int .i64 0]) ∧ Touch [] w w' by
    subst hm
    have h1s : (bytesT [1]).size = 1 := rfl
    have h := refFrame_any (bytesT [1] ++ s) w (by rw [ByteArray.size_append]; omega)
    have hB : frB (bytesT [1] ++ s) = recB s := by
      unfold frB recB bytesT
      rw [if_neg (by rw [ByteArray.size_append]; show ¬ 4000 < 1 + s.size; omega)]
      simp
    have hE : frE (bytesT [1] ++ s) = 0 := by
      unfold frE
      rw [if_neg (by rw [ByteArray.size_append]; omega)]
    rwa [hB, hE] at h)
  generalize recB s = Z at *
  have c1 : ¬ 9223372036854775807 < 1 + s.size := by omega
  clear h1 hs
  go_enter Try.func11, Try.ntmps11
  go_wp2_with (go_at_call 24; refine (P.out _ _ rfl).mono ?_; rintro e w2 ⟨rfl, t2⟩)
  go_ret2
  exact ⟨rfl, t2⟩
theorem refRoom_any (z u : Int) (w : World) (hz : -9223372036854775808 ≤ z ∧ z ≤ 9223372036854775807) (hu : -9223372036854775808 ≤ u ∧ u ≤ 9223372036854775807) : Calls Try.prog 15 #[.int .i64 z, .int .i64 u] w fun e w' => e = .returned (.int .i64 (roomV z u)) ∧ w = w' := by
  unfold roomV
  by_cases h1 : z < 0
  · rw [if_pos (by omega)]
    clear hz hu
    go_enter Try.func15, Try.ntmps15
    go_wp2
    go_ret
    exact ⟨rfl, rfl⟩
  by_cases h2 : u < 0
  · rw [if_pos (by omega)]
    clear hz hu
    go_enter Try.func15, Try.ntmps15
    go_wp2
    go_ret
    exact ⟨rfl, rfl⟩
  have q1 : 0 ≤ z := by omega
  have q2 : 0 ≤ u := by omega
  by_cases h4 : z < u
  · rw [if_pos (by omega)]
    clear hz hu
    go_enter Try.func15, Try.ntmps15
    go_wp2
    go_ret
    exact ⟨rfl, rfl⟩
  have q4 : u ≤ z := by omega
  have w1 : wrap64 (z - u) = z - u := by unfold wrap64; omega
  by_cases h3 : z - u < 13
  · rw [if_pos (by omega)]
    clear hz hu h1 h2 h4
    go_enter Try.func15, Try.ntmps15
    go_wp2
    go_ret
    exact ⟨rfl, rfl⟩
  rw [if_neg (by omega)]
  have q3 : 13 ≤ z - u := by omega
  have w2 : wrap64 (z - u - 13) = z - u - 13 := by unfold wrap64; omega
  clear hz hu h1 h2 h3 h4
  go_enter Try.func15, Try.ntmps15
  go_wp2
  go_ret
  exact ⟨rfl, rfl⟩
end Go.Proofs.Ytmaainnfflapiaa
