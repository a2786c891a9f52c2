/- chunk's Start, Record, Finish, Room. -/
import Derived.Test.YtmaainnfflapiaaFrm8
import Derived.Test.YtmaainnfflapiaaFrs
import Derived.Test.YtmaainnfflapiaaCk10
import Derived.Lib.MinMax
namespace Go.Proofs.Ytmaainnfflapiaa
open Go.RowKit Go.Lib
set_option maxRecDepth 100000

theorem word_nat {n : Nat} (h : n < 18446744073709551616) : wordOf (n : Int) = n := by unfold wordOf; omega
/-- What edge tells. -/
def edgeL (m : List UInt8) (n k : Nat) : List UInt8 := m ++ (be 8 n ++ be 8 k)
theorem edgeL_len (m : List UInt8) (n k : Nat) : (edgeL m n k).length = m.length + 16 := by simp [edgeL, be_length]
theorem edge_any (m : ByteArray) (n k : Nat) (w : World) (hm : m.size ≤ 100) (hn : n < 9223372036854775808) (hk : k < 9223372036854775808) :
    Calls Try.prog 23 #[.string m, .int .i64 n, .int .i64 k] w fun e w' => e = .returned (.tuple #[.string (bytesT (frL (edgeL m.data.toList n k))), .int .i64 0]) ∧ Touch [] w w' := by
  obtain ⟨W1, hW⟩ : ∃ W1, W1 = w.alloc (.cells #[.pointer none, .int .i64 0, .int .i64 0] tOut) := ⟨_, rfl⟩
  have R := hid (out_new w)
  rw [← hW] at R
  have T1 : Hid (Touch [] w W1) := by rw [hW]; exact hid ((Touch.refl [] w).alloc _)
  have C := hid (i64_st w.heap.size [w.heap.size] ([], 0) n W1 R.out (by decide))
  rw [word_nat (by omega), show pPut ([], 0) (be 8 n) = (be 8 n, 0) by simp [pPut]] at C
  have C2 := hid (fun F' w' (h : OutIs w' w.heap.size F' (be 8 n, 0)) => i64_st w.heap.size F' (be 8 n, 0) k w' h (by rw [be_length]; decide))
  rw [word_nat (by omega), show pPut (be 8 n, 0) (be 8 k) = (be 8 n ++ be 8 k, 0) by simp [pPut]] at C2
  have D := hid (fun F' w' (h : OutIs w' w.heap.size F' (be 8 n ++ be 8 k, 0)) => done_st w.heap.size F' (be 8 n ++ be 8 k, 0) w' h)
  rw [show pDone (be 8 n ++ be 8 k, 0) = .tuple #[.string (bytesT (be 8 n ++ be 8 k)), .int .i64 0] from by unfold pDone bytesT; simp] at D
  have hsz : (bytesT (be 8 n ++ be 8 k)).size = 16 := by rw [bytesT_size, List.length_append, be_length, be_length]
  have P := hid (fun w => frPut_any (m ++ bytesT (be 8 n ++ be 8 k)) w (by rw [ByteArray.size_append]; omega))
  have hB : frB (m ++ bytesT (be 8 n ++ be 8 k)) = bytesT (frL (edgeL m.data.toList n k)) := by
    unfold frB
    rw [if_neg (by rw [ByteArray.size_append]; omega)]
    unfold edgeL bytesT
    congr 3
    first | done | simp
  have hE : frE (m ++ bytesT (be 8 n ++ be 8 k)) = 0 := by
    unfold frE
    rw [if_neg (by rw [ByteArray.size_append]; omega)]
  rw [hB, hE] at P
  have hbd : ¬ 9223372036854775807 < m.size + (bytesT (be 8 n ++ be 8 k)).size := by omega
  generalize bytesT (frL (edgeL m.data.toList n k)) = Z at *
  generalize bytesT (be 8 n ++ be 8 k) = X at *
  generalize be 8 n ++ be 8 k = r2 at *
  generalize be 8 n = r1 at *
  have n0 : (0 : Int) ≤ n := by omega
  have k0 : (0 : Int) ≤ k := by omega
  clear R hB hE hm hn hk hsz
  simp only [tOut] at hW
  go_enter Try.func23, Try.ntmps23
  go_upto_region 2 with fail
  rw [← hW]
  clear hW
  go_wp2_with (first
    | (go_at_call 58; with_reducible refine C.out.mono ?_; rintro e w2 ⟨rfl, hp⟩; (have P2 := hid hp); clear hp)
    | (go_at_call 58; (obtain ⟨F', o2, t2, f2⟩ := P2.out); refine (C2.out F' _ o2).mono ?_; rintro e w3 ⟨rfl, hp⟩; (have T2 := hid (T1.out.trans t2 (fun f hf => .inr (by simp at hf; omega)))); (have P3 := hid hp); (have G2 := hid f2); clear o2 t2 f2 hp)
    | (go_at_call 59; (obtain ⟨F2, o3, t3, f3⟩ := P3.out); refine (D.out F2 _ o3).mono ?_; rintro e w4 ⟨rfl, n4, rfl⟩; (have T3 := hid (T2.out.trans t3 (fun f hf => .inr ((G2.out f hf).elim (fun h => by simp at h; omega) (fun h => Nat.le_trans T1.out.size h))))); clear o3 t3 f3)
    | (go_at_call 26; refine (P.out _).mono ?_; rintro e w5 ⟨rfl, t5⟩))
  go_ret2
  exact ⟨rfl, (T3.out.drewN n4).trans t5 (by simp)⟩
theorem edge_st (m : ByteArray) (n k : Nat) (w : World) (hm : m = bytesT [0, 67, 72, 78, 75]) (hn : n < 9223372036854775808) (hk : k < 9223372036854775808) :
    Calls Try.prog 23 #[.string m, .int .i64 n, .int .i64 k] w fun e w' => e = .returned (.tuple #[.string (bytesT (frL (stL n k))), .int .i64 0]) ∧ Touch [] w w' := by
  subst hm
  exact edge_any _ n k w (by decide) hn hk
theorem edge_fin (m : ByteArray) (n k : Nat) (w : World) (hm : m = bytesT [2, 68, 79, 78, 69]) (hn : n < 9223372036854775808) (hk : k < 9223372036854775808) :
    Calls Try.prog 23 #[.string m, .int .i64 n, .int .i64 k] w fun e w' => e = .returned (.tuple #[.string (bytesT (frL (finL n k))), .int .i64 0]) ∧ Touch [] w w' := by
  subst hm
  exact edge_any _ n k w (by decide) hn hk

/-! ### Start, Record, Finish, Room -/
def StartV (n z : Int) : Value := if n < 0 ∨ 999999 < n ∨ z < 100 ∨ 1000000 < z then .tuple #[.string ⟨#[]⟩, .int .i64 1] else .tuple #[.string (bytesT (frL (stL n.toNat z.toNat))), .int .i64 0]
def FinishV (n k : Int) : Value := if n < 0 ∨ 999999 < n ∨ k < 0 then .tuple #[.string ⟨#[]⟩, .int .i64 1] else .tuple #[.string (bytesT (frL (finL n.toNat k.toNat))), .int .i64 0]
def recB (s : ByteArray) : ByteArray := bytesT (frL (1 :: s.data.toList))
def RecordV (s : ByteArray) : Value := if 3999 < s.size then .tuple #[.string ⟨#[]⟩, .int .i64 2] else .tuple #[.string (recB s), .int .i64 0]
def roomV (z u : Int) : Int := if z < 0 ∨ u < 0 ∨ z - u < 13 then 0 else min (z - u - 13) 3999
theorem numbered_any (n : Int) (w : World) : Calls Try.prog 22 #[.int .i64 n] w fun e w' => e = .returned (.bool (decide (0 ≤ n ∧ n ≤ 999999))) ∧ w = w' := by
  by_cases h0 : 0 ≤ n
  · by_cases h1 : n ≤ 999999
    · rw [decide_eq_true ⟨h0, h1⟩]
      go_enter Try.func22, Try.ntmps22
      go_wp2
      go_ret
      exact ⟨rfl, rfl⟩
    · rw [decide_eq_false (fun h => h1 h.2)]
      go_enter Try.func22, Try.ntmps22
      go_wp2
      go_ret
      exact ⟨rfl, rfl⟩
  · rw [decide_eq_false (fun h => h0 h.1)]
    go_enter Try.func22, Try.ntmps22
    go_wp2
    go_ret
    exact ⟨rfl, rfl⟩
theorem start_any (n z : Int) (w : World) (hz : z ≤ 9223372036854775807) : Calls Try.prog 8 #[.int .i64 n, .int .i64 z] w fun e w' => e = .returned (StartV n z) ∧ Touch [] w w' := by
  have N := hid (fun w => numbered_any n w)
  unfold StartV
  by_cases hn : 0 ≤ n ∧ n ≤ 999999
  rotate_left
  · rw [decide_eq_false hn] at N
    rw [if_pos (by omega)]
    clear hn
    go_enter Try.func8, Try.ntmps8
    go_wp2_with (go_at_call 22; refine (N.out _).mono ?_; rintro e w1 ⟨rfl, rfl⟩)
    go_ret2
    exact ⟨rfl, Touch.refl _ _⟩
  rw [decide_eq_true hn] at N
  by_cases h1 : z < 100
  · rw [if_pos (by omega)]
    clear hn
    go_enter Try.func8, Try.ntmps8
    go_wp2_with (go_at_call 22; refine (N.out _).mono ?_; rintro e w1 ⟨rfl, rfl⟩)
    go_ret2
    exact ⟨rfl, Touch.refl _ _⟩
  by_cases h2 : 1000000 < z
  · rw [if_pos (by omega)]
    clear hn
    go_enter Try.func8, Try.ntmps8
    go_wp2_with (go_at_call 22; refine (N.out _).mono ?_; rintro e w1 ⟨rfl, rfl⟩)
    go_ret2
    exact ⟨rfl, Touch.refl _ _⟩
  rw [if_neg (by omega)]
  obtain ⟨a, rfl⟩ := Int.eq_ofNat_of_zero_le hn.1
  obtain ⟨b, rfl⟩ := Int.eq_ofNat_of_zero_le (show 0 ≤ z by omega)
  have E := hid (fun w m hm => edge_st m a b w hm (by omega) (by omega))
  rw [show ((a : Int)).toNat = a by omega, show ((b : Int)).toNat = b by omega]
  have q1 : (100 : Int) ≤ b := by omega
  have q2 : (b : Int) ≤ 1000000 := by omega
  generalize bytesT (frL (stL a b)) = Z at *
  clear h1 h2 hn hz
  go_enter Try.func8, Try.ntmps8
  go_wp2_with (first
    | (go_at_call 22; refine (N.out _).mono ?_; rintro e w1 ⟨rfl, rfl⟩)
    | (go_at_call 23; refine (E.out _ _ rfl).mono ?_; rintro e w2 ⟨rfl, t2⟩))
  go_ret2
  exact ⟨rfl, t2⟩
theorem finish_any (n k : Int) (w : World) (hk : k ≤ 9223372036854775807) : Calls Try.prog 12 #[.int .i64 n, .int .i64 k] w fun e w' => e = .returned (FinishV n k) ∧ Touch [] w w' := by
  have N := hid (fun w => numbered_any n w)
  unfold FinishV
  by_cases hn : 0 ≤ n ∧ n ≤ 999999
  rotate_left
  · rw [decide_eq_false hn] at N
    rw [if_pos (by omega)]
    clear hn
    go_enter Try.func12, Try.ntmps12
    go_wp2_with (go_at_call 22; refine (N.out _).mono ?_; rintro e w1 ⟨rfl, rfl⟩)
    go_ret2
    exact ⟨rfl, Touch.refl _ _⟩
  rw [decide_eq_true hn] at N
  by_cases h1 : k < 0
  · rw [if_pos (by omega)]
    clear hn
    go_enter Try.func12, Try.ntmps12
    go_wp2_with (go_at_call 22; refine (N.out _).mono ?_; rintro e w1 ⟨rfl, rfl⟩)
    go_ret2
    exact ⟨rfl, Touch.refl _ _⟩
  rw [if_neg (by omega)]
  obtain ⟨a, rfl⟩ := Int.eq_ofNat_of_zero_le hn.1
  obtain ⟨b, rfl⟩ := Int.eq_ofNat_of_zero_le (show 0 ≤ k by omega)
  have E := hid (fun w m hm => edge_fin m a b w hm (by omega) (by omega))
  rw [show ((a : Int)).toNat = a by omega, show ((b : Int)).toNat = b by omega]
  have q1 : (0 : Int) ≤ b := by omega
  generalize bytesT (frL (finL a b)) = Z at *
  clear h1 hn hk
  go_enter Try.func12, Try.ntmps12
  go_wp2_with (first
    | (go_at_call 22; refine (N.out _).mono ?_; rintro e w1 ⟨rfl, rfl⟩)
    | (go_at_call 23; refine (E.out _ _ rfl).mono ?_; rintro e w2 ⟨rfl, t2⟩))
  go_ret2
  exact ⟨rfl, t2⟩
theorem record_any (s : ByteArray) (w : World) (hs : s.size ≤ 1000000) : Calls Try.prog 10 #[.string s] w fun e w' => e = .returned (RecordV s) ∧ Touch [] w w' := by
  unfold RecordV
  by_cases h1 : 3999 < s.size
  · rw [if_pos h1]
    have q1 : (3999 : Int) < s.size := by omega
    clear h1 hs
    go_enter Try.func10, Try.ntmps10
    go_wp2
    go_ret2
    exact ⟨rfl, Touch.refl _ _⟩
  rw [if_neg h1]
  have q1 : (s.size : Int) ≤ 3999 := by omega
  have P := hid (fun (m : ByteArray) (w : World) (hm : m = bytesT [1]) => show Calls Try.prog 26 #[.string (m ++ s)] w fun e w' => e = .returned (.tuple #[.string (recB s), .int .i64 0]) ∧ Touch [] w w' by
    subst hm
    have h1s : (bytesT [1]).size = 1 := rfl
    have h := frPut_any (bytesT [1] ++ s) w (by rw [ByteArray.size_append]; omega)
    have hB : frB (bytesT [1] ++ s) = recB s := by
      unfold frB recB bytesT
      rw [if_neg (by rw [ByteArray.size_append]; show ¬ 4000 < 1 + s.size; omega)]
      simp
    have hE : frE (bytesT [1] ++ s) = 0 := by
      unfold frE
      rw [if_neg (by rw [ByteArray.size_append]; omega)]
    rwa [hB, hE] at h)
  generalize recB s = Z at *
  have c1 : ¬ 9223372036854775807 < 1 + s.size := by omega
  clear h1 hs
  go_enter Try.func10, Try.ntmps10
  go_wp2_with (go_at_call 26; refine (P.out _ _ rfl).mono ?_; rintro e w2 ⟨rfl, t2⟩)
  go_ret2
  exact ⟨rfl, t2⟩
theorem room_any (z u : Int) (w : World) (hz : -9223372036854775808 ≤ z ∧ z ≤ 9223372036854775807) (hu : -9223372036854775808 ≤ u ∧ u ≤ 9223372036854775807) : Calls Try.prog 14 #[.int .i64 z, .int .i64 u] w fun e w' => e = .returned (.int .i64 (roomV z u)) ∧ w = w' := by
  unfold roomV
  by_cases h1 : z < 0
  · rw [if_pos (by omega)]
    clear hz hu
    go_enter Try.func14, Try.ntmps14
    go_wp2
    go_ret
    exact ⟨rfl, rfl⟩
  by_cases h2 : u < 0
  · rw [if_pos (by omega)]
    clear hz hu
    go_enter Try.func14, Try.ntmps14
    go_wp2
    go_ret
    exact ⟨rfl, rfl⟩
  have q1 : 0 ≤ z := by omega
  have q2 : 0 ≤ u := by omega
  by_cases h3 : z - u ≤ 13
  · have e0 : (if z < 0 ∨ u < 0 ∨ z - u < 13 then (0 : Int) else min (z - u - 13) 3999) = 0 := by split <;> omega
    rw [e0]
    have q3 := h3
    have w1 : wrap64 (z - u) = z - u := by unfold wrap64; omega
    clear hz hu h1 h2 h3 e0
    go_enter Try.func14, Try.ntmps14
    go_wp2
    go_ret
    exact ⟨rfl, rfl⟩
  rw [if_neg (by omega)]
  have q3 : 13 < z - u := by omega
  have w1 : wrap64 (z - u) = z - u := by unfold wrap64; omega
  have w2 : wrap64 (z - u - 13) = z - u - 13 := by unfold wrap64; omega
  clear hz hu h1 h2 h3
  go_enter Try.func14, Try.ntmps14
  go_wp2
  go_ret
  exact ⟨rfl, rfl⟩
end Go.Proofs.Ytmaainnfflapiaa
