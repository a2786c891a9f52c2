/- The laws' own First. -/
import Derived.Test.YtmaainnfflapiaaRefFr
import Derived.OwnWalk
import Derived.Lib.Strings
import Derived.Laws.Strings2
import Derived.Laws.Slices
namespace Go.Proofs.Ytmaainnfflapiaa
open Go.RowKit Go.Lib
set_option maxRecDepth 100000

def FirstV (b : ByteArray) : Value := .tuple #[.string (bytesT (firstOf b.data.toList).1), .int .i64 ((firstOf b.data.toList).2.1 : Int), .int .i64 (firstOf b.data.toList).2.2]
theorem txt_ne {x y : ByteArray} (h : x.data.toList ≠ y.data.toList) : (x.toList == y.toList) = false := by
  rw [ByteArray.toList_eq, ByteArray.toList_eq, Bool.eq_false_iff]
  intro e
  exact h (eq_of_beq e)
theorem txt_same {x y : ByteArray} (h : x.data.toList = y.data.toList) : (x.toList == y.toList) = true := by
  rw [ByteArray.toList_eq, ByteArray.toList_eq, h]; simp

theorem sl_both (b : ByteArray) (lo hi : Nat) (i j : Int) (hi1 : i = lo) (hj : j = hi) (h1 : lo ≤ hi) (h2 : hi ≤ b.size) : ∀ w, (Instr.slice 9 (.string b) (some (.int .i64 i)) (some (.int .i64 j)) none).run Try.prog w = .ok (.string (b.extract lo hi)) w := fun w => by
  subst hi1 hj
  have h := run_slice_string (P := Try.prog) (w := w) 9 b .i64 .i64 (lo : Int) (hi : Int) (by kernel_rfl) (by omega) (by omega) (by omega)
  rw [show (lo : Int).toNat = lo by omega, show (hi : Int).toNat = hi by omega] at h
  exact h
theorem sl_to (b : ByteArray) (hi : Nat) (j : Int) (hj : j = hi) (h2 : hi ≤ b.size) : ∀ w, (Instr.slice 9 (.string b) none (some (.int .i64 j)) none).run Try.prog w = .ok (.string (b.extract 0 hi)) w := fun w => by
  subst hj
  have h := run_slice_string_h (P := Try.prog) w 9 b (by kernel_rfl) .i64 (hi : Int) (by omega) (by omega)
  rw [show (hi : Int).toNat = hi by omega] at h
  exact h
theorem sl_from (b : ByteArray) (lo : Nat) (i : Int) (hi1 : i = lo) (h2 : lo ≤ b.size) : ∀ w, (Instr.slice 9 (.string b) (some (.int .i64 i)) none none).run Try.prog w = .ok (.string (b.extract lo b.size)) w := fun w => by
  subst hi1
  have h := run_slice_string_l (P := Try.prog) w 9 b (by kernel_rfl) .i64 (lo : Int) (by omega) (by omega)
  rw [show (lo : Int).toNat = lo by omega] at h
  exact h

set_option maxHeartbeats 1000000 in
theorem refFirst_any (b : ByteArray) (w : World) (hs : b.size ≤ 1000000000) : Calls Try.prog 27 #[.string b] w fun e w' => e = .returned (FirstV b) ∧ Touch [] w w' := by
  have hl := list_len b
  unfold FirstV
  by_cases h1 : b.size < 12
  · have hf := hid (show firstOf b.data.toList = ([], 0, 5) by unfold firstOf; rw [if_pos (by omega)])
    have q1 : (b.size : Int) < 12 := by omega
    rw [hf.out]
    clear hf hl h1 hs
    go_enter Try.func27, Try.ntmps27
    go_wp2
    go_ret3
    exact ⟨rfl, Touch.refl _ _⟩
  have q1 : (12 : Int) ≤ b.size := by omega
  have q1b : (4 : Int) ≤ b.size := by omega
  have e0 : (b.extract 0 4).data.toList = b.data.toList.take 4 := by rw [extract_data]; simp
  have s0 : (b.extract 0 4).size = 4 := by rw [← list_len, e0, List.length_take]; omega
  have V1 := hid (fun w => value_any (b.extract 0 4) w s0)
  rw [e0] at V1
  obtain ⟨n, hn⟩ : ∃ n, n = val (b.data.toList.take 4) := ⟨_, rfl⟩
  rw [← hn] at V1
  by_cases h2 : 4000 < n
  · have hf := hid (show firstOf b.data.toList = ([], 0, 6) by unfold firstOf; rw [if_neg (by omega), ← hn, if_pos h2])
    have q2 : (4000 : Int) < n := by omega
    rw [hf.out]
    clear hf hl h1 hs hn h2 e0 s0
    go_enter Try.func27, Try.ntmps27
    go_wp2_with (go_at_call 28; refine (V1.out _).mono ?_; rintro e w1 ⟨rfl, t1⟩)
    go_ret3
    exact ⟨rfl, t1⟩
  have q2 : (n : Int) ≤ 4000 := by omega
  have hn0 : (0 : Int) ≤ n := by omega
  by_cases h3 : b.size < n + 12
  · have hf := hid (show firstOf b.data.toList = ([], 0, 5) by unfold firstOf; rw [if_neg (by omega), ← hn, if_neg h2, if_pos (by omega)])
    have q3 : (b.size : Int) < (n : Int) + 12 := by omega
    rw [hf.out]
    clear hf hl h1 hs hn h2 e0 s0 h3
    go_enter Try.func27, Try.ntmps27
    go_wp2_with (go_at_call 28; refine (V1.out _).mono ?_; rintro e w1 ⟨rfl, t1⟩)
    go_ret3
    exact ⟨rfl, t1⟩
  have q3 : (n : Int) + 12 ≤ b.size := by omega
  have q3b : (12 : Int) + n ≤ b.size := by omega
  have q3c : (8 : Int) + n ≤ b.size := by omega
  have sl1 := sl_both b (8 + n) (12 + n) (8 + (n : Int)) (12 + (n : Int)) (by omega) (by omega) (by omega) (by omega)
  have e2 : (b.extract (8 + n) (12 + n)).data.toList = (b.data.toList.drop (8 + n)).take 4 := by rw [extract_data, show 12 + n - (8 + n) = 4 by omega]
  have s2 : (b.extract (8 + n) (12 + n)).size = 4 := by rw [← list_len, e2, List.length_take, List.length_drop]; omega
  have V2 := hid (fun w => value_any (b.extract (8 + n) (12 + n)) w s2)
  rw [e2] at V2
  obtain ⟨m, hm⟩ : ∃ m, m = val ((b.data.toList.drop (8 + n)).take 4) := ⟨_, rfl⟩
  rw [← hm] at V2
  by_cases h4 : m = n
  rotate_left
  · have hf := hid (show firstOf b.data.toList = ([], 0, 6) by unfold firstOf; rw [if_neg (by omega), ← hn, if_neg h2, if_neg (by omega), ← hm, if_pos h4])
    have q4 : ((m : Int) != (n : Int)) = true := by simp; omega
    rw [hf.out]
    clear hf hl h1 hs hn h2 e0 s0 h3 hm h4 e2 s2
    go_enter Try.func27, Try.ntmps27
    go_wp2_with (first | (go_at_call 28; with_reducible refine (V1.out _).mono ?_; rintro e w1 ⟨rfl, t1⟩) | (go_at_call 28; with_reducible refine (V2.out _).mono ?_; rintro e w2 ⟨rfl, t2⟩))
    go_ret3
    exact ⟨rfl, t1.trans t2 (by simp)⟩
  subst h4
  have sl2 := sl_both b 8 (8 + m) 8 (8 + (m : Int)) (by omega) (by omega) (by omega) (by omega)
  have sl3 := sl_to b (m + 12) ((m : Int) + 12) (by omega) (by omega)
  have e3 : (b.extract 8 (8 + m)).data.toList = (b.data.toList.drop 8).take m := by rw [extract_data, show 8 + m - 8 = m by omega]
  have s3 : (b.extract 8 (8 + m)).size = m := by rw [← list_len, e3, List.length_take, List.length_drop]; omega
  have F := hid (fun w => refFrame_any (b.extract 8 (8 + m)) w (by omega))
  unfold frB frE at F
  rw [if_neg (by omega), if_neg (by omega), e3] at F
  have e4 : (b.extract 0 (m + 12)).data.toList = b.data.toList.take (m + 12) := by rw [extract_data]; simp
  have q4 : ((m : Int) != (m : Int)) = false := by simp
  by_cases h5 : frL ((b.data.toList.drop 8).take m) = b.data.toList.take (m + 12)
  rotate_left
  · have hf := hid (show firstOf b.data.toList = ([], 0, 7) by unfold firstOf; rw [if_neg (by omega), ← hn, if_neg h2, if_neg (by omega), ← hm, if_neg (by simp), if_pos h5])
    have q5 : (ByteArray.toList ⟨(frL ((b.data.toList.drop 8).take m)).toArray⟩ == (b.extract 0 (m + 12)).toList) = false := txt_ne (by rw [e4]; simpa using h5)
    generalize (⟨(frL ((b.data.toList.drop 8).take m)).toArray⟩ : ByteArray) = X at *
    rw [hf.out]
    clear hf hl h1 hs hn h2 e0 s0 h3 hm e2 s2 e3 s3 e4 h5
    go_enter Try.func27, Try.ntmps27
    go_wp2_with (first | (go_at_call 28; with_reducible refine (V1.out _).mono ?_; rintro e w1 ⟨rfl, t1⟩) | (go_at_call 28; with_reducible refine (V2.out _).mono ?_; rintro e w2 ⟨rfl, t2⟩) | (go_at_call 24; with_reducible refine (F.out _).mono ?_; rintro e w3 ⟨rfl, t3⟩))
    go_ret3
    exact ⟨rfl, (t1.trans t2 (by simp)).trans t3 (by simp)⟩
  have hf := hid (show firstOf b.data.toList = ((b.data.toList.drop 8).take m, m + 12, 0) by unfold firstOf; rw [if_neg (by omega), ← hn, if_neg h2, if_neg (by omega), ← hm, if_neg (by simp), if_neg (by simpa using h5)])
  have q5 : (ByteArray.toList ⟨(frL ((b.data.toList.drop 8).take m)).toArray⟩ == (b.extract 0 (m + 12)).toList) = true := txt_same (by rw [e4]; simpa using h5)
  generalize (⟨(frL ((b.data.toList.drop 8).take m)).toArray⟩ : ByteArray) = X at *
  have h6 := hid (str_eq e3)
  rw [hf.out]
  clear hf hl h1 hs hn h2 e0 s0 h3 hm e2 s2 e3 s3 e4 h5
  go_enter Try.func27, Try.ntmps27
  go_wp2_with (first | (go_at_call 28; with_reducible refine (V1.out _).mono ?_; rintro e w1 ⟨rfl, t1⟩) | (go_at_call 28; with_reducible refine (V2.out _).mono ?_; rintro e w2 ⟨rfl, t2⟩) | (go_at_call 24; with_reducible refine (F.out _).mono ?_; rintro e w3 ⟨rfl, t3⟩))
  go_ret3
  exact ⟨by unfold bytesT; rw [← h6.out]; rfl, (t1.trans t2 (by simp)).trans t3 (by simp)⟩
end Go.Proofs.Ytmaainnfflapiaa
