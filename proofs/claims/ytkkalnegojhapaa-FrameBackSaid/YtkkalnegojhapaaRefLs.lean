/- The laws' own Last. -/
import Derived.Test.YtkkalnegojhapaaRefFs
namespace Go.Proofs.Ytkkalnegojhapaa
open Go.RowKit Go.Lib
set_option maxRecDepth 100000

def LastV (b : ByteArray) : Value := .tuple #[.string (bytesT (lastOf b.data.toList).1), .int .i64 ((lastOf b.data.toList).2.1 : Int), .int .i64 (lastOf b.data.toList).2.2]
set_option maxHeartbeats 1000000 in
theorem refLast_any (b : ByteArray) (w : World) (hs : b.size ≤ 1000000000) : Calls Try.prog 14 #[.string b] w fun e w' => e = .returned (LastV b) ∧ Touch [] w w' := by
  have hl := list_len b
  unfold LastV
  by_cases h1 : b.size < 12
  · have hf := hid (show lastOf b.data.toList = ([], 0, 5) by unfold lastOf; rw [if_pos (by omega)])
    have q1 : (b.size : Int) < 12 := by omega
    rw [hf.out]
    clear hf hl h1 hs
    go_enter Try.func14, Try.ntmps14
    go_wp2
    go_ret3
    exact ⟨rfl, Touch.refl _ _⟩
  have q1 : (12 : Int) ≤ b.size := by omega
  have hw1 : wrap64 ((b.size : Int) - 4) = ((b.size - 4 : Nat) : Int) := by unfold wrap64; omega
  have sl1 := sl_from b (b.size - 4) ((b.size - 4 : Nat) : Int) rfl (by omega)
  have e0 : (b.extract (b.size - 4) b.size).data.toList = b.data.toList.drop (b.size - 4) := by rw [extract_data]; exact List.take_of_length_le (by rw [List.length_drop]; omega)
  have s0 : (b.extract (b.size - 4) b.size).size = 4 := by rw [← list_len, e0, List.length_drop]; omega
  have V1 := hid (fun w => value_any (b.extract (b.size - 4) b.size) w s0)
  rw [e0] at V1
  obtain ⟨n, hn⟩ : ∃ n, n = val (b.data.toList.drop (b.size - 4)) := ⟨_, rfl⟩
  rw [← hn] at V1
  rw [← hl] at hn
  by_cases h2 : 4000 < n
  · have hf := hid (show lastOf b.data.toList = ([], 0, 6) by unfold lastOf; rw [if_neg (by omega), ← hn, if_pos h2])
    have q2 : (4000 : Int) < n := by omega
    rw [hf.out]
    clear hf hl h1 hs hn h2 e0 s0
    go_enter Try.func14, Try.ntmps14
    go_wp2_with (go_at_call 27; with_reducible refine (V1.out _).mono ?_; rintro e w1 ⟨rfl, t1⟩)
    go_ret3
    exact ⟨rfl, t1⟩
  have q2 : (n : Int) ≤ 4000 := by omega
  have hn0 : (0 : Int) ≤ n := by omega
  by_cases h3 : b.size < n + 12
  · have hf := hid (show lastOf b.data.toList = ([], 0, 5) by unfold lastOf; rw [if_neg (by omega), ← hn, if_neg h2, if_pos (by omega)])
    have q3 : (b.size : Int) < (n : Int) + 12 := by omega
    rw [hf.out]
    clear hf hl h1 hs hn h2 e0 s0 h3
    go_enter Try.func14, Try.ntmps14
    go_wp2_with (go_at_call 27; with_reducible refine (V1.out _).mono ?_; rintro e w1 ⟨rfl, t1⟩)
    go_ret3
    exact ⟨rfl, t1⟩
  have q3 : (n : Int) + 12 ≤ b.size := by omega
  have hw2 : wrap64 ((b.size : Int) - (n : Int)) = ((b.size - n : Nat) : Int) := by unfold wrap64; omega
  have hw3 : wrap64 (((b.size - n : Nat) : Int) - 12) = ((b.size - n - 12 : Nat) : Int) := by unfold wrap64; omega
  have sl2 := sl_from b (b.size - n - 12) ((b.size - n - 12 : Nat) : Int) rfl (by omega)
  have e2 : (b.extract (b.size - n - 12) b.size).data.toList = b.data.toList.drop (b.size - n - 12) := by rw [extract_data]; exact List.take_of_length_le (by rw [List.length_drop]; omega)
  have s2 : (b.extract (b.size - n - 12) b.size).size = n + 12 := by rw [← list_len, e2, List.length_drop]; omega
  have hf0 := hid (show lastOf b.data.toList = (if val ((b.data.toList.drop (b.size - n - 12)).take 4) ≠ n then ([], 0, 6) else firstOf (b.data.toList.drop (b.size - n - 12))) by unfold lastOf; rw [if_neg (by omega), ← hn, if_neg h2, if_neg (by omega), hl])
  rw [← e2] at hf0
  generalize b.extract (b.size - n - 12) b.size = c at *
  have sl3 := sl_to c 4 4 rfl (by omega)
  have e3 : (c.extract 0 4).data.toList = c.data.toList.take 4 := by rw [extract_data]; simp
  have hcl := list_len c
  have s3 : (c.extract 0 4).size = 4 := by rw [← list_len, e3, List.length_take]; omega
  have V2 := hid (fun w => value_any (c.extract 0 4) w s3)
  rw [e3] at V2
  obtain ⟨m, hm⟩ : ∃ m, m = val (c.data.toList.take 4) := ⟨_, rfl⟩
  rw [← hm] at V2 hf0
  have F := hid (fun w => refFirst_any c w (by omega))
  unfold FirstV at F
  clear hcl e3 s3 e2 s2 e0 s0 h1 hs hm h3 hn h2 hl
  by_cases h4 : m = n
  rotate_left
  · have hf := hid (hf0.out.trans (if_pos h4))
    have q4 : ((m : Int) != (n : Int)) = true := by simp; omega
    rw [hf.out]
    clear hf h4 hf0 F
    go_enter Try.func14, Try.ntmps14
    go_wp2_with (first | (go_at_call 27; with_reducible refine (V1.out _).mono ?_; rintro e w1 ⟨rfl, t1⟩) | (go_at_call 27; with_reducible refine (V2.out _).mono ?_; rintro e w2 ⟨rfl, t2⟩))
    go_ret3
    exact ⟨rfl, t1.trans t2 (by simp)⟩
  subst h4
  have hf := hid (hf0.out.trans (if_neg (by simp)))
  have q4 : ((m : Int) != (m : Int)) = false := by simp
  rw [hf.out]
  generalize firstOf c.data.toList = R at *
  clear hf hf0
  go_enter Try.func14, Try.ntmps14
  go_wp2_with (first | (go_at_call 27; with_reducible refine (V1.out _).mono ?_; rintro e w1 ⟨rfl, t1⟩) | (go_at_call 27; with_reducible refine (V2.out _).mono ?_; rintro e w2 ⟨rfl, t2⟩) | (go_at_call 12; refine (F.out _).mono ?_; rintro e w3 ⟨rfl, t3⟩))
  go_ret3
  exact ⟨rfl, (t1.trans t2 (by simp)).trans t3 (by simp)⟩
end Go.Proofs.Ytkkalnegojhapaa
