/- What frame's functions tell. -/
import Derived.Test.YtmaainnfflapiaaRefAl
import Derived.Test.YtmaainnfflapiaaFrZ
namespace Go.Proofs.Ytmaainnfflapiaa
open Go.RowKit Go.Lib
set_option maxRecDepth 100000

theorem frPut_any (s : ByteArray) (w : World) (hs : s.size ≤ 1000000000) : Calls Try.prog 26 #[.string s] w fun e w' => e = .returned (.tuple #[.string (frB s), .int .i64 (frE s)]) ∧ Touch [] w w' := by
  unfold frB frE
  by_cases h : 4000 < s.size
  · rw [if_pos h, if_pos h]
    have q : (4000 : Int) < s.size := by omega
    clear h hs
    go_enter Try.func26, Try.ntmps26
    go_wp2
    go_ret2
    exact ⟨rfl, Touch.refl _ _⟩
  · rw [if_neg h, if_neg h]
    have q : (s.size : Int) ≤ 4000 := by omega
    have hl := list_len s
    have C1 := hid (fun w => laid_any s.size w (by omega))
    have h4b : (ByteArray.mk (be 4 s.size).toArray).size = 4 := by
      show (be 4 s.size).toArray.size = 4
      simp [be_length]
    have CS := hid (fun w => sum_bytes ⟨(be 4 s.size).toArray⟩ s w (by rw [h4b]; decide) (by unfold maxLen; omega))
    have e1 : (ByteArray.mk (be 4 s.size).toArray).data.toList = be 4 s.size := by simp
    rw [e1] at CS
    have hR : Hid ((((⟨(be 4 s.size).toArray⟩ : ByteArray) ++ ⟨(be 4 (crc (be 4 s.size ++ s.data.toList))).toArray⟩) ++ s) ++ ⟨(be 4 s.size).toArray⟩ = ⟨(frL s.data.toList).toArray⟩) := by
      have : ((((⟨(be 4 s.size).toArray⟩ : ByteArray) ++ ⟨(be 4 (crc (be 4 s.size ++ s.data.toList))).toArray⟩) ++ s) ++ ⟨(be 4 s.size).toArray⟩).data.toList = frL s.data.toList := by
        unfold frL
        rw [hl]
        simp
      exact hid (str_eq this)
    have h4c : (ByteArray.mk (be 4 (crc (be 4 s.size ++ s.data.toList))).toArray).size = 4 := by
      show (be 4 (crc (be 4 s.size ++ s.data.toList))).toArray.size = 4
      simp [be_length]
    generalize crc (be 4 s.size ++ s.data.toList) = k at *
    generalize (⟨(be 4 k).toArray⟩ : ByteArray) = B2 at *
    generalize (⟨(be 4 s.size).toArray⟩ : ByteArray) = B1 at *
    have c2 : ¬ 9223372036854775807 < B1.size + B2.size := by omega
    have c3 : ¬ 9223372036854775807 < (B1 ++ B2).size + s.size := by rw [ByteArray.size_append]; omega
    have c4 : ¬ 9223372036854775807 < (B1 ++ B2 ++ s).size + B1.size := by rw [ByteArray.size_append, ByteArray.size_append]; omega
    have c5 : ¬ 9223372036854775807 < B1.size + B2.size + s.size := by omega
    have c6 : ¬ 9223372036854775807 < B1.size + B2.size + s.size + B1.size := by omega
    clear h hs hl e1 h4b h4c
    go_enter Try.func26, Try.ntmps26
    go_wp2_with (first
      | (go_at_call 62; with_reducible refine (C1.out _).mono ?_; rintro e w1 ⟨rfl, t1⟩)
      | (go_at_call 63; with_reducible refine (CS.out _).mono ?_; rintro e w2 ⟨rfl, t2⟩))
    go_ret2
    exact ⟨by rw [← hR.out]; rfl, t1.trans t2 (by simp)⟩
theorem frFirst_any (b : ByteArray) (w : World) (hs : b.size ≤ 1000000000) : Calls Try.prog 65 #[.string b] w fun e w' => e = .returned (FirstV b) ∧ Touch [] w w' := by
  have hl := list_len b
  obtain ⟨n, hn⟩ : ∃ n, n = val (b.data.toList.take 4) := ⟨_, rfl⟩
  have S := hid (fun w => size_any b 0 n w hs (by omega) hn 0 (fun _ => rfl))
  have hV : FirstV b = .tuple #[.string (bytesT (firstOf b.data.toList).1), .int .i64 ((firstOf b.data.toList).2.1 : Int), .int .i64 (firstOf b.data.toList).2.2] := rfl
  unfold sizeV at S
  by_cases h1 : b.size < 12
  · have hf : firstOf b.data.toList = ([], 0, 5) := by unfold firstOf; rw [if_pos (by omega)]
    rw [hf] at hV
    rw [hV]
    rw [if_pos h1] at S
    clear hf hl h1 hs hn hV
    go_enter Try.func65, Try.ntmps65
    go_wp2_with (go_at_call 86; refine (S.out _).mono ?_; rintro e w1 ⟨rfl, t1⟩)
    go_ret3
    exact ⟨rfl, t1⟩
  rw [if_neg h1] at S
  by_cases h2 : 4000 < n
  · have hf : firstOf b.data.toList = ([], 0, 6) := by unfold firstOf; rw [if_neg (by omega), ← hn, if_pos h2]
    rw [hf] at hV
    rw [hV]
    rw [if_pos h2] at S
    clear hf hl h1 hs hn hV h2
    go_enter Try.func65, Try.ntmps65
    go_wp2_with (go_at_call 86; refine (S.out _).mono ?_; rintro e w1 ⟨rfl, t1⟩)
    go_ret3
    exact ⟨rfl, t1⟩
  rw [if_neg h2] at S
  by_cases h3 : b.size < n + 12
  · have hf : firstOf b.data.toList = ([], 0, 5) := by unfold firstOf; rw [if_neg (by omega), ← hn, if_neg h2, if_pos (by omega)]
    rw [hf] at hV
    rw [hV]
    rw [if_pos h3] at S
    clear hf hl h1 hs hn hV h2 h3
    go_enter Try.func65, Try.ntmps65
    go_wp2_with (go_at_call 86; refine (S.out _).mono ?_; rintro e w1 ⟨rfl, t1⟩)
    go_ret3
    exact ⟨rfl, t1⟩
  rw [if_neg h3] at S
  have hf := first_open hn h2 (by omega)
  have sl := sl_to b (n + 12) ((n + 12 : Nat) : Int) rfl (by omega)
  have ee : (b.extract 0 (n + 12)).data.toList = b.data.toList.take (n + 12) := by rw [extract_data]; simp
  have es : (b.extract 0 (n + 12)).size = n + 12 := by rw [← list_len, ee, List.length_take]; omega
  have O := hid (fun w => open_any (b.extract 0 (n + 12)) w (by omega) (by omega))
  unfold openV at O
  rw [ee, ← hf] at O
  rw [hV]
  generalize firstOf b.data.toList = R at *
  generalize b.extract 0 (n + 12) = x at *
  generalize ((n + 12 : Nat) : Int) = m at *
  clear hf hl h1 hs hn hV h2 h3 ee es
  go_enter Try.func65, Try.ntmps65
  go_wp2_with (first
    | (go_at_call 86; refine (S.out _).mono ?_; rintro e w1 ⟨rfl, t1⟩)
    | (go_at_call 87; refine (O.out _).mono ?_; rintro e w2 ⟨rfl, t2⟩))
  go_ret3
  exact ⟨rfl, t1.trans t2 (by simp)⟩
/-! ### alive -/
theorem frB_ok {s : ByteArray} (h : s.size ≤ 4000) : (frB s).data.toList = frL s.data.toList ∧ frE s = 0 ∧ (frB s).size = s.size + 12 := by
  have e : frB s = ⟨(frL s.data.toList).toArray⟩ := by unfold frB; rw [if_neg (by omega)]
  refine ⟨by rw [e], by unfold frE; rw [if_neg (by omega)], ?_⟩
  rw [e]
  show (frL s.data.toList).toArray.size = s.size + 12
  rw [List.size_toArray, frL_len, list_len]
def abT : ByteArray := ⟨#[97, 98]⟩
end Go.Proofs.Ytmaainnfflapiaa
