/- ChunkOther, walked. -/
import Derived.Test.YtmaainnfflapiaaAl10
namespace Go.Proofs.Ytmaainnfflapiaa
open Go.RowKit Go.Lib
set_option maxRecDepth 100000

theorem fin_same {a b k : Nat} (ha : a ≤ 999) (hb : b ≤ 999) (hk : k ≤ 9) : decide (finL b k = finL a 1) = decide (a = b ∧ k = 1) := by
  rw [decide_eq_decide]
  constructor
  · intro h
    have := finL_inj (by omega) (by omega) (by omega) (by omega) h
    exact ⟨this.1.symm, this.2⟩
  · rintro ⟨rfl, rfl⟩
    rfl
theorem other_out (a b k : Int) (s : ByteArray) (w : World) (h : a < 0 ∨ 999 < a ∨ b < 0 ∨ 999 < b ∨ k < 0 ∨ 9 < k ∨ (1000 : Int) < s.size) :
    Calls Try.prog 6 #[.int .i64 a, .int .i64 b, .int .i64 k, .string s] w fun e w' => e = .returned (.bool true) ∧ Touch [] w w' := by
  have AL := hid (fun w => alive10_true w)
  have hh : (if a < 0 then true else if 999 < a then true else if b < 0 then true else if 999 < b then true else if k < 0 then true else if 9 < k then true else decide ((1000 : Int) < s.size)) = true := by
    split
    · rfl
    split
    · rfl
    split
    · rfl
    split
    · rfl
    split
    · rfl
    split
    · rfl
    simp; omega
  clear h
  by_cases c1 : a < 0
  case' neg => by_cases c2 : 999 < a
  case' neg => by_cases c3 : b < 0
  case' neg => by_cases c4 : 999 < b
  case' neg => by_cases c5 : k < 0
  case' neg => by_cases c6 : 9 < k
  case' neg =>
    have c7 : (1000 : Int) < s.size := by
      rw [if_neg c1, if_neg c2, if_neg c3, if_neg c4, if_neg c5, if_neg c6] at hh
      simpa using hh
  all_goals
    clear hh
    go_enter Try.func6, Try.ntmps6
    go_wp2_with (go_at_call 7; refine (AL.out _).mono ?_; rintro e w1 ⟨rfl, t1⟩)
    go_ret
    exact ⟨rfl, t1⟩

set_option maxHeartbeats 4000000 in
theorem other_in (a b k : Nat) (s : ByteArray) (w : World) (ha : a ≤ 999) (hb : b ≤ 999) (hk : k ≤ 9) (hs : s.size ≤ 1000) :
    Calls Try.prog 6 #[.int .i64 a, .int .i64 b, .int .i64 k, .string s] w fun e w' => e = .returned (.bool true) ∧ Touch [] w w' := by
  have AL := hid (fun w => alive10_true w)
  have C1 := hid (fun w => start_any a 5000 w (by decide))
  rw [show StartV a 5000 = .tuple #[.string (bytesT (frL (stL a 5000))), .int .i64 0] from by unfold StartV; rw [if_neg (by omega)]; rfl] at C1
  have C2 := hid (fun w => record_any s w (by omega))
  rw [show RecordV s = .tuple #[.string (recB s), .int .i64 0] from by unfold RecordV; rw [if_neg (by omega)]] at C2
  have C3 := hid (fun w => finish_any b k w (by omega))
  rw [show FinishV b k = .tuple #[.string (bytesT (frL (finL b k))), .int .i64 0] from by unfold FinishV; rw [if_neg (by omega)]; rfl] at C3
  have s1 : (bytesT (frL (stL a 5000))).size = 33 := by rw [bytesT_size, frSt_len]
  have s2 : (recB s).size = s.size + 13 := by unfold recB; rw [bytesT_size, frL_len, List.length_cons, list_len]
  have s3 : (bytesT (frL (finL b k))).size = 33 := by rw [bytesT_size, frFin_len]
  have ea : (bytesT (frL (stL a 5000)) ++ recB s ++ bytesT (frL (finL b k))).data.toList = frL (stL a 5000) ++ (recs [s.data.toList] ++ (frL (finL b k) ++ [])) := by
    simp [bytesT, recs, recB]
  have C4 := hid (fun w => (read_any (bytesT (frL (stL a 5000)) ++ recB s ++ bytesT (frL (finL b k))) w (by rw [ByteArray.size_append, ByteArray.size_append]; omega)).mono fun e w' h => by
    rw [ea] at h
    have h2 := readV_some (begins_st (n := a) (z := 5000) (by omega) (by decide) (by decide) _) h
    rw [drop_st] at h2
    have h3 := rec_end [s.data.toList] (by simp; omega) a b k []
    have h4 : (recs [s.data.toList]).length = s.size + 13 := by simp [recs, frL_len]
    have h5 : doneAt a (recs [s.data.toList] ++ (frL (finL b k) ++ [])) = decide (a = b ∧ k = 1) := by rw [h3.2]; exact fin_same ha hb hk
    have h6 : goodAt a (recs [s.data.toList] ++ (frL (finL b k) ++ [])) = 33 + (s.size + 13) + (if decide (a = b ∧ k = 1) then 33 else 0) := by unfold goodAt; rw [h5, h3.1, h4]
    rw [h5, h6, h3.1] at h2
    exact h2)
  have c1 : ¬ 9223372036854775807 < (bytesT (frL (stL a 5000))).size + (recB s).size := by omega
  have c2 : ¬ 9223372036854775807 < (bytesT (frL (stL a 5000))).size + (recB s).size + (bytesT (frL (finL b k))).size := by omega
  have c3 : ¬ 9223372036854775807 < (bytesT (frL (stL a 5000)) ++ recB s).size + (bytesT (frL (finL b k))).size := by rw [ByteArray.size_append]; omega
  generalize bytesT (frL (stL a 5000)) = X1 at *
  generalize recB s = X2 at *
  generalize bytesT (frL (finL b k)) = X3 at *
  unfold ScanV at C4
  have i1 : (X1.size : Int) = 33 := by omega
  have i2 : (X2.size : Int) = (s.size : Int) + 13 := by omega
  have i3 : (X3.size : Int) = 33 := by omega
  have hsI : (s.size : Int) ≤ 1000 := by omega
  have a0 : (0 : Int) ≤ a := by omega
  have a1 : (a : Int) ≤ 999 := by omega
  have b0 : (0 : Int) ≤ b := by omega
  have b1 : (b : Int) ≤ 999 := by omega
  have k0 : (0 : Int) ≤ k := by omega
  have k1 : (k : Int) ≤ 9 := by omega
  have hss : (s.toList == s.toList) = true := by simp
  clear ea s1 s2 s3
  simp only [List.length_cons, List.length_nil, Nat.zero_add] at C4
  by_cases hd : a = b ∧ k = 1
  · rw [decide_eq_true hd] at C4
    obtain ⟨rfl, rfl⟩ := hd
    simp only [if_true] at C4
    have HC := hid (show ((33 + (s.size + 13) + 33 : Nat) : Int) = 33 + ((s.size : Int) + 13) + 33 by omega)
    rw [HC.out] at C4
    go_enter Try.func6, Try.ntmps6
    go_wp2_with (first
      | (go_at_call 8; refine (C1.out _).mono ?_; rintro e w1 ⟨rfl, t1⟩)
      | (go_at_call 10; refine (C2.out _).mono ?_; rintro e w2 ⟨rfl, t2⟩)
      | (go_at_call 12; refine (C3.out _).mono ?_; rintro e w3 ⟨rfl, t3⟩)
      | (go_at_call 17; refine (C4.out _).mono ?_; rintro e w4 ⟨y, c, rfl, ho, t4⟩; (obtain ⟨g, rfl, g1, _⟩ := text_at ho 0 (by simp)))
      | (go_at_call 7; refine (AL.out _).mono ?_; rintro e w5 ⟨rfl, t5⟩; (obtain ⟨⟨z0, z1, z2, z3, z4⟩, y0, y1, y2, y3, y4⟩ := five (touch_blk0 t5 (heap_alloc_new w4 (.cells #[.int .i64 a, .int .i64 5000, .slice (some ⟨g, 0, none⟩) 1 c, .int .i64 (33 + ((s.size : Int) + 13) + 33), .bool true] 43)))); (have g2 : w5.cell? ⟨g, 0, none⟩ = some (.string s) := (t5.cell (((Touch.refl [] w4).alloc _).cell g1)).trans (congrArg (fun x => some (Value.string x)) (bytesT_data s)))))
    go_ret
    exact ⟨rfl, (((((t1.trans t2 (by simp)).trans t3 (by simp)).trans t4 (by simp)).alloc _).trans t5 (by simp))⟩
  · rw [decide_eq_false hd] at C4
    simp only [Bool.false_eq_true, if_false, Nat.add_zero] at C4
    have HC := hid (show ((33 + (s.size + 13) : Nat) : Int) = 33 + ((s.size : Int) + 13) by omega)
    rw [HC.out] at C4
    by_cases hab : a = b
    · subst hab
      have hk1 : ((k : Int) == 1) = false := by simp; omega
      have hk2 : ¬ (k : Int) = 1 := by omega
      clear hd
      go_enter Try.func6, Try.ntmps6
      go_wp2_with (first
        | (go_at_call 8; refine (C1.out _).mono ?_; rintro e w1 ⟨rfl, t1⟩)
        | (go_at_call 10; refine (C2.out _).mono ?_; rintro e w2 ⟨rfl, t2⟩)
        | (go_at_call 12; refine (C3.out _).mono ?_; rintro e w3 ⟨rfl, t3⟩)
        | (go_at_call 17; refine (C4.out _).mono ?_; rintro e w4 ⟨y, c, rfl, ho, t4⟩; (obtain ⟨g, rfl, g1, _⟩ := text_at ho 0 (by simp)))
        | (go_at_call 7; refine (AL.out _).mono ?_; rintro e w5 ⟨rfl, t5⟩; (obtain ⟨⟨z0, z1, z2, z3, z4⟩, y0, y1, y2, y3, y4⟩ := five (touch_blk0 t5 (heap_alloc_new w4 (.cells #[.int .i64 a, .int .i64 5000, .slice (some ⟨g, 0, none⟩) 1 c, .int .i64 (33 + ((s.size : Int) + 13)), .bool false] 43)))); (have g2 : w5.cell? ⟨g, 0, none⟩ = some (.string s) := (t5.cell (((Touch.refl [] w4).alloc _).cell g1)).trans (congrArg (fun x => some (Value.string x)) (bytesT_data s)))))
      go_ret
      exact ⟨rfl, (((((t1.trans t2 (by simp)).trans t3 (by simp)).trans t4 (by simp)).alloc _).trans t5 (by simp))⟩
    · have hab1 : ((a : Int) == (b : Int)) = false := by simp; omega
      have hab2 : ¬ (a : Int) = b := by omega
      clear hd
      go_enter Try.func6, Try.ntmps6
      go_wp2_with (first
        | (go_at_call 8; refine (C1.out _).mono ?_; rintro e w1 ⟨rfl, t1⟩)
        | (go_at_call 10; refine (C2.out _).mono ?_; rintro e w2 ⟨rfl, t2⟩)
        | (go_at_call 12; refine (C3.out _).mono ?_; rintro e w3 ⟨rfl, t3⟩)
        | (go_at_call 17; refine (C4.out _).mono ?_; rintro e w4 ⟨y, c, rfl, ho, t4⟩; (obtain ⟨g, rfl, g1, _⟩ := text_at ho 0 (by simp)))
        | (go_at_call 7; refine (AL.out _).mono ?_; rintro e w5 ⟨rfl, t5⟩; (obtain ⟨⟨z0, z1, z2, z3, z4⟩, y0, y1, y2, y3, y4⟩ := five (touch_blk0 t5 (heap_alloc_new w4 (.cells #[.int .i64 a, .int .i64 5000, .slice (some ⟨g, 0, none⟩) 1 c, .int .i64 (33 + ((s.size : Int) + 13)), .bool false] 43)))); (have g2 : w5.cell? ⟨g, 0, none⟩ = some (.string s) := (t5.cell (((Touch.refl [] w4).alloc _).cell g1)).trans (congrArg (fun x => some (Value.string x)) (bytesT_data s)))))
      go_ret
      exact ⟨rfl, (((((t1.trans t2 (by simp)).trans t3 (by simp)).trans t4 (by simp)).alloc _).trans t5 (by simp))⟩
theorem walk_ChunkOther (a : Int) (wa : (Lit.int .i64 a).wf = true) (b : Int) (wb : (Lit.int .i64 b).wf = true) (k : Int) (wk : (Lit.int .i64 k).wf = true) (s : ByteArray) (_ws : s.size ≤ maxLen) (w : World) :
    Calls Try.prog 6 #[.int .i64 a, .int .i64 b, .int .i64 k, .string s] w fun e w' => e = .returned (.bool true) ∧ Touch [] w w' := by
  by_cases h : a < 0 ∨ 999 < a ∨ b < 0 ∨ 999 < b ∨ k < 0 ∨ 9 < k ∨ (1000 : Int) < s.size
  · exact other_out a b k s w h
  · obtain ⟨a, rfl⟩ := Int.eq_ofNat_of_zero_le (show 0 ≤ a by omega)
    obtain ⟨b, rfl⟩ := Int.eq_ofNat_of_zero_le (show 0 ≤ b by omega)
    obtain ⟨k, rfl⟩ := Int.eq_ofNat_of_zero_le (show 0 ≤ k by omega)
    exact other_in a b k s w (by omega) (by omega) (by omega) (by omega)
end Go.Proofs.Ytmaainnfflapiaa
