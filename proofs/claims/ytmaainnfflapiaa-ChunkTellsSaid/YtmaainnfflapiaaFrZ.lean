/- frame's sizeAt and open. -/
import Derived.Test.YtmaainnfflapiaaFrL
import Derived.Test.YtmaainnfflapiaaFrO
import Derived.Test.YtmaainnfflapiaaRefFs
import Derived.Test.YtmaainnfflapiaaCln
namespace Go.Proofs.Ytmaainnfflapiaa
open Go.RowKit Go.Lib
set_option maxRecDepth 100000

/-- What sizeAt tells: of a length n. -/
def sizeV (b : ByteArray) (n : Nat) : Value := if b.size < 12 then .tuple #[.int .i64 0, .int .i64 5] else if 4000 < n then .tuple #[.int .i64 0, .int .i64 6] else if b.size < n + 12 then .tuple #[.int .i64 0, .int .i64 5] else .tuple #[.int .i64 ((n + 12 : Nat) : Int), .int .i64 0]

theorem size_short (b : ByteArray) (p : Int) (n : Nat) (w : World) (h : b.size < 12) :
    Calls Try.prog 86 #[.string b, .int .i64 p] w fun e w' => e = .returned (sizeV b n) ∧ Touch [] w w' := by
  unfold sizeV
  rw [if_pos h]
  have q : (b.size : Int) < 12 := by omega
  clear h
  go_enter Try.func86, Try.ntmps86
  go_wp2
  go_ret2
  exact ⟨rfl, Touch.refl _ _⟩
theorem size_any (b : ByteArray) (k : Nat) (n : Nat) (w : World) (hs : b.size ≤ 1000000000) (hk : 12 ≤ b.size → k + 4 ≤ b.size) (hn : n = val ((b.data.toList.drop k).take 4)) (p : Int) (hp : 12 ≤ b.size → p = k) :
    Calls Try.prog 86 #[.string b, .int .i64 p] w fun e w' => e = .returned (sizeV b n) ∧ Touch [] w w' := by
  by_cases h1 : b.size < 12
  · exact size_short b p n w h1
  replace hk := hk (by omega)
  replace hp := hp (by omega)
  subst hp
  have hl := list_len b
  have sl := sl_both b k (k + 4) (k : Int) ((k : Int) + 4) rfl (by omega) (by omega) hk
  have es : (b.extract k (k + 4)).data.toList = (b.data.toList.drop k).take 4 := by rw [extract_data, show k + 4 - k = 4 by omega]
  have ls : ((b.data.toList.drop k).take 4).length = 4 := by rw [List.length_take, List.length_drop]; omega
  have N := hid fun (w1 : World) => newIn_any (b.extract k (k + 4)) w1
  rw [es] at N
  have U := hid fun (i : Nat) (w1 : World) (h : InIs w1 i ((b.data.toList.drop k).take 4, 0)) => inU32_st i ((b.data.toList.drop k).take 4, 0) w1 h
  rw [iTake_good _ 4 (by omega), List.take_of_length_le (Nat.le_of_eq ls), ← hn] at U
  simp only [] at U
  have hv : n < 4294967296 := by
    have h := val_lt ((b.data.toList.drop k).take 4)
    rw [ls, ← hn] at h
    exact h
  have q1 : (12 : Int) ≤ b.size := by omega
  have q0 : wrap64 ((k : Int) + 4) = (k : Int) + 4 := by unfold wrap64; omega
  have hV : Hid (sizeV b n = if 4000 < n then .tuple #[.int .i64 0, .int .i64 6] else if b.size < n + 12 then .tuple #[.int .i64 0, .int .i64 5] else .tuple #[.int .i64 ((n + 12 : Nat) : Int), .int .i64 0]) := hid (by unfold sizeV; rw [if_neg h1])
  rw [hV.out]
  generalize b.extract k (k + 4) = x at *
  generalize (b.data.toList.drop k).take 4 = L at *
  have n0 : (0 : Int) ≤ n := by omega
  clear hs hk hn es ls hl hv hV h1
  by_cases h2 : 4000 < n
  · rw [if_pos h2]
    have q2 : (4000 : Int) < n := by omega
    clear h2
    go_enter Try.func86, Try.ntmps86
    go_wp2_with (first
      | (go_at_call 67; refine (N.out _).mono ?_; rintro e w1 ⟨rfl, i1, t1⟩; (have I1 := hid i1); clear i1)
      | (go_at_call 95; refine (U.out _ _ I1.out).mono ?_; rintro e w2 ⟨rfl, p2⟩))
    go_ret2
    exact ⟨rfl, t1.trans p2.2 (fun f hf => .inr (by simp at hf; omega))⟩
  rw [if_neg h2]
  have q2 : (n : Int) ≤ 4000 := by omega
  by_cases h3 : b.size < n + 12
  · rw [if_pos h3]
    have q3 : (b.size : Int) < (n : Int) + 12 := by omega
    clear h2 h3
    go_enter Try.func86, Try.ntmps86
    go_wp2_with (first
      | (go_at_call 67; refine (N.out _).mono ?_; rintro e w1 ⟨rfl, i1, t1⟩; (have I1 := hid i1); clear i1)
      | (go_at_call 95; refine (U.out _ _ I1.out).mono ?_; rintro e w2 ⟨rfl, p2⟩))
    go_ret2
    exact ⟨rfl, t1.trans p2.2 (fun f hf => .inr (by simp at hf; omega))⟩
  · rw [if_neg h3]
    have q3 : (n : Int) + 12 ≤ b.size := by omega
    clear h2 h3
    go_enter Try.func86, Try.ntmps86
    go_wp2_with (first
      | (go_at_call 67; refine (N.out _).mono ?_; rintro e w1 ⟨rfl, i1, t1⟩; (have I1 := hid i1); clear i1)
      | (go_at_call 95; refine (U.out _ _ I1.out).mono ?_; rintro e w2 ⟨rfl, p2⟩))
    go_ret2
    exact ⟨rfl, t1.trans p2.2 (fun f hf => .inr (by simp at hf; omega))⟩

/-- What open tells. -/
def openV (c : ByteArray) : Value := .tuple #[.string (bytesT (openOf c.data.toList).1), .int .i64 ((openOf c.data.toList).2.1 : Int), .int .i64 (openOf c.data.toList).2.2]
theorem open_any (c : ByteArray) (w : World) (h1 : 12 ≤ c.size) (hs : c.size ≤ 1000000000) :
    Calls Try.prog 87 #[.string c] w fun e w' => e = .returned (openV c) ∧ Touch [] w w' := by
  have hl := list_len c
  have hw : wrap64 ((c.size : Int) - 4) = ((c.size - 4 : Nat) : Int) := by unfold wrap64; omega
  obtain ⟨m, hm⟩ : ∃ m, m = c.size - 4 := ⟨_, rfl⟩
  rw [← hm] at hw
  have sl1 := sl_to c 4 4 rfl (by omega)
  have sl2 := sl_both c 8 m 8 (m : Int) rfl rfl (by omega) (by omega)
  have sl3 := sl_from c m (m : Int) rfl (by omega)
  have sl4 := sl_both c 4 8 4 8 rfl rfl (by omega) (by omega)
  have e1 : (c.extract 0 4).data.toList = c.data.toList.take 4 := by rw [extract_data]; simp
  have e2 : (c.extract 8 m).data.toList = (c.data.toList.drop 8).take (c.data.toList.length - 12) := by rw [extract_data, hl, show m - 8 = c.size - 12 by omega]
  have e3 : (c.extract m c.size).data.toList = c.data.toList.drop (c.data.toList.length - 4) := by rw [extract_data, hl, hm]; exact List.take_of_length_le (by rw [List.length_drop]; omega)
  have e4 : (c.extract 4 8).data.toList = (c.data.toList.drop 4).take 4 := by rw [extract_data]
  have s1 : (c.extract 0 4).size = 4 := by rw [← list_len, e1, List.length_take]; omega
  have s2 : (c.extract 8 m).size ≤ 1000000000 := by rw [← list_len, e2, List.length_take, List.length_drop]; omega
  have S := hid fun (w1 : World) => sum_bytes (c.extract 0 4) (c.extract 8 m) w1 (by rw [s1]; decide) (by unfold maxLen; omega)
  have L := hid fun (w1 : World) => clone_any (c.extract 8 m) w1 (by omega)
  rw [e1, e2] at S
  have hV : openV c = .tuple #[.string (bytesT (openOf c.data.toList).1), .int .i64 ((openOf c.data.toList).2.1 : Int), .int .i64 (openOf c.data.toList).2.2] := rfl
  have q1 : (12 : Int) ≤ c.size := by omega
  have q2 : (m : Int) + 4 = c.size := by omega
  by_cases h6 : c.data.toList.take 4 = c.data.toList.drop (c.data.toList.length - 4)
  rotate_left
  · have ho : openOf c.data.toList = ([], 0, 6) := by unfold openOf; rw [if_pos h6]
    rw [ho] at hV
    have q6 : ((c.extract 0 4).toList == (c.extract m c.size).toList) = false := txt_ne (by rw [e1, e3]; exact h6)
    rw [hV]
    generalize c.extract 0 4 = x1 at *
    generalize c.extract 8 m = x2 at *
    generalize c.extract m c.size = x3 at *
    clear hs h1 hl hm e1 e2 e3 e4 s1 s2 S L hV h6 ho q2
    go_enter Try.func87, Try.ntmps87
    go_wp2
    go_quiet (fail)
    go_wp2
    go_ret3
    exact ⟨rfl, (Touch.refl _ _).drewN _⟩
  have q6 : ((c.extract 0 4).toList == (c.extract m c.size).toList) = true := txt_same (by rw [e1, e3]; exact h6)
  by_cases h7 : (c.data.toList.drop 4).take 4 = be 4 (crc (c.data.toList.take 4 ++ (c.data.toList.drop 8).take (c.data.toList.length - 12)))
  rotate_left
  · have ho : openOf c.data.toList = ([], 0, 7) := by unfold openOf; rw [if_neg (by simpa using h6), if_pos h7]
    rw [ho] at hV
    have q7 : ((c.extract 4 8).toList == ByteArray.toList ⟨(be 4 (crc (c.data.toList.take 4 ++ (c.data.toList.drop 8).take (c.data.toList.length - 12)))).toArray⟩) = false := txt_ne (by rw [e4]; simpa using h7)
    rw [hV]
    generalize (⟨(be 4 (crc (c.data.toList.take 4 ++ (c.data.toList.drop 8).take (c.data.toList.length - 12)))).toArray⟩ : ByteArray) = X at *
    generalize c.extract 0 4 = x1 at *
    generalize c.extract 8 m = x2 at *
    generalize c.extract m c.size = x3 at *
    generalize c.extract 4 8 = x4 at *
    clear hs h1 hl hm e1 e2 e3 e4 s1 s2 L hV h6 h7 ho q2
    go_enter Try.func87, Try.ntmps87
    go_wp2
    go_quiet (fail)
    go_wp2
    go_region_with (go_at_call 63; refine (S.out _).mono ?_; rintro e w1 ⟨rfl, t1⟩)
    all_goals go_wp2
    all_goals go_ret3
    all_goals exact ⟨rfl, ((Touch.refl _ _).drewN _).trans t1 (by simp)⟩
  have ho : openOf c.data.toList = ((c.data.toList.drop 8).take (c.data.toList.length - 12), c.data.toList.length, 0) := by unfold openOf; rw [if_neg (by simpa using h6), if_neg (by simpa using h7)]
  rw [ho] at hV
  have h8 := hid (str_eq e2)
  have q7 : ((c.extract 4 8).toList == ByteArray.toList ⟨(be 4 (crc (c.data.toList.take 4 ++ (c.data.toList.drop 8).take (c.data.toList.length - 12)))).toArray⟩) = true := txt_same (by rw [e4]; simpa using h7)
  rw [hV]
  simp only []
  unfold bytesT
  rw [← h8.out, hl]
  generalize (⟨(be 4 (crc (c.data.toList.take 4 ++ (c.data.toList.drop 8).take (c.data.toList.length - 12)))).toArray⟩ : ByteArray) = X at *
  generalize c.extract 0 4 = x1 at *
  generalize c.extract 8 m = x2 at *
  generalize c.extract m c.size = x3 at *
  generalize c.extract 4 8 = x4 at *
  clear hs h1 hl hm e1 e2 e3 e4 s1 s2 hV h6 h7 ho q2 h8
  go_enter Try.func87, Try.ntmps87
  go_wp2
  go_quiet (fail)
  go_wp2
  go_region_with (go_at_call 63; refine (S.out _).mono ?_; rintro e w1 ⟨rfl, t1⟩)
  all_goals go_wp2_with (go_at_call 96; refine (L.out _).mono ?_; rintro e w2 ⟨rfl, t2⟩)
  all_goals go_ret3
  all_goals exact ⟨rfl, (((Touch.refl _ _).drewN _).trans t1 (by simp)).trans t2 (by simp)⟩
end Go.Proofs.Ytmaainnfflapiaa
