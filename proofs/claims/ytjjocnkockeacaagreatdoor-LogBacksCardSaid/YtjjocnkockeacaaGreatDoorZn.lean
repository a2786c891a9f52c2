/- frame's own small functions: a number's bytes, a sum's bytes. What frame's open tells, as plain lists: First and Last by it. strings.Clone of a text. frame's sizeAt and open. -/
import Derived.Test.YtjjocnkockeacaaGreatDoorZm
import Derived.Test.YtjjocnkockeacaaGreatDoorZj
import Derived.Test.YtjjocnkockeacaaGreatDoorZk
import Derived.Test.YtjjocnkockeacaaGreatDoorZl
import Derived.Test.YtjjocnkockeacaaGreatDoorBase
import Derived.Test.YtjjocnkockeacaaGreatDoorShelf
namespace Go.Proofs.YtjjocnkockeacaaGreatDoor
open Go.RowKit Go.Lib
set_option maxRecDepth 100000

theorem out_new (w : World) : OutIs (w.alloc (.cells #[.pointer none, .int .i64 0, .int .i64 0] tOut)) w.heap.size [w.heap.size] ([], 0) := .inl ⟨rfl, .inl ⟨heap_alloc_new w _, rfl, rfl⟩⟩

theorem laid_any (v : Nat) (w : World) (hv : v < 4294967296) :
    Calls Tryz.prog 119 #[.int .i64 v] w fun e w' => e = .returned (.string ⟨(be 4 v).toArray⟩) ∧ Touch [] w w' := by
  obtain ⟨W1, hW⟩ : ∃ W1, W1 = w.alloc (.cells #[.pointer none, .int .i64 0, .int .i64 0] tOut) := ⟨_, rfl⟩
  have R := hid (out_new w)
  rw [← hW] at R
  have T1 : Hid (Touch [] w W1) := by rw [hW]; exact hid ((Touch.refl [] w).alloc _)
  have C := hid (u32_st w.heap.size [w.heap.size] ([], 0) v W1 R.out (by decide))
  have hp : pSmall 4 ([], 0) (v : Int) = (be 4 v, 0) := by unfold pSmall; rw [if_neg (by omega)]; simp [pPut]
  rw [hp] at C
  have D := hid (fun F' w' (h : OutIs w' w.heap.size F' (be 4 v, 0)) => done_st w.heap.size F' (be 4 v, 0) w' h)
  rw [show pDone (be 4 v, 0) = .tuple #[.string ⟨(be 4 v).toArray⟩, .int .i64 0] from by unfold pDone; simp] at D
  generalize be 4 v = r at *
  clear hv R hp
  simp only [tOut] at hW
  go_enter Tryz.func119, Tryz.ntmps119
  go_upto_region 2 with fail
  rw [← hW]
  clear hW
  go_wp2_with (first
    | (go_at_call 144; refine C.out.mono ?_; rintro e w2 ⟨rfl, hp⟩; (have P2 := hid hp); clear hp)
    | (go_at_call 90; (obtain ⟨F', o2, t2, f2⟩ := P2.out); refine (D.out F' _ o2).mono ?_; rintro e w3 ⟨rfl, n, rfl⟩; (have T2 := hid (T1.out.trans t2 (fun f hf => .inr (by simp at hf; omega)))); clear o2 t2 f2))
  go_ret
  exact ⟨rfl, T2.out.drewN n⟩
theorem texts_two (w : World) (a b : ByteArray) (ha : a.size ≤ maxLen) (hb : b.size ≤ maxLen) : TextsAt (w.alloc (.cells #[.string a, .string b] 9)) w.heap.size 0 [a, b] := by
  intro i h
  have hh := heap_alloc_new w (.cells #[.string a, .string b] 9)
  rw [Nat.zero_add, cell_of hh i]
  match i, h with
  | 0, _ => exact ⟨rfl, ha⟩
  | 1, _ => exact ⟨rfl, hb⟩
  | k + 2, hk => simp at hk; omega
theorem sum_bytes (a b : ByteArray) (w : World) (ha : a.size ≤ maxLen) (hb : b.size ≤ maxLen) :
    Calls Tryz.prog 120 #[.string a, .string b] w fun e w' => e = .returned (.string ⟨(be 4 (crc (a.data.toList ++ b.data.toList))).toArray⟩) ∧ Touch [] w w' := by
  have E := hid fun (w1 : World) => sum_some w1.heap.size 0 2 [a, b] (w1.alloc (.cells #[.string a, .string b] 9)) (by simp) (texts_two w1 _ _ ha hb)
  have ec : cat [a, b] = a.data.toList ++ b.data.toList := by simp [cat]
  rw [ec] at E
  have hk := crc_lt (a.data.toList ++ b.data.toList)
  generalize crc (a.data.toList ++ b.data.toList) = k at *
  have L := hid fun (w1 : World) => laid_any k w1 hk
  have hw : IntKind.i64.wrap (k : Int) = (k : Int) := by rw [IntKind.wrap_i64]; omega
  generalize (be 4 k) = r at *
  clear ha hb ec hk
  simp only [List.length_cons, List.length_nil] at E
  go_enter Tryz.func120, Tryz.ntmps120
  go_wp2_with (first
    | (go_at_call 145; refine (E.out _).mono ?_; rintro e w1 ⟨rfl, t1⟩)
    | (go_at_call 119; refine (L.out _).mono ?_; rintro e w2 ⟨rfl, t2⟩))
  go_ret
  exact ⟨rfl, (((Touch.refl _ _).alloc _).trans t1 (by simp)).trans t2 (by simp)⟩
end Go.Proofs.YtjjocnkockeacaaGreatDoor

namespace Go.Proofs.YtjjocnkockeacaaGreatDoor
open Go.RowKit Go.Lib
set_option maxRecDepth 100000

def openOf (l : List UInt8) : List UInt8 × Nat × Int :=
  if l.take 4 ≠ l.drop (l.length - 4) then ([], 0, 6)
  else if (l.drop 4).take 4 ≠ be 4 (crc (l.take 4 ++ (l.drop 8).take (l.length - 12))) then ([], 0, 7)
  else ((l.drop 8).take (l.length - 12), l.length, 0)

theorem val_same {a b : List UInt8} (ha : a.length = 4) (hb : b.length = 4) : val a = val b ↔ a = b := by
  constructor
  · intro h
    rw [← be_val a, ← be_val b, h, ha, hb]
  · intro h; rw [h]
theorem four_parts (c : List UInt8) (n : Nat) : c = c.take 4 ++ ((c.drop 4).take 4 ++ ((c.drop 8).take n ++ c.drop (n + 8))) := by
  have e1 : c.drop 8 = (c.drop 4).drop 4 := by rw [List.drop_drop]
  have e2 : c.drop (n + 8) = (c.drop 8).drop n := by rw [List.drop_drop, Nat.add_comm]
  rw [e2, List.take_append_drop, e1, List.take_append_drop, List.take_append_drop]
theorem first_open {b : List UInt8} {n : Nat} (hn : n = val (b.take 4)) (h1 : ¬ 4000 < n) (h2 : n + 12 ≤ b.length) : firstOf b = openOf (b.take (n + 12)) := by
  obtain ⟨c, hc⟩ : ∃ c, c = b.take (n + 12) := ⟨_, rfl⟩
  have hcl : c.length = n + 12 := by rw [hc, List.length_take]; omega
  have e4 : b.take 4 = c.take 4 := by rw [hc, List.take_take, Nat.min_eq_left (by omega)]
  have e8 : (b.drop (8 + n)).take 4 = c.drop (n + 8) := by rw [hc, List.drop_take, show n + 12 - (n + 8) = 4 by omega, Nat.add_comm]
  have eb : (b.drop 8).take n = (c.drop 8).take n := by rw [hc, List.drop_take, List.take_take, Nat.min_eq_left (by omega)]
  have l4 : (c.take 4).length = 4 := by rw [List.length_take]; omega
  have l8 : (c.drop (n + 8)).length = 4 := by rw [List.length_drop]; omega
  have l44 : ((c.drop 4).take 4).length = 4 := by rw [List.length_take, List.length_drop]; omega
  have lb : ((c.drop 8).take n).length = n := by rw [List.length_take, List.length_drop]; omega
  rw [← hc]
  unfold firstOf openOf
  rw [← hn, if_neg (by omega), if_neg h1, if_neg (by omega), e8, eb, ← hc, hcl, show n + 12 - 4 = n + 8 by omega, show n + 12 - 12 = n by omega]
  rw [e4] at hn
  by_cases h : c.take 4 = c.drop (n + 8)
  · have hbe : be 4 n = c.take 4 := by
      have e := be_val (c.take 4)
      rw [l4, ← hn] at e
      exact e
    have hfr : frL ((c.drop 8).take n) = c.take 4 ++ (be 4 (crc (c.take 4 ++ (c.drop 8).take n)) ++ ((c.drop 8).take n ++ c.drop (n + 8))) := by
      unfold frL
      rw [lb, hbe, ← h]
    have q1 : ¬ val (c.drop (n + 8)) ≠ n := by rw [← h, hn]; simp
    have q2 : ¬ c.take 4 ≠ c.drop (n + 8) := by simpa using h
    rw [if_neg q1, if_neg q2]
    by_cases h7 : (c.drop 4).take 4 = be 4 (crc (c.take 4 ++ (c.drop 8).take n))
    · have q3 : ¬ frL ((c.drop 8).take n) ≠ c := by rw [hfr, ← h7, ← four_parts c n]; simp
      have q4 : ¬ (c.drop 4).take 4 ≠ be 4 (crc (c.take 4 ++ (c.drop 8).take n)) := by simpa using h7
      rw [if_neg q3, if_neg q4]
    · have q3 : frL ((c.drop 8).take n) ≠ c := by
        intro e
        rw [hfr] at e
        have e3 := List.append_cancel_left (e.trans (four_parts c n))
        exact h7 (List.append_inj_left e3 (by rw [be_length, l44])).symm
      rw [if_pos q3, if_pos h7]
  · rw [if_pos (fun e => h (((val_same l8 l4).1 (e.trans hn)).symm)), if_pos h]
theorem last_open {b : List UInt8} {n : Nat} (hn : n = val (b.drop (b.length - 4))) (h1 : ¬ 4000 < n) (h2 : n + 12 ≤ b.length) : lastOf b = openOf (b.drop (b.length - (n + 12))) := by
  obtain ⟨c, hc⟩ : ∃ c, c = b.drop (b.length - (n + 12)) := ⟨_, rfl⟩
  have hcl : c.length = n + 12 := by rw [hc, List.length_drop]; omega
  have e8 : c.drop (n + 8) = b.drop (b.length - 4) := by rw [hc, List.drop_drop]; congr 1; omega
  have l4 : (c.take 4).length = 4 := by rw [List.length_take]; omega
  have l8 : (c.drop (n + 8)).length = 4 := by rw [List.length_drop]; omega
  have hd : b.length - n - 12 = b.length - (n + 12) := by omega
  unfold lastOf
  rw [← hn, if_neg (by omega), if_neg h1, if_neg (by omega), hd, ← hc]
  rw [← e8] at hn
  by_cases h : val (c.take 4) = n
  · rw [if_neg (by simpa using h), first_open h.symm h1 (by omega), List.take_of_length_le (by omega)]
  · rw [if_pos h]
    unfold openOf
    rw [if_pos (by
      intro e
      rw [hcl, show n + 12 - 4 = n + 8 by omega] at e
      exact h ((congrArg val e).trans hn.symm))]
end Go.Proofs.YtjjocnkockeacaaGreatDoor

namespace Go.Proofs.YtjjocnkockeacaaGreatDoor
set_option maxRecDepth 100000
open Go.RowKit Go.Lib

theorem clstr_any (s : ByteArray) (w : World) (h : s.size ≤ 281474976710656) :
    Calls Tryz.prog 32 #[.string s] w fun e w' => e = .returned (.string s) ∧ Touch [] w w' := by
  have C := hid (Tryz.stringslite_Clone s w h)
  clear h
  go_enter Tryz.func32, Tryz.ntmps32
  go_wp2_with (go_at_call 62; refine C.out.mono ?_; rintro e w1 ⟨rfl, hp⟩)
  have hp2 := hid hp
  go_ret
  exact ⟨rfl, Touch.of_below hp2.out⟩
end Go.Proofs.YtjjocnkockeacaaGreatDoor

namespace Go.Proofs.YtjjocnkockeacaaGreatDoor
open Go.RowKit Go.Lib
set_option maxRecDepth 100000

/-- What sizeAt tells: of a length n. -/
def sizeV (b : ByteArray) (n : Nat) : Value := if b.size < 12 then .tuple #[.int .i64 0, .int .i64 5] else if 4000 < n then .tuple #[.int .i64 0, .int .i64 6] else if b.size < n + 12 then .tuple #[.int .i64 0, .int .i64 5] else .tuple #[.int .i64 ((n + 12 : Nat) : Int), .int .i64 0]

theorem size_short (b : ByteArray) (p : Int) (n : Nat) (w : World) (h : b.size < 12) :
    Calls Tryz.prog 151 #[.string b, .int .i64 p] w fun e w' => e = .returned (sizeV b n) ∧ Touch [] w w' := by
  unfold sizeV
  rw [if_pos h]
  have q : (b.size : Int) < 12 := by omega
  clear h
  go_enter Tryz.func151, Tryz.ntmps151
  go_wp2
  go_ret2
  exact ⟨rfl, Touch.refl _ _⟩
theorem frsize_any (b : ByteArray) (k : Nat) (n : Nat) (w : World) (hs : b.size ≤ 1000000000) (hk : 12 ≤ b.size → k + 4 ≤ b.size) (hn : n = val ((b.data.toList.drop k).take 4)) (p : Int) (hp : 12 ≤ b.size → p = k) :
    Calls Tryz.prog 151 #[.string b, .int .i64 p] w fun e w' => e = .returned (sizeV b n) ∧ Touch [] w w' := by
  by_cases h1 : b.size < 12
  · exact size_short b p n w h1
  replace hk := hk (by omega)
  replace hp := hp (by omega)
  subst hp
  have hl := list_len b
  have sl := sl_both b k (k + 4) (k : Int) ((k : Int) + 4) rfl (by omega) (by omega) hk
  have es : (b.extract k (k + 4)).data.toList = (b.data.toList.drop k).take 4 := by rw [extract_data, show k + 4 - k = 4 by omega]
  have ls : ((b.data.toList.drop k).take 4).length = 4 := by rw [List.length_take, List.length_drop]; omega
  have N := hid fun (w1 : World) => newIn_any (b.extract k (k + 4)) w1
  rw [es] at N
  have U := hid fun (i : Nat) (w1 : World) (h : InIs w1 i ((b.data.toList.drop k).take 4, 0)) => inU32_st i ((b.data.toList.drop k).take 4, 0) w1 h
  rw [iTake_good _ 4 (by omega), List.take_of_length_le (Nat.le_of_eq ls), ← hn] at U
  simp only [] at U
  have hv : n < 4294967296 := by
    have h := val_lt ((b.data.toList.drop k).take 4)
    rw [ls, ← hn] at h
    exact h
  have q1 : (12 : Int) ≤ b.size := by omega
  have q0 : wrap64 ((k : Int) + 4) = (k : Int) + 4 := by unfold wrap64; omega
  have hV : Hid (sizeV b n = if 4000 < n then .tuple #[.int .i64 0, .int .i64 6] else if b.size < n + 12 then .tuple #[.int .i64 0, .int .i64 5] else .tuple #[.int .i64 ((n + 12 : Nat) : Int), .int .i64 0]) := hid (by unfold sizeV; rw [if_neg h1])
  rw [hV.out]
  generalize b.extract k (k + 4) = x at *
  generalize (b.data.toList.drop k).take 4 = L at *
  have n0 : (0 : Int) ≤ n := by omega
  clear hs hk hn es ls hl hv hV h1
  by_cases h2 : 4000 < n
  · rw [if_pos h2]
    have q2 : (4000 : Int) < n := by omega
    clear h2
    go_enter Tryz.func151, Tryz.ntmps151
    go_wp2_with (first
      | (go_at_call 132; refine (N.out _).mono ?_; rintro e w1 ⟨rfl, i1, t1⟩; (have I1 := hid i1); clear i1)
      | (go_at_call 167; refine (U.out _ _ I1.out).mono ?_; rintro e w2 ⟨rfl, p2⟩))
    go_ret2
    exact ⟨rfl, t1.trans p2.2 (fun f hf => .inr (by simp at hf; omega))⟩
  rw [if_neg h2]
  have q2 : (n : Int) ≤ 4000 := by omega
  by_cases h3 : b.size < n + 12
  · rw [if_pos h3]
    have q3 : (b.size : Int) < (n : Int) + 12 := by omega
    clear h2 h3
    go_enter Tryz.func151, Tryz.ntmps151
    go_wp2_with (first
      | (go_at_call 132; refine (N.out _).mono ?_; rintro e w1 ⟨rfl, i1, t1⟩; (have I1 := hid i1); clear i1)
      | (go_at_call 167; refine (U.out _ _ I1.out).mono ?_; rintro e w2 ⟨rfl, p2⟩))
    go_ret2
    exact ⟨rfl, t1.trans p2.2 (fun f hf => .inr (by simp at hf; omega))⟩
  · rw [if_neg h3]
    have q3 : (n : Int) + 12 ≤ b.size := by omega
    clear h2 h3
    go_enter Tryz.func151, Tryz.ntmps151
    go_wp2_with (first
      | (go_at_call 132; refine (N.out _).mono ?_; rintro e w1 ⟨rfl, i1, t1⟩; (have I1 := hid i1); clear i1)
      | (go_at_call 167; refine (U.out _ _ I1.out).mono ?_; rintro e w2 ⟨rfl, p2⟩))
    go_ret2
    exact ⟨rfl, t1.trans p2.2 (fun f hf => .inr (by simp at hf; omega))⟩

/-- What open tells. -/
def openV (c : ByteArray) : Value := .tuple #[.string (bytesT (openOf c.data.toList).1), .int .i64 ((openOf c.data.toList).2.1 : Int), .int .i64 (openOf c.data.toList).2.2]
theorem open_any (c : ByteArray) (w : World) (h1 : 12 ≤ c.size) (hs : c.size ≤ 1000000000) :
    Calls Tryz.prog 152 #[.string c] w fun e w' => e = .returned (openV c) ∧ Touch [] w w' := by
  have hl := list_len c
  have hw : wrap64 ((c.size : Int) - 4) = ((c.size - 4 : Nat) : Int) := by unfold wrap64; omega
  obtain ⟨m, hm⟩ : ∃ m, m = c.size - 4 := ⟨_, rfl⟩
  rw [← hm] at hw
  have sl1 := sl_to c 4 4 rfl (by omega)
  have sl2 := sl_both c 8 m 8 (m : Int) rfl rfl (by omega) (by omega)
  have sl3 := sl_from c m (m : Int) rfl (by omega)
  have sl4 := sl_both c 4 8 4 8 rfl rfl (by omega) (by omega)
  have e1 : (c.extract 0 4).data.toList = c.data.toList.take 4 := by rw [extract_data]; simp
  have e2 : (c.extract 8 m).data.toList = (c.data.toList.drop 8).take (c.data.toList.length - 12) := by rw [extract_data, hl, show m - 8 = c.size - 12 by omega]
  have e3 : (c.extract m c.size).data.toList = c.data.toList.drop (c.data.toList.length - 4) := by rw [extract_data, hl, hm]; exact List.take_of_length_le (by rw [List.length_drop]; omega)
  have e4 : (c.extract 4 8).data.toList = (c.data.toList.drop 4).take 4 := by rw [extract_data]
  have s1 : (c.extract 0 4).size = 4 := by rw [← list_len, e1, List.length_take]; omega
  have s2 : (c.extract 8 m).size ≤ 1000000000 := by rw [← list_len, e2, List.length_take, List.length_drop]; omega
  have S := hid fun (w1 : World) => sum_bytes (c.extract 0 4) (c.extract 8 m) w1 (by rw [s1]; decide) (by unfold maxLen; omega)
  have L := hid fun (w1 : World) => clstr_any (c.extract 8 m) w1 (by omega)
  rw [e1, e2] at S
  have hV : openV c = .tuple #[.string (bytesT (openOf c.data.toList).1), .int .i64 ((openOf c.data.toList).2.1 : Int), .int .i64 (openOf c.data.toList).2.2] := rfl
  have q1 : (12 : Int) ≤ c.size := by omega
  have q2 : (m : Int) + 4 = c.size := by omega
  by_cases h6 : c.data.toList.take 4 = c.data.toList.drop (c.data.toList.length - 4)
  rotate_left
  · have ho : openOf c.data.toList = ([], 0, 6) := by unfold openOf; rw [if_pos h6]
    rw [ho] at hV
    have q6 : ((c.extract 0 4).toList == (c.extract m c.size).toList) = false := txt_ne (by rw [e1, e3]; exact h6)
    rw [hV]
    generalize c.extract 0 4 = x1 at *
    generalize c.extract 8 m = x2 at *
    generalize c.extract m c.size = x3 at *
    clear hs h1 hl hm e1 e2 e3 e4 s1 s2 S L hV h6 ho q2
    go_enter Tryz.func152, Tryz.ntmps152
    go_wp2
    go_quiet (fail)
    go_wp2
    go_ret3
    exact ⟨rfl, (Touch.refl _ _).drewN _⟩
  have q6 : ((c.extract 0 4).toList == (c.extract m c.size).toList) = true := txt_same (by rw [e1, e3]; exact h6)
  by_cases h7 : (c.data.toList.drop 4).take 4 = be 4 (crc (c.data.toList.take 4 ++ (c.data.toList.drop 8).take (c.data.toList.length - 12)))
  rotate_left
  · have ho : openOf c.data.toList = ([], 0, 7) := by unfold openOf; rw [if_neg (by simpa using h6), if_pos h7]
    rw [ho] at hV
    have q7 : ((c.extract 4 8).toList == ByteArray.toList ⟨(be 4 (crc (c.data.toList.take 4 ++ (c.data.toList.drop 8).take (c.data.toList.length - 12)))).toArray⟩) = false := txt_ne (by rw [e4]; simpa using h7)
    rw [hV]
    generalize (⟨(be 4 (crc (c.data.toList.take 4 ++ (c.data.toList.drop 8).take (c.data.toList.length - 12)))).toArray⟩ : ByteArray) = X at *
    generalize c.extract 0 4 = x1 at *
    generalize c.extract 8 m = x2 at *
    generalize c.extract m c.size = x3 at *
    generalize c.extract 4 8 = x4 at *
    clear hs h1 hl hm e1 e2 e3 e4 s1 s2 L hV h6 h7 ho q2
    go_enter Tryz.func152, Tryz.ntmps152
    go_wp2
    go_quiet (fail)
    go_wp2
    go_region_with (go_at_call 120; refine (S.out _).mono ?_; rintro e w1 ⟨rfl, t1⟩)
    all_goals go_wp2
    all_goals go_ret3
    all_goals exact ⟨rfl, ((Touch.refl _ _).drewN _).trans t1 (by simp)⟩
  have ho : openOf c.data.toList = ((c.data.toList.drop 8).take (c.data.toList.length - 12), c.data.toList.length, 0) := by unfold openOf; rw [if_neg (by simpa using h6), if_neg (by simpa using h7)]
  rw [ho] at hV
  have h8 := hid (str_eq e2)
  have q7 : ((c.extract 4 8).toList == ByteArray.toList ⟨(be 4 (crc (c.data.toList.take 4 ++ (c.data.toList.drop 8).take (c.data.toList.length - 12)))).toArray⟩) = true := txt_same (by rw [e4]; simpa using h7)
  rw [hV]
  simp only []
  unfold bytesT
  rw [← h8.out, hl]
  generalize (⟨(be 4 (crc (c.data.toList.take 4 ++ (c.data.toList.drop 8).take (c.data.toList.length - 12)))).toArray⟩ : ByteArray) = X at *
  generalize c.extract 0 4 = x1 at *
  generalize c.extract 8 m = x2 at *
  generalize c.extract m c.size = x3 at *
  generalize c.extract 4 8 = x4 at *
  clear hs h1 hl hm e1 e2 e3 e4 s1 s2 hV h6 h7 ho q2 h8
  go_enter Tryz.func152, Tryz.ntmps152
  go_wp2
  go_quiet (fail)
  go_wp2
  go_region_with (go_at_call 120; refine (S.out _).mono ?_; rintro e w1 ⟨rfl, t1⟩)
  all_goals go_wp2_with (go_at_call 32; refine (L.out _).mono ?_; rintro e w2 ⟨rfl, t2⟩)
  all_goals go_ret3
  all_goals exact ⟨rfl, (((Touch.refl _ _).drewN _).trans t1 (by simp)).trans t2 (by simp)⟩
end Go.Proofs.YtjjocnkockeacaaGreatDoor
