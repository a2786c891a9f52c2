/- What frame's functions tell. -/
import Derived.Test.YtkkalnegojhapaaRefAl
import Derived.Test.YtkkalnegojhapaaFrZ
namespace Go.Proofs.Ytkkalnegojhapaa
open Go.RowKit Go.Lib
set_option maxRecDepth 100000

theorem frPut_any (s : ByteArray) (w : World) (hs : s.size ≤ 1000000000) : Calls Try.prog 9 #[.string s] w fun e w' => e = .returned (.tuple #[.string (frB s), .int .i64 (frE s)]) ∧ Touch [] w w' := by
  unfold frB frE
  by_cases h : 4000 < s.size
  · rw [if_pos h, if_pos h]
    have q : (4000 : Int) < s.size := by omega
    clear h hs
    go_enter Try.func9, Try.ntmps9
    go_wp2
    go_ret2
    exact ⟨rfl, Touch.refl _ _⟩
  · rw [if_neg h, if_neg h]
    have q : (s.size : Int) ≤ 4000 := by omega
    have hl := list_len s
    have C1 := hid (fun w => laid_any s.size w (by omega))
    have h4b : (ByteArray.mk (be 4 s.size).toArray).size = 4 := by
      show (be 4 s.size).toArray.size = 4
      simp [be_length]
    have CS := hid (fun w => sum_bytes ⟨(be 4 s.size).toArray⟩ s w (by rw [h4b]; decide) (by unfold maxLen; omega))
    have e1 : (ByteArray.mk (be 4 s.size).toArray).data.toList = be 4 s.size := by simp
    rw [e1] at CS
    have hR : Hid ((((⟨(be 4 s.size).toArray⟩ : ByteArray) ++ ⟨(be 4 (crc (be 4 s.size ++ s.data.toList))).toArray⟩) ++ s) ++ ⟨(be 4 s.size).toArray⟩ = ⟨(frL s.data.toList).toArray⟩) := by
      have : ((((⟨(be 4 s.size).toArray⟩ : ByteArray) ++ ⟨(be 4 (crc (be 4 s.size ++ s.data.toList))).toArray⟩) ++ s) ++ ⟨(be 4 s.size).toArray⟩).data.toList = frL s.data.toList := by
        unfold frL
        rw [hl]
        simp
      exact hid (str_eq this)
    have h4c : (ByteArray.mk (be 4 (crc (be 4 s.size ++ s.data.toList))).toArray).size = 4 := by
      show (be 4 (crc (be 4 s.size ++ s.data.toList))).toArray.size = 4
      simp [be_length]
    generalize crc (be 4 s.size ++ s.data.toList) = k at *
    generalize (⟨(be 4 k).toArray⟩ : ByteArray) = B2 at *
    generalize (⟨(be 4 s.size).toArray⟩ : ByteArray) = B1 at *
    have c2 : ¬ 9223372036854775807 < B1.size + B2.size := by omega
    have c3 : ¬ 9223372036854775807 < (B1 ++ B2).size + s.size := by rw [ByteArray.size_append]; omega
    have c4 : ¬ 9223372036854775807 < (B1 ++ B2 ++ s).size + B1.size := by rw [ByteArray.size_append, ByteArray.size_append]; omega
    have c5 : ¬ 9223372036854775807 < B1.size + B2.size + s.size := by omega
    have c6 : ¬ 9223372036854775807 < B1.size + B2.size + s.size + B1.size := by omega
    clear h hs hl e1 h4b h4c
    go_enter Try.func9, Try.ntmps9
    go_wp2_with (first
      | (go_at_call 21; with_reducible refine (C1.out _).mono ?_; rintro e w1 ⟨rfl, t1⟩)
      | (go_at_call 22; with_reducible refine (CS.out _).mono ?_; rintro e w2 ⟨rfl, t2⟩))
    go_ret2
    exact ⟨by rw [← hR.out]; rfl, t1.trans t2 (by simp)⟩
theorem frFirst_any (b : ByteArray) (w : World) (hs : b.size ≤ 1000000000) : Calls Try.prog 11 #[.string b] w fun e w' => e = .returned (FirstV b) ∧ Touch [] w w' := by
  have hl := list_len b
  obtain ⟨n, hn⟩ : ∃ n, n = val (b.data.toList.take 4) := ⟨_, rfl⟩
  have S := hid (fun w => size_any b 0 n w hs (by omega) hn 0 (fun _ => rfl))
  have hV : FirstV b = .tuple #[.string (bytesT (firstOf b.data.toList).1), .int .i64 ((firstOf b.data.toList).2.1 : Int), .int .i64 (firstOf b.data.toList).2.2] := rfl
  unfold sizeV at S
  by_cases h1 : b.size < 12
  · have hf : firstOf b.data.toList = ([], 0, 5) := by unfold firstOf; rw [if_pos (by omega)]
    rw [hf] at hV
    rw [hV]
    rw [if_pos h1] at S
    clear hf hl h1 hs hn hV
    go_enter Try.func11, Try.ntmps11
    go_wp2_with (go_at_call 25; refine (S.out _).mono ?_; rintro e w1 ⟨rfl, t1⟩)
    go_ret3
    exact ⟨rfl, t1⟩
  rw [if_neg h1] at S
  by_cases h2 : 4000 < n
  · have hf : firstOf b.data.toList = ([], 0, 6) := by unfold firstOf; rw [if_neg (by omega), ← hn, if_pos h2]
    rw [hf] at hV
    rw [hV]
    rw [if_pos h2] at S
    clear hf hl h1 hs hn hV h2
    go_enter Try.func11, Try.ntmps11
    go_wp2_with (go_at_call 25; refine (S.out _).mono ?_; rintro e w1 ⟨rfl, t1⟩)
    go_ret3
    exact ⟨rfl, t1⟩
  rw [if_neg h2] at S
  by_cases h3 : b.size < n + 12
  · have hf : firstOf b.data.toList = ([], 0, 5) := by unfold firstOf; rw [if_neg (by omega), ← hn, if_neg h2, if_pos (by omega)]
    rw [hf] at hV
    rw [hV]
    rw [if_pos h3] at S
    clear hf hl h1 hs hn hV h2 h3
    go_enter Try.func11, Try.ntmps11
    go_wp2_with (go_at_call 25; refine (S.out _).mono ?_; rintro e w1 ⟨rfl, t1⟩)
    go_ret3
    exact ⟨rfl, t1⟩
  rw [if_neg h3] at S
  have hf := first_open hn h2 (by omega)
  have sl := sl_to b (n + 12) ((n + 12 : Nat) : Int) rfl (by omega)
  have ee : (b.extract 0 (n + 12)).data.toList = b.data.toList.take (n + 12) := by rw [extract_data]; simp
  have es : (b.extract 0 (n + 12)).size = n + 12 := by rw [← list_len, ee, List.length_take]; omega
  have O := hid (fun w => open_any (b.extract 0 (n + 12)) w (by omega) (by omega))
  unfold openV at O
  rw [ee, ← hf] at O
  rw [hV]
  generalize firstOf b.data.toList = R at *
  generalize b.extract 0 (n + 12) = x at *
  generalize ((n + 12 : Nat) : Int) = m at *
  clear hf hl h1 hs hn hV h2 h3 ee es
  go_enter Try.func11, Try.ntmps11
  go_wp2_with (first
    | (go_at_call 25; refine (S.out _).mono ?_; rintro e w1 ⟨rfl, t1⟩)
    | (go_at_call 26; refine (O.out _).mono ?_; rintro e w2 ⟨rfl, t2⟩))
  go_ret3
  exact ⟨rfl, t1.trans t2 (by simp)⟩
theorem frLast_any (b : ByteArray) (w : World) (hs : b.size ≤ 1000000000) : Calls Try.prog 13 #[.string b] w fun e w' => e = .returned (LastV b) ∧ Touch [] w w' := by
  have hl := list_len b
  obtain ⟨n, hn⟩ : ∃ n, n = val (b.data.toList.drop (b.data.toList.length - 4)) := ⟨_, rfl⟩
  have S := hid (fun w => size_any b (b.size - 4) n w hs (by omega) (by rw [hn, hl, List.take_of_length_le (by rw [List.length_drop]; omega)]) (wrap64 ((b.size : Int) - 4)) (by intro; unfold wrap64; omega))
  have hV : LastV b = .tuple #[.string (bytesT (lastOf b.data.toList).1), .int .i64 ((lastOf b.data.toList).2.1 : Int), .int .i64 (lastOf b.data.toList).2.2] := rfl
  unfold sizeV at S
  by_cases h1 : b.size < 12
  · have hf : lastOf b.data.toList = ([], 0, 5) := by unfold lastOf; rw [if_pos (by omega)]
    rw [hf] at hV
    rw [hV]
    rw [if_pos h1] at S
    clear hf hl h1 hs hn hV
    go_enter Try.func13, Try.ntmps13
    go_wp2_with (go_at_call 25; refine (S.out _).mono ?_; rintro e w1 ⟨rfl, t1⟩)
    go_ret3
    exact ⟨rfl, t1⟩
  rw [if_neg h1] at S
  by_cases h2 : 4000 < n
  · have hf : lastOf b.data.toList = ([], 0, 6) := by unfold lastOf; rw [if_neg (by omega), ← hn, if_pos h2]
    rw [hf] at hV
    rw [hV]
    rw [if_pos h2] at S
    clear hf hl h1 hs hn hV h2
    go_enter Try.func13, Try.ntmps13
    go_wp2_with (go_at_call 25; refine (S.out _).mono ?_; rintro e w1 ⟨rfl, t1⟩)
    go_ret3
    exact ⟨rfl, t1⟩
  rw [if_neg h2] at S
  by_cases h3 : b.size < n + 12
  · have hf : lastOf b.data.toList = ([], 0, 5) := by unfold lastOf; rw [if_neg (by omega), ← hn, if_neg h2, if_pos (by omega)]
    rw [hf] at hV
    rw [hV]
    rw [if_pos h3] at S
    clear hf hl h1 hs hn hV h2 h3
    go_enter Try.func13, Try.ntmps13
    go_wp2_with (go_at_call 25; refine (S.out _).mono ?_; rintro e w1 ⟨rfl, t1⟩)
    go_ret3
    exact ⟨rfl, t1⟩
  rw [if_neg h3] at S
  have hf := last_open hn h2 (by omega)
  rw [hl] at hf
  have hw : wrap64 ((b.size : Int) - ((n + 12 : Nat) : Int)) = ((b.size - (n + 12) : Nat) : Int) := by unfold wrap64; omega
  have sl := sl_from b (b.size - (n + 12)) ((b.size - (n + 12) : Nat) : Int) rfl (by omega)
  have ee : (b.extract (b.size - (n + 12)) b.size).data.toList = b.data.toList.drop (b.size - (n + 12)) := by rw [extract_data]; exact List.take_of_length_le (by rw [List.length_drop]; omega)
  have es : (b.extract (b.size - (n + 12)) b.size).size = n + 12 := by rw [← list_len, ee, List.length_drop]; omega
  have O := hid (fun w => open_any (b.extract (b.size - (n + 12)) b.size) w (by omega) (by omega))
  unfold openV at O
  rw [ee, ← hf] at O
  rw [hV]
  generalize lastOf b.data.toList = R at *
  generalize b.extract (b.size - (n + 12)) b.size = x at *
  generalize ((b.size - (n + 12) : Nat) : Int) = j at *
  generalize ((n + 12 : Nat) : Int) = m at *
  clear hf hl h1 hs hn hV h2 h3 ee es
  go_enter Try.func13, Try.ntmps13
  go_wp2_with (first
    | (go_at_call 25; refine (S.out _).mono ?_; rintro e w1 ⟨rfl, t1⟩)
    | (go_at_call 26; refine (O.out _).mono ?_; rintro e w2 ⟨rfl, t2⟩))
  go_ret3
  exact ⟨rfl, t1.trans t2 (by simp)⟩
set_option maxHeartbeats 1000000 in
theorem frAll_any (b : ByteArray) (w : World) (hs : b.size ≤ 1000000000) : Calls Try.prog 16 #[.string b] w (AllPost b w) := by
  have hl := list_len b
  have HS := hid hs
  have HL := hid hl
  obtain ⟨i0, hi, hz0, hz1, hz2⟩ := info_parts Try.infoStr
  clear hs hl
  go_enter Try.func16, Try.ntmps16
  go_wp2
  go_loopw [4, 5] (fun lv av wr => ∃ (L : List (List UInt8)) (a : Nat), av = .int .i64 a ∧ Fr b w wr lv a L) (fun _ av _ => b.size - (RowKit.intOf av).toNat)
  case atStart => exact ⟨[], 0, rfl, ⟨⟨rfl, .inl ⟨rfl, rfl⟩⟩, Touch.refl _ _, Nat.zero_le _, Nat.zero_le _, by simp⟩⟩
  case round =>
    obtain ⟨L, a, rfl, hM⟩ := hrel
    have M := hid hM
    clear hM
    have haI : (a : Int) ≤ b.size := by have := M.out.le; omega
    have ha0 : (0 : Int) ≤ a := by omega
    have sl := sl_from b a (a : Int) rfl M.out.le
    have e0 : (b.extract a b.size).data.toList = b.data.toList.drop a := by rw [extract_data]; exact List.take_of_length_le (by rw [List.length_drop]; have := HL.out; omega)
    have s0 : (b.extract a b.size).size ≤ 1000000000 := by rw [← list_len, e0, List.length_drop]; have := HS.out; have := HL.out; omega
    have F := hid (fun w => frFirst_any (b.extract a b.size) w s0)
    unfold FirstV at F
    rw [e0] at F
    generalize b.extract a b.size = X at *
    clear e0 s0
    by_cases he : (firstOf (b.data.toList.drop a)).2.2 = 0
    rotate_left
    · have hA := hid (M.out.e)
      rw [all_stop he] at hA
      simp only [List.append_nil, Nat.add_zero] at hA
      have q : ((firstOf (b.data.toList.drop a)).2.2 != 0) = true := by simpa using he
      generalize firstOf (b.data.toList.drop a) = R at *
      clear he
      go_wp2_with (go_at_call 11; refine (F.out _).mono ?_; rintro e w1 ⟨rfl, t1⟩)
      go_ret2
      refine ⟨u4, by rw [hA.out]; rfl, by rw [hA.out]; exact ownsS_same M.out.o t1, M.out.t.trans t1 (by simp)⟩
    · obtain ⟨l, _, hl4, hR, _, hlen⟩ := first_ok he
      have hst := hid (all_step he)
      rw [hR] at F hst
      rw [List.length_drop] at hlen
      simp only [] at F hst
      rw [List.drop_drop] at hst
      have HR := hid hlen
      have H4 := hid hl4
      clear he hR hlen hl4
      have hkl : 12 ≤ l.length + 12 := by omega
      generalize l.length + 12 = k at *
      have HK := hid hkl
      clear hkl
      have hbd : (a : Int) + (k : Int) ≤ 9223372036854775807 := by have := HR.out; have := HL.out; have := HS.out; omega
      go_wp2_with (first
        | (go_at_call 11; refine (F.out _).mono ?_; rintro e w1 ⟨rfl, t1⟩)
        | (at_builtin; refine wpList_append_lies _ rfl (.tmp 21) (.tmp 23) 37 rfl w.heap.size tStr i0 (.string ⟨#[]⟩) 1 16 Try.underlying37 hi hz0 hz1 hz2 rfl (by decide) u4 L.length (txtCells L) (by rfl) (ownsS_same M.out.o (t1.alloc _)) ⟨w1.heap.size, 0, none⟩ 1 1 [.string (bytesT l)] (by rfl) rfl (World.news_of_block (cs := #[.string (bytesT l)]) (t := tStr) (fr := (0, 0)) (heap_alloc_new w1 _)) (by intro u hu; simp at hu; subst hu; rfl) (by decide) (by have := M.out.n; have := M.out.le; have := HS.out; unfold maxLen; omega) (by have := M.out.n; have := M.out.le; have := HS.out; omega) (by have := M.out.t.size; have := t1.size; simp; omega) (w1.heap.size + 1) (by simp) ?_; intro g cap w4 hown hgrow hat hlt4))
      go_roundw
      case rel =>
        refine ⟨L ++ [l], a + k, by go_num, ?_⟩
        refine ⟨by rw [txtCells_snoc, List.length_append]; exact hown, ((M.out.t.trans t1 (by simp)).alloc _).grown hgrow (fun k hk => .inr (ownsS_blk M.out.o k hk)), by have := HR.out; have := HL.out; omega, by have := M.out.n; have := HK.out; simp; omega, ?_⟩
        rw [M.out.e, hst.out]
        simp only [List.append_assoc, List.singleton_append, Prod.mk.injEq, true_and]
        omega
      case measure => have := HR.out; have := HL.out; have := HK.out; simp [RowKit.intOf]; omega
/-! ### alive -/
theorem frB_ok {s : ByteArray} (h : s.size ≤ 4000) : (frB s).data.toList = frL s.data.toList ∧ frE s = 0 ∧ (frB s).size = s.size + 12 := by
  have e : frB s = ⟨(frL s.data.toList).toArray⟩ := by unfold frB; rw [if_neg (by omega)]
  refine ⟨by rw [e], by unfold frE; rw [if_neg (by omega)], ?_⟩
  rw [e]
  show (frL s.data.toList).toArray.size = s.size + 12
  rw [List.size_toArray, frL_len, list_len]
def abT : ByteArray := ⟨#[97, 98]⟩
theorem alive8_true (w : World) : Calls Try.prog 8 #[] w fun e w' => e = .returned (.bool true) ∧ Touch [] w w' := by
  have hab : abT.size = 2 := rfl
  obtain ⟨hB, hE, hZ⟩ := frB_ok (s := abT) (by rw [hab]; decide)
  have CP := hid (fun w => frPut_any abT w (by rw [hab]; decide))
  rw [hE] at CP
  have hx : (ByteArray.mk #[120]).size = 1 := rfl
  have CF := hid (fun w => frFirst_any (frB abT ++ ⟨#[120]⟩) w (by rw [ByteArray.size_append, hZ, hab, hx]; decide))
  have CL := hid (fun w => frLast_any (⟨#[120]⟩ ++ frB abT) w (by rw [ByteArray.size_append, hZ, hab, hx]; decide))
  have f1 : firstOf (frB abT ++ ⟨#[120]⟩).data.toList = (abT.data.toList, 14, 0) := by
    rw [show (frB abT ++ ⟨#[120]⟩).data.toList = frL abT.data.toList ++ [120] by simp [hB]]
    exact first_frL _ _ (by decide)
  have f2 : lastOf ((⟨#[120]⟩ : ByteArray) ++ frB abT).data.toList = (abT.data.toList, 14, 0) := by
    rw [show ((⟨#[120]⟩ : ByteArray) ++ frB abT).data.toList = [120] ++ frL abT.data.toList by simp [hB]]
    exact last_frL _ _ (by decide)
  unfold FirstV at CF
  unfold LastV at CL
  rw [f1] at CF
  rw [f2] at CL
  rw [hab] at hZ
  have hsz : ((frB abT).size : Int) = 14 := by omega
  have hc1 : ¬ 9223372036854775807 < (frB abT).size + 1 := by omega
  have hc2 : ¬ 9223372036854775807 < 1 + (frB abT).size := by omega
  generalize frB abT = S at *
  unfold abT at CP
  clear hB hE f1 f2 hab
  simp only [bytesT, abT] at CF CL
  go_enter Try.func8, Try.ntmps8
  go_wp2_with (first
    | (go_at_call 9; refine (CP.out _).mono ?_; rintro e w1 ⟨rfl, t1⟩)
    | (go_at_call 11; refine (CF.out _).mono ?_; rintro e w2 ⟨rfl, t2⟩)
    | (go_at_call 13; refine (CL.out _).mono ?_; rintro e w3 ⟨rfl, t3⟩))
  go_ret
  exact ⟨rfl, (t1.trans t2 (by simp)).trans t3 (by simp)⟩
end Go.Proofs.Ytkkalnegojhapaa
