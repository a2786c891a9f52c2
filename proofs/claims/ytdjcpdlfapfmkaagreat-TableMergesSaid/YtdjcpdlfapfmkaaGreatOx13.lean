/- A table of whatever bytes: Open. -/
import Derived.Test.YtdjcpdlfapfmkaaGreatOp13
namespace Go.Proofs.YtdjcpdlfapfmkaaGreat
open Go.RowKit Go.Lib Go.ChangeShapes
set_option maxRecDepth 100000

theorem open_err (b : ByteArray) (ec : Int) (he : ec ≠ 0) (w : World)
    (hc : Calls Tryz.prog 38 #[.string b] w fun e w' => e = .returned (.tuple #[.string ⟨#[]⟩, .int .i64 ec]) ∧ Touch [] w w') :
    Calls Tryz.prog 11 #[.string b] w fun e w' => e = .returned (.tuple #[.pointer none, .int .i64 ec]) ∧ Touch [] w w' := by
  have HC := hid hc
  have hb : (ec != 0) = true := by simpa using he
  clear hc he
  go_enter Tryz.func11, Tryz.ntmps11
  go_wp2_with (go_at_call 38; refine HC.out.mono ?_; rintro x w2 ⟨rfl, t2⟩; have T2 := hid t2; clear t2)
  go_ret2
  exact ⟨rfl, T2.out⟩

theorem open_other (q : ByteArray) (b : ByteArray) (w : World) (h1 : q.data.toList.take 4 ≠ [80, 84, 65, 66])
    (hc : Calls Tryz.prog 38 #[.string b] w fun e w' => e = .returned (.tuple #[.string q, .int .i64 0]) ∧ Touch [] w w') :
    Calls Tryz.prog 11 #[.string b] w fun e w' => e = .returned (.tuple #[.pointer none, .int .i64 6]) ∧ Touch [] w w' := by
  have HC := hid hc
  have cp := fun w => Tryz.strings_CutPrefix q ptab w
  have e1 : Lib.hasPrefix q.data.toList ptab.data.toList = false := by
    cases hh : Lib.hasPrefix q.data.toList ptab.data.toList with
    | false => rfl
    | true =>
      unfold Lib.hasPrefix at hh
      rw [List.isPrefixOf_iff_prefix] at hh
      obtain ⟨t, ht⟩ := hh
      exact absurd (by rw [← ht]; rfl) h1
  rw [e1] at cp
  have CP := hid cp
  generalize Lib.trimPrefix q.data.toList ptab.data.toList = z at *
  have NI := hid (fun w => newIn_any ⟨z.toArray⟩ w)
  simp only [List.toList_toArray] at NI
  clear hc cp e1 h1
  go_enter Tryz.func11, Tryz.ntmps11
  go_wp2_with fail
  refine HC.out.mono ?_
  rintro x w2 ⟨rfl, t2⟩
  have T2 := hid t2
  clear t2
  go_wp2_with fail
  refine (CP.out _).mono ?_
  rintro x w3 ⟨rfl, rfl⟩
  go_wp2_with fail
  refine (NI.out _).mono ?_
  rintro x w4 ⟨rfl, i4, t4⟩
  have T4 := hid (T2.out.trans t4 (by simp))
  have hib : Hid (w.heap.size ≤ w3.heap.size) := hid T2.out.size
  generalize w3.heap.size = ib at *
  clear t4 NI CP HC
  have U := hid (inU32_st ib (z, 0) w4 i4)
  generalize iTake (z, 0) 4 = st at *
  generalize val st.1 = v at *
  clear i4
  go_wp2_with fail
  refine U.out.mono ?_
  rintro x w5 ⟨rfl, i5, t5⟩
  have T5 := hid (T4.out.trans t5 (fun f hf => .inr (by simp at hf; subst hf; exact hib.out)))
  clear t5 U T4 T2 i5
  go_wp2
  go_ret2
  exact ⟨rfl, T5.out⟩

theorem open_few (q : ByteArray) (b : ByteArray) (w : World) (z : List UInt8) (h1 : q.data.toList = [80, 84, 65, 66] ++ z) (h4 : z.length < 4)
    (hc : Calls Tryz.prog 38 #[.string b] w fun e w' => e = .returned (.tuple #[.string q, .int .i64 0]) ∧ Touch [] w w') :
    Calls Tryz.prog 11 #[.string b] w fun e w' => e = .returned (.tuple #[.pointer none, .int .i64 6]) ∧ Touch [] w w' := by
  have HC := hid hc
  have cp := fun w => Tryz.strings_CutPrefix q ptab w
  have e1 : Lib.hasPrefix q.data.toList ptab.data.toList = true := by
    unfold Lib.hasPrefix
    rw [List.isPrefixOf_iff_prefix, h1]
    exact List.prefix_append _ z
  have e2 : Lib.trimPrefix q.data.toList ptab.data.toList = z := by
    unfold Lib.trimPrefix
    rw [if_pos e1, h1]
    exact List.drop_left' rfl
  rw [e1, e2] at cp
  have CP := hid cp
  have NI := hid (fun w => newIn_any ⟨z.toArray⟩ w)
  simp only [List.toList_toArray] at NI
  clear hc cp e1 e2 h1
  go_enter Tryz.func11, Tryz.ntmps11
  go_wp2_with fail
  refine HC.out.mono ?_
  rintro x w2 ⟨rfl, t2⟩
  have T2 := hid t2
  clear t2
  go_wp2_with fail
  refine (CP.out _).mono ?_
  rintro x w3 ⟨rfl, rfl⟩
  go_wp2_with fail
  refine (NI.out _).mono ?_
  rintro x w4 ⟨rfl, i4, t4⟩
  have T4 := hid (T2.out.trans t4 (by simp))
  have hib : Hid (w.heap.size ≤ w3.heap.size) := hid T2.out.size
  generalize w3.heap.size = ib at *
  clear t4 NI CP HC
  have U := hid (inU32_st ib (z, 0) w4 i4)
  rw [iTake_short z 4 h4] at U
  clear i4 h4
  go_wp2_with fail
  refine U.out.mono ?_
  rintro x w5 ⟨rfl, i5, t5⟩
  have ER := hid (err_st ib _ w5 i5)
  have T5 := hid (T4.out.trans t5 (fun f hf => .inr (by simp at hf; subst hf; exact hib.out)))
  clear t5 U T4 T2 i5
  go_wp2_with (go_at_call 42; refine ER.out.mono ?_; rintro x w6 ⟨rfl, rfl⟩)
  go_ret2
  exact ⟨rfl, T5.out⟩

theorem open_count (q : ByteArray) (b : ByteArray) (w : World) (z : List UInt8) (h1 : q.data.toList = [80, 84, 65, 66] ++ z) (h4 : 4 ≤ z.length) (n : Nat) (hn : n = val (z.take 4)) (hne : (z.drop 4).length ≠ 24 * n) (hz : z.length ≤ 100000)
    (hc : Calls Tryz.prog 38 #[.string b] w fun e w' => e = .returned (.tuple #[.string q, .int .i64 0]) ∧ Touch [] w w') :
    Calls Tryz.prog 11 #[.string b] w fun e w' => e = .returned (.tuple #[.pointer none, .int .i64 6]) ∧ Touch [] w w' := by
  have HC := hid hc
  have cp := fun w => Tryz.strings_CutPrefix q ptab w
  have e1 : Lib.hasPrefix q.data.toList ptab.data.toList = true := by
    unfold Lib.hasPrefix
    rw [List.isPrefixOf_iff_prefix, h1]
    exact List.prefix_append _ z
  have e2 : Lib.trimPrefix q.data.toList ptab.data.toList = z := by
    unfold Lib.trimPrefix
    rw [if_pos e1, h1]
    exact List.drop_left' rfl
  rw [e1, e2] at cp
  have CP := hid cp
  have NI := hid (fun w => newIn_any ⟨z.toArray⟩ w)
  simp only [List.toList_toArray] at NI
  clear hc cp e1 e2 h1
  go_enter Tryz.func11, Tryz.ntmps11
  go_wp2_with fail
  refine HC.out.mono ?_
  rintro x w2 ⟨rfl, t2⟩
  have T2 := hid t2
  clear t2
  go_wp2_with fail
  refine (CP.out _).mono ?_
  rintro x w3 ⟨rfl, rfl⟩
  go_wp2_with fail
  refine (NI.out _).mono ?_
  rintro x w4 ⟨rfl, i4, t4⟩
  have T4 := hid (T2.out.trans t4 (by simp))
  have hib : Hid (w.heap.size ≤ w3.heap.size) := hid T2.out.size
  generalize w3.heap.size = ib at *
  clear t4 NI CP HC
  have U := hid (inU32_st ib (z, 0) w4 i4)
  rw [iTake_good z 4 h4, ← hn] at U
  have hnI : (n : Int) < 4294967296 := by
    have := val_lt (z.take 4)
    rw [List.length_take, Nat.min_eq_left h4] at this
    omega
  have hn0 : (0 : Int) ≤ n := by omega
  have hml : (((z.drop 4).length : Int) != (n : Int) * 24) = true := by rw [bne_iff_ne]; omega
  clear i4 h4 hn hne hz
  generalize z.drop 4 = r at *
  go_wp2_with fail
  refine U.out.mono ?_
  rintro x w5 ⟨rfl, i5, t5⟩
  have ER := hid (err_st ib _ w5 i5)
  have LF := hid (left_st ib _ w5 i5)
  have T5 := hid (T4.out.trans t5 (fun f hf => .inr (by simp at hf; subst hf; exact hib.out)))
  clear t5 U T4 T2 i5
  go_wp2_with (first
    | (go_at_call 42; refine ER.out.mono ?_; rintro x w6 ⟨rfl, rfl⟩)
    | (go_at_call 43; refine LF.out.mono ?_; rintro x w6 ⟨rfl, rfl⟩))
  go_ret2
  exact ⟨rfl, T5.out⟩

theorem open_any (b : ByteArray) (w : World) (hs : b.size ≤ 100000) :
    Calls Tryz.prog 11 #[.string b] w fun e w' => ∃ p, e = .returned (.tuple #[.pointer p, .int .i64 (openR b).2]) ∧ OpenP w' (openR b).1 p ∧ Touch [] w w' := by
  unfold openR
  by_cases h4 : b.size < 4
  · rw [if_pos h4]
    refine (open_err b 5 (by decide) w ((open_short b w (by omega)).mono fun e w' ⟨h1, h2⟩ => ⟨h1, h2 ▸ Touch.refl _ _⟩)).mono ?_
    rintro e w' ⟨rfl, t⟩
    exact ⟨none, rfl, .inl ⟨rfl, rfl⟩, t⟩
  · rw [if_neg h4]
    have hl := open_long b w (by omega) hs
    have hq := extract_le b hs
    unfold openOf at hl
    generalize b.extract 4 b.size = q at *
    by_cases hc : b.extract 0 4 = ⟨(four (crc q.data.toList)).toArray⟩
    · rw [if_pos hc] at hl ⊢
      by_cases hp : q.data.toList.take 4 = [80, 84, 65, 66]
      · obtain ⟨z, hz⟩ : ∃ z, z = q.data.toList.drop 4 := ⟨_, rfl⟩
        have hqz : q.data.toList = [80, 84, 65, 66] ++ z := by rw [← hp, hz, List.take_append_drop]
        have hzl : z.length ≤ 100000 := by rw [hz, List.length_drop, list_len]; omega
        have hql : q.data.toList.length = 4 + z.length := by rw [hqz]; simp; omega
        have hz4 : z.drop 4 = q.data.toList.drop 8 := by rw [hz, List.drop_drop]
        by_cases hz8 : z.length < 4
        · rw [openL_short (by omega)]
          refine (open_few q b w z hqz hz8 hl).mono ?_
          rintro e w' ⟨rfl, t⟩
          exact ⟨none, rfl, .inl ⟨rfl, rfl⟩, t⟩
        · by_cases hcn : (z.drop 4).length = 24 * val (z.take 4)
          · rw [openL_yes hp (by omega) (n := val (z.take 4)) (by rw [hz]) (by rw [← hz4]; exact hcn)]
            have hg := open_good q w hq (val (z.take 4)) (z.drop 4) z (hid hqz) (by omega) rfl rfl hcn b w (Touch.refl _ _) hl
            rw [← hz4]
            by_cases hf : fitE (decs (val (z.take 4)) (z.drop 4))
            · rw [if_pos hf, if_pos hf] at hg
              rw [if_pos hf]
              exact hg
            · rw [if_neg hf, if_neg hf] at hg
              rw [if_neg hf]
              exact hg
          · rw [openL_count (n := val (z.take 4)) (by omega) (by rw [hz]) (by rw [← hz4]; exact hcn)]
            refine (open_count q b w z hqz (by omega) _ rfl hcn hzl hl).mono ?_
            rintro e w' ⟨rfl, t⟩
            exact ⟨none, rfl, .inl ⟨rfl, rfl⟩, t⟩
      · rw [openL_prefix hp]
        refine (open_other q b w hp hl).mono ?_
        rintro e w' ⟨rfl, t⟩
        exact ⟨none, rfl, .inl ⟨rfl, rfl⟩, t⟩
    · rw [if_neg hc] at hl ⊢
      refine (open_err b 7 (by decide) w hl).mono ?_
      rintro e w' ⟨rfl, t⟩
      exact ⟨none, rfl, .inl ⟨rfl, rfl⟩, t⟩
end Go.Proofs.YtdjcpdlfapfmkaaGreat
