/- DiskKeeps, walked. -/
import Derived.Test.YthibabfojndlkaaAl9
import Derived.Lib.MinMax
namespace Go.Proofs.Ythibabfojndlkaa
open Go.RowKit Go.Lib
set_option maxRecDepth 100000

abbrev nmF : ByteArray := ⟨#[102]⟩
theorem okF : Ok nmF := ⟨by decide, by decide⟩
theorem keep_ext (a b : ByteArray) (m : Nat) : (a ++ b).extract 0 (a.size + m) = a ++ b.extract 0 m := by
  apply ByteArray.ext
  apply Array.ext'
  have h1 := list_len a
  rw [ByteArray.data_extract, ByteArray.data_append, ByteArray.data_append, ByteArray.data_extract]
  simp only [Array.toList_extract, Array.toList_append, List.extract, Nat.sub_zero, List.drop_zero]
  rw [List.take_append, h1, List.take_of_length_le (by omega)]
  congr 2
  omega
/-- An armed disk: the append at which the power goes. -/
theorem keep_armed (a b : ByteArray) (keep : Int) (m : Nat) (hm : m = min keep.toNat b.size) :
    appendD (armD (one 0 nmF a a.size true) 0 [keep]) nmF b = (14, offK 0 [⟨nmF, a ++ b.extract 0 m, a.size + m, true⟩]) := by
  have hcr := crash_one (room := 0) (nm := nmF) (dat := a ++ b) (syn := a.size) (ks := [keep]) (K := a.size + m) (by rw [ByteArray.size_append]; omega) (by rw [ByteArray.size_append, hm]; simp)
  unfold appendD
  rw [refuse_ok rfl okF, if_neg (by simp), if_neg ?_]
  · have hf : (armD (one 0 nmF a a.size true) 0 [keep]).files = [⟨nmF, a, a.size, true⟩] := rfl
    rw [hf, getF_one]
    have hg : putF [⟨nmF, a, a.size, true⟩] (withF ((some (⟨nmF, a, a.size, true⟩ : Fl)).getD (freshF nmF)) b) = [⟨nmF, a ++ b, a.size, true⟩] := by simp [putF, withF, cmpN_self]
    rw [hg]
    unfold goesD
    rw [if_pos (by rfl), if_neg (by simp [armD])]
    have hc : crashD { (armD (one 0 nmF a a.size true) 0 [keep]) with files := [⟨nmF, a ++ b, a.size, true⟩] } [keep] = offK 0 [⟨nmF, a ++ b.extract 0 m, a.size + m, true⟩] := by
      have h1 := hcr.1
      rw [keep_ext a b m] at h1
      rw [← h1]
      unfold crashD one armD
      rw [if_pos rfl, if_pos rfl]
    exact Prod.ext rfl hc
  · rintro (⟨h1, _⟩ | ⟨h1, h2⟩)
    · rw [show (armD (one 0 nmF a a.size true) 0 [keep]).files = [⟨nmF, a, a.size, true⟩] from rfl, getF_one] at h1; cases h1
    · simp [armD, one] at h1

theorem own_lit (w : World) (k : Int) : (w.alloc (.cells #[.int .i64 k] tInt)).ownsRow 0 tInt 1 (.slice (some ⟨w.heap.size, 0, none⟩) 1 1) [k].length (intVals [k]) :=
  ⟨rfl, .inr ⟨w.heap.size, 1, _, rfl, Nat.zero_le _, heap_alloc_new w _, Nat.le_refl _, by unfold maxLen; omega, rfl, rfl⟩⟩

set_option maxHeartbeats 4000000 in
theorem keep_good (a b : ByteArray) (keep : Int) (arm : Bool) (w : World) (ha : a.size ≤ 2000) (hb : b.size ≤ 2000) (h0 : a.size ≠ 0) :
    Calls Try.prog 4 #[.string a, .string b, .int .i64 keep, .bool arm] w fun e w' => e = .returned (.bool true) ∧ Touch [] w w' := by
  have z : -9223372036854775808 ≤ (0 : Int) ∧ (0 : Int) ≤ 9223372036854775807 := by omega
  have CA := hid fun w => alive_true w
  have CN := hid (new_has 0 w)
  have C1 := hid fun d w1 (h : Has w d (newD 0) w1) => append_has (nm := nmF) (s := a) h (sm_new (by omega) z) (append_first 0 _ okF (.inl (by omega)))
  have C2 := hid fun d w1 (h : Has w d (one 0 nmF a 0 false) w1) => sync_has h (sm_one (by omega) z) (sync_one okF)
  obtain ⟨m, hm⟩ : ∃ m, m = min keep.toNat b.size := ⟨_, rfl⟩
  have hmb : m ≤ b.size := by omega
  have hmx : min (max keep 0) (b.size : Int) = (m : Int) := by omega
  have e1 : decide ((2000 : Int) < (a.size : Int)) = false := by rw [decide_eq_false_iff_not]; omega
  have e2 : decide ((2000 : Int) < (b.size : Int)) = false := by rw [decide_eq_false_iff_not]; omega
  have e3 : decide (2000 < a.size) = false := by rw [decide_eq_false_iff_not]; omega
  have e4 : decide (2000 < b.size) = false := by rw [decide_eq_false_iff_not]; omega
  have e5 : ((a.size : Int) == 0) = false := by rw [beq_eq_false_iff_ne]; omega
  have e6 : (a.size == 0) = false := by rw [beq_eq_false_iff_ne]; exact h0
  have hsz : (a ++ b.extract 0 m).size = a.size + m := by rw [ByteArray.size_append, ByteArray.size_extract]; omega
  have hszI : (((a ++ b.extract 0 m).size : Nat) : Int) = (a.size : Int) + (m : Int) := by omega
  have C5 := hid fun d w1 (h : Has w d (offK 0 [⟨nmF, a ++ b.extract 0 m, a.size + m, true⟩]) w1) => restore_has h (restore_off _ _ _ _ _)
  have C6 := hid fun d w1 (h : Has w d (one 0 nmF (a ++ b.extract 0 m) (a.size + m) true) w1) => by
    have := read_has (a := 0) (n := ((a ++ b.extract 0 m).size : Nat)) h (by omega) (by omega) (read_one okF _ (Nat.le_refl _))
    rw [ext_all, hszI] at this
    exact this
  have C7 := hid fun d w1 (h : Has w d (one 0 nmF (a ++ b.extract 0 m) (a.size + m) true) w1) => by
    have := size_has h (size_one okF)
    rw [hszI] at this
    exact this
  have C8 := hid fun d w1 (h : Has w d (one 0 nmF (a ++ b.extract 0 m) (a.size + m) true) w1) => unsyn_has (n := 0) h (by rw [unsyn_one okF]; omega)
  have hc2 : ¬ 9223372036854775807 < a.size + (b.extract 0 m).size := by rw [ByteArray.size_extract]; omega
  have hext : b.extract 0 m = b.extract 0 m := rfl
  cases arm
  · have C3 := hid fun d w1 (h : Has w d (one 0 nmF a a.size true) w1) => append_has (nm := nmF) (s := b) h (sm_one (by omega) z) (append_one _ okF (.inl (by omega)))
    have C4 := hid fun d w1 (h : Has w d (one 0 nmF (a ++ b) a.size true) w1) => unsyn_has (n := b.size) h (by rw [unsyn_one okF, ByteArray.size_append]; omega)
    have hcr := crash_one (room := 0) (nm := nmF) (dat := a ++ b) (syn := a.size) (ks := [keep]) (K := a.size + m) (by rw [ByteArray.size_append]; omega) (by rw [ByteArray.size_append, hm]; simp)
    rw [keep_ext a b m] at hcr
    have C9 := hid fun d w1 (h : Has w d (one 0 nmF (a ++ b) a.size true) w1) => crash_has (x := some ⟨w1.heap.size, 0, none⟩) (n := 1) (c := 1) (h.touch ((Touch.refl [] w1).alloc (.cells #[.int .i64 keep] tInt))) (sm_one (by rw [ByteArray.size_append]; omega) z) (ints_lit keep) rfl (by omega) rfl hcr.1
    clear hcr z h0 hm
    generalize hD : lostD (one 0 nmF (a ++ b) a.size true) [keep] = ld at C9
    clear hD
    go_enter Try.func4, Try.ntmps4
    go_wp2_with (first
      | (go_at_call 26; with_reducible refine CN.out.mono ?_; rintro e w0 ⟨d, rfl, h0⟩; have H0 := hid h0; clear h0)
      | (go_at_call 15; with_reducible refine (C1.out _ _ H0.out).mono ?_; rintro e w1 ⟨rfl, h1⟩; have H1 := hid h1; clear h1)
      | (go_at_call 16; with_reducible refine (C2.out _ _ H1.out).mono ?_; rintro e w2 ⟨rfl, h2⟩; have H2 := hid h2; clear h2)
      | (go_at_call 15; with_reducible refine (C3.out _ _ H2.out).mono ?_; rintro e w3 ⟨rfl, h3⟩; have H3 := hid h3; clear h3)
      | (go_at_call 23; with_reducible refine (C4.out _ _ H3.out).mono ?_; rintro e w4 ⟨rfl, t4⟩; have H4 := hid (H3.out.touch t4); clear t4)
      | (go_at_call 21; with_reducible refine (C9.out _ _ H4.out).mono ?_; rintro e w9 ⟨rfl, h9⟩; have H9 := hid h9; clear h9)
      | (go_at_call 10; with_reducible refine (C5.out _ _ H9.out).mono ?_; rintro e w10 ⟨rfl, h10⟩; have H10 := hid h10; clear h10)
      | (go_at_call 13; with_reducible refine (C6.out _ _ H10.out).mono ?_; rintro e w6 ⟨rfl, t6⟩; have H6 := hid (H10.out.touch t6); clear t6)
      | (go_at_call 14; with_reducible refine (C7.out _ _ H6.out).mono ?_; rintro e w7 ⟨rfl, t7⟩; have H7 := hid (H6.out.touch t7); clear t7)
      | (go_at_call 9; with_reducible refine (CA.out _).mono ?_; rintro e w12 ⟨rfl, t12⟩; have H12 := hid (H7.out.touch t12); clear t12)
      | (go_at_call 23; with_reducible refine (C8.out _ _ H12.out).mono ?_; rintro e w13 ⟨rfl, t13⟩; have H13 := hid (H12.out.touch t13); clear t13))
    go_ret
    exact ⟨rfl, H13.out.from_⟩
  · have CR := hid fun d w1 (h : Has w d (one 0 nmF a a.size true) w1) => arm_has (n := 0) (h.touch ((Touch.refl [] w1).alloc (.cells #[.int .i64 keep] tInt))) (by omega) (own_lit w1 keep) (by simp) rfl
    have C3 := hid fun d w1 (h : Has w d (armD (one 0 nmF a a.size true) 0 [keep]) w1) => append_has (nm := nmF) (s := b) h ⟨by simp [armD], by simp [armD, one, used]; omega, z⟩ (keep_armed a b keep m hm)
    have CO := hid fun d w1 (h : Has w d (offK 0 [⟨nmF, a ++ b.extract 0 m, a.size + m, true⟩]) w1) => on_has (b := false) h rfl
    clear z h0 hm
    go_enter Try.func4, Try.ntmps4
    go_wp2_with (first
      | (go_at_call 26; with_reducible refine CN.out.mono ?_; rintro e w0 ⟨d, rfl, h0⟩; have H0 := hid h0; clear h0)
      | (go_at_call 15; with_reducible refine (C1.out _ _ H0.out).mono ?_; rintro e w1 ⟨rfl, h1⟩; have H1 := hid h1; clear h1)
      | (go_at_call 16; with_reducible refine (C2.out _ _ H1.out).mono ?_; rintro e w2 ⟨rfl, h2⟩; have H2 := hid h2; clear h2)
      | (go_at_call 15; with_reducible refine (C3.out _ _ HR.out).mono ?_; rintro e w3 ⟨rfl, h3⟩; have H3 := hid h3; clear h3)
      | (go_at_call 11; with_reducible refine (CR.out _ _ H2.out).mono ?_; rintro e wr ⟨rfl, hr⟩; have HR := hid hr; clear hr)
      | (go_at_call 24; with_reducible refine (CO.out _ _ H3.out).mono ?_; rintro e wo ⟨rfl, rfl⟩)
      | (go_at_call 10; with_reducible refine (C5.out _ _ H3.out).mono ?_; rintro e w10 ⟨rfl, h10⟩; have H10 := hid h10; clear h10)
      | (go_at_call 13; with_reducible refine (C6.out _ _ H10.out).mono ?_; rintro e w6 ⟨rfl, t6⟩; have H6 := hid (H10.out.touch t6); clear t6)
      | (go_at_call 14; with_reducible refine (C7.out _ _ H6.out).mono ?_; rintro e w7 ⟨rfl, t7⟩; have H7 := hid (H6.out.touch t7); clear t7)
      | (go_at_call 9; with_reducible refine (CA.out _).mono ?_; rintro e w12 ⟨rfl, t12⟩; have H12 := hid (H7.out.touch t12); clear t12)
      | (go_at_call 23; with_reducible refine (C8.out _ _ H12.out).mono ?_; rintro e w13 ⟨rfl, t13⟩; have H13 := hid (H12.out.touch t13); clear t13))
    go_ret
    exact ⟨rfl, H13.out.from_⟩

theorem walk_DiskKeeps (a : ByteArray) (_ha : a.size ≤ maxLen) (b : ByteArray) (_hb : b.size ≤ maxLen) (keep : Int) (_hk : (Lit.int .i64 keep).wf = true) (arm : Bool) (w : World) :
    Calls Try.prog 4 #[.string a, .string b, .int .i64 keep, .bool arm] w fun e w' => e = .returned (.bool true) ∧ Touch [] w w' := by
  have CA := hid fun w => alive_true w
  by_cases h1 : 2000 < a.size
  · have e1 : decide ((2000 : Int) < (a.size : Int)) = true := by rw [decide_eq_true_eq]; omega
    have e3 : decide (2000 < a.size) = true := by rw [decide_eq_true_eq]; omega
    clear h1
    go_enter Try.func4, Try.ntmps4
    go_wp2_with (go_at_call 9; with_reducible refine (CA.out _).mono ?_; rintro e w12 ⟨rfl, t12⟩; have T12 := hid t12; clear t12)
    go_ret
    exact ⟨rfl, T12.out⟩
  have e1 : decide ((2000 : Int) < (a.size : Int)) = false := by rw [decide_eq_false_iff_not]; omega
  have e3 : decide (2000 < a.size) = false := by rw [decide_eq_false_iff_not]; omega
  by_cases h2 : 2000 < b.size
  · have e2 : decide ((2000 : Int) < (b.size : Int)) = true := by rw [decide_eq_true_eq]; omega
    have e4 : decide (2000 < b.size) = true := by rw [decide_eq_true_eq]; omega
    clear h1 h2
    go_enter Try.func4, Try.ntmps4
    go_wp2_with (go_at_call 9; with_reducible refine (CA.out _).mono ?_; rintro e w12 ⟨rfl, t12⟩; have T12 := hid t12; clear t12)
    go_ret
    exact ⟨rfl, T12.out⟩
  by_cases h3 : a.size = 0
  · have e2 : decide ((2000 : Int) < (b.size : Int)) = false := by rw [decide_eq_false_iff_not]; omega
    have e4 : decide (2000 < b.size) = false := by rw [decide_eq_false_iff_not]; omega
    have e5 : ((a.size : Int) == 0) = true := by rw [beq_iff_eq]; omega
    have e6 : (a.size == 0) = true := by rw [beq_iff_eq]; exact h3
    clear h1 h2 h3
    go_enter Try.func4, Try.ntmps4
    go_wp2_with (go_at_call 9; with_reducible refine (CA.out _).mono ?_; rintro e w12 ⟨rfl, t12⟩; have T12 := hid t12; clear t12)
    go_ret
    exact ⟨rfl, T12.out⟩
  · exact keep_good a b keep arm w (by omega) (by omega) h3
end Go.Proofs.Ythibabfojndlkaa
