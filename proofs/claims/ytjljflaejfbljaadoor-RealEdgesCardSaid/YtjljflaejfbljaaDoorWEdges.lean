/- RealEdges, walked. -/
import Derived.Test.YtjljflaejfbljaaDoorWSigns
import Derived.Test.YtjljflaejfbljaaDoorMost
import Derived.Test.YtjljflaejfbljaaDoorFlist
import Derived.BigQuiet
import Derived.Deep.RegionHeld3
namespace Go.Proofs.YtjljflaejfbljaaDoor
open Go.RowKit Go.Lib

theorem less_q (a b : Nat) (w : World) (n : Nat) (ha : Wd a) (hb : Wd b) :
    Calls Tryd.prog 26 #[.float .f64 a, .float .f64 b] (w.drewN n) fun e w' => e = .returned (.bool (decide (rank a < rank b))) ∧ ∃ m, w' = w.drewN m :=
  (less_any a b _ ha hb).mono fun _ _ ⟨he, hw⟩ => ⟨he, n, hw.symm⟩
theorem same_q (a b : Nat) (w : World) (n : Nat) (ha : Wd a) (hb : Wd b) :
    Calls Tryd.prog 27 #[.float .f64 a, .float .f64 b] (w.drewN n) fun e w' => e = .returned (.bool (decide (can a = can b))) ∧ ∃ m, w' = w.drewN m :=
  (same_any a b _ ha hb).mono fun _ _ ⟨he, hw⟩ => ⟨he, n, hw.symm⟩

theorem or_nan (x : Nat) (hx : Wd x) : Wd (x ||| 9218868437227405313) ∧ isNan (x ||| 9218868437227405313) = true := by
  refine ⟨Nat.or_lt_two_pow (n := 64) hx (by decide), ?_⟩
  rw [isNan_iff]
  unfold rung
  have h := Nat.or_mod_two_pow (a := x) (b := 9218868437227405313) (n := 63)
  rw [show (2 : Nat) ^ 63 = 9223372036854775808 from rfl] at h
  rw [h, show 9218868437227405313 % 9223372036854775808 = 9218868437227405313 by decide]
  have := Nat.right_le_or (n := x % 9223372036854775808) (m := 9218868437227405313)
  omega

/-- The numbers at the edges, in their order. -/
def edges (n : Nat) : List Nat := [18442240474082181120, 13830554455654793216, 9223372036854775808, 0, 4607182418800017408, 9218868437227405312, n]
def edge (n i : Nat) : Nat := (edges n).getD i 0
def wantOf (i : Nat) : Int := [1, 2, 3, 4, 5, 6, 0].getD i 0
theorem seven {i : Nat} (h : i < 7) : i = 0 ∨ i = 1 ∨ i = 2 ∨ i = 3 ∨ i = 4 ∨ i = 5 ∨ i = 6 := by omega
theorem edge_can {n : Nat} (hn : isNan n = true) (i : Nat) (h : i < 7) : can (edge n i) = can (edge oneNan i) := by
  rcases seven h with rfl | rfl | rfl | rfl | rfl | rfl | rfl
  all_goals first | rfl | (show can n = can oneNan; rw [can_nan hn]; decide)
theorem edge_wd {n : Nat} (hn : Wd n) (i : Nat) (h : i < 7) : Wd (edge n i) := by
  rcases seven h with rfl | rfl | rfl | rfl | rfl | rfl | rfl
  · exact (by decide : Wd 18442240474082181120)
  · exact (by decide : Wd 13830554455654793216)
  · exact (by decide : Wd 9223372036854775808)
  · exact (by decide : Wd 0)
  · exact (by decide : Wd 4607182418800017408)
  · exact (by decide : Wd 9218868437227405312)
  · exact hn
theorem edge_cls {n : Nat} (hn : isNan n = true) (i : Nat) (h : i < 7) : cls (edge n i) = wantOf i := by
  rcases seven h with rfl | rfl | rfl | rfl | rfl | rfl | rfl
  · exact (by decide +kernel : cls 18442240474082181120 = 1)
  · exact (by decide +kernel : cls 13830554455654793216 = 2)
  · exact (by decide +kernel : cls 9223372036854775808 = 3)
  · exact (by decide +kernel : cls 0 = 4)
  · exact (by decide +kernel : cls 4607182418800017408 = 5)
  · exact (by decide +kernel : cls 9218868437227405312 = 6)
  · show cls n = 0
    unfold cls; rw [if_pos hn]
theorem edge_less {n : Nat} (hn : isNan n = true) (i k : Nat) (hi : i < 7) (hk : k < 7) : decide (rank (edge n i) < rank (edge n k)) = decide (i < k) ∧ decide (can (edge n i) = can (edge n k)) = decide (i = k) := by
  have h : ∀ i k : Fin 7, decide (rank (edge oneNan i.1) < rank (edge oneNan k.1)) = decide (i.1 < k.1) ∧ decide (can (edge oneNan i.1) = can (edge oneNan k.1)) = decide (i.1 = k.1) := by decide +kernel
  have := h ⟨i, hi⟩ ⟨k, hk⟩
  rw [← rank_can (edge n i), ← rank_can (edge n k), edge_can hn i hi, edge_can hn k hk, rank_can, rank_can]
  exact this
theorem want_cell (i : Nat) (h : i < 7) (w : World) : (w.alloc (.cells #[.int .i64 1, .int .i64 2, .int .i64 3, .int .i64 4, .int .i64 5, .int .i64 6, .int .i64 0] 3)).cell? ⟨w.heap.size, i, none⟩ = some (.int .i64 (wantOf i)) := by
  rw [cell_of (heap_alloc_new w _)]
  rcases seven h with rfl | rfl | rfl | rfl | rfl | rfl | rfl <;> rfl
theorem edge_cell (n i : Nat) (h : i < 7) (w : World) : (w.alloc (.cells #[.float .f64 18442240474082181120, .float .f64 13830554455654793216, .float .f64 9223372036854775808, .float .f64 0, .float .f64 4607182418800017408, .float .f64 9218868437227405312, .float .f64 n] 24)).cell? ⟨w.heap.size, i, none⟩ = some (.float .f64 (edge n i)) := by
  rw [cell_of (heap_alloc_new w _)]
  rcases seven h with rfl | rfl | rfl | rfl | rfl | rfl | rfl <;> rfl

set_option maxHeartbeats 8000000 in
theorem edges_nat (x : Nat) (hx : Wd x) (w : World) (htab : Tab w) :
    Calls Tryd.prog 7 #[.int .u64 x] w fun e w' => e = .returned (.bool true) ∧ Touch [] w w' := by
  have Ht := hid htab; clear htab
  obtain ⟨hn, hN⟩ := or_nan x hx
  have ho : bits .or .u64 (x : Int) 9218868437227405313 = ((x ||| 9218868437227405313 : Nat) : Int) := bits_or x _ hx.lt (by decide)
  generalize x ||| 9218868437227405313 = n at *
  have hf : ∀ w, (callFunc 13 #[.int .u64 (n : Int)]).run Tryd.prog w = .ok (.value (.float .f64 n)) w := frombits_run n
  have HN := hid hN
  clear hN
  go_enter Tryd.func7, Tryd.ntmps7
  go_wp2_with (first | (go_at_call 28; first | (refine (infM_any _).mono ?_; rintro e w' ⟨rfl, rfl⟩) | (refine (infP_any _).mono ?_; rintro e w' ⟨rfl, rfl⟩)) | (go_at_call 31; refine (copysign_any _).mono ?_; rintro e w' ⟨rfl, rfl⟩))
  have HE := hid (fun i (h : i < 7) => edge_cell n i h w)
  have HT0 : Hid (Touch [] w (w.alloc (.cells #[.float .f64 18442240474082181120, .float .f64 13830554455654793216, .float .f64 9223372036854775808, .float .f64 0, .float .f64 4607182418800017408, .float .f64 9218868437227405312, .float .f64 n] 24))) := (Touch.refl _ _).alloc _
  generalize w.alloc (.cells #[.float .f64 18442240474082181120, .float .f64 13830554455654793216, .float .f64 9223372036854775808, .float .f64 0, .float .f64 4607182418800017408, .float .f64 9218868437227405312, .float .f64 n] 24) = w1 at *
  go_loopw [5] (fun iv wr => ∃ i : Nat, i ≤ 7 ∧ iv = .int .i64 i ∧ Touch [] w1 wr) (fun iv _ => 7 - (RowKit.intOf iv).toNat)
  case atStart => exact ⟨0, by decide, rfl, Touch.refl _ _⟩
  case round =>
    obtain ⟨i, hi, rfl, ht⟩ := hrel
    have HT := hid ht; clear ht
    by_cases h7 : i < 7
    · have h7I : (i : Int) < 7 := by omega
      have hcell := want_cell i h7 wr
      have hE := edge_wd hn i h7
      have T2 : Hid (Touch [] w1 (wr.alloc (.cells #[.int .i64 1, .int .i64 2, .int .i64 3, .int .i64 4, .int .i64 5, .int .i64 6, .int .i64 0] 3))) := HT.out.alloc _
      have hc2 := T2.out.cell (HE.out i h7)
      have hcls : (cls (edge n i) != wantOf i) = false := by rw [edge_cls HN.out i h7]; simp
      go_wp2_with (go_at_call 22; refine (class_any _ _ (by assumption)).mono ?_; rintro e w' ⟨rfl, rfl⟩)
      clear hcell hcls
      generalize wr.alloc (.cells #[.int .i64 1, .int .i64 2, .int .i64 3, .int .i64 4, .int .i64 5, .int .i64 6, .int .i64 0] 3) = w2 at *
      go_loopw [7] (fun kv wq => ∃ k : Nat, k ≤ 7 ∧ kv = .int .i64 k ∧ Touch [] w1 wq) (fun kv _ => 7 - (RowKit.intOf kv).toNat)
      case atStart => exact ⟨0, by decide, rfl, T2.out⟩
      case round =>
        obtain ⟨k, hk, rfl, ht⟩ := hrel
        have HT3 := hid ht; clear ht
        by_cases k7 : k < 7
        · have k7I : (k : Int) < 7 := by omega
          have hK := edge_wd hn k k7
          have d1 := HT3.out.cell (HE.out i h7)
          have d2 := HT3.out.cell (HE.out k k7)
          obtain ⟨l1, l2⟩ := edge_less HN.out i k h7 k7
          clear hc2
          rcases Nat.lt_trichotomy i k with h | h | h
          · generalize edge n i = A at *
            generalize edge n k = B at *
            rw [decide_eq_true h] at l1
            rw [decide_eq_false (show ¬ i = k by omega)] at l2
            have m1 : decide ((i : Int) < k) = true := by simp; omega
            have m2 : ((i : Int) == k) = false := by simp; omega
            go_upto_region 12 with fail
            go_quiet (first | (go_at_call 26; exact less_q _ _ _ _ (by assumption) (by assumption)) | (go_at_call 27; exact same_q _ _ _ _ (by assumption) (by assumption)))
            go_wp2
            exact ⟨⟨k + 1, by omega, by go_num, HT3.out.drewN _⟩, by simp [RowKit.intOf]; omega⟩
          · subst h
            generalize edge n i = A at *
            rw [decide_eq_false (show ¬ i < i by omega)] at l1
            rw [decide_eq_true (rfl : i = i)] at l2
            have m1 : decide ((i : Int) < i) = false := by simp
            have m2 : ((i : Int) == i) = true := by simp
            clear d2 hK k7I k7
            go_upto_region 12 with fail
            go_quiet (first | (go_at_call 26; exact less_q _ _ _ _ (by assumption) (by assumption)) | (go_at_call 27; exact same_q _ _ _ _ (by assumption) (by assumption)))
            go_wp2
            exact ⟨⟨i + 1, by omega, by go_num, HT3.out.drewN _⟩, by simp [RowKit.intOf]; omega⟩
          · generalize edge n i = A at *
            generalize edge n k = B at *
            rw [decide_eq_false (show ¬ i < k by omega)] at l1
            rw [decide_eq_false (show ¬ i = k by omega)] at l2
            have m1 : decide ((i : Int) < k) = false := by simp; omega
            have m3 : decide (i < k) = false := by simp; omega
            have m2 : ((i : Int) == k) = false := by simp; omega
            clear h
            go_upto_region 12 with fail
            go_quiet (first | (go_at_call 26; exact less_q _ _ _ _ (by assumption) (by assumption)) | (go_at_call 27; exact same_q _ _ _ _ (by assumption) (by assumption)))
            go_wp2
            exact ⟨⟨k + 1, by omega, by go_num, HT3.out.drewN _⟩, by simp [RowKit.intOf]; omega⟩
        · obtain rfl : k = 7 := by omega
          go_wp2
          exact ⟨⟨i + 1, by omega, by go_num, HT3.out⟩, by simp [RowKit.intOf]; omega⟩
    · obtain rfl : i = 7 := by omega
      have Ca := hid (fun (wx : World) (h : Touch [] wr wx) => (alive_any wx (Ht.out.touch (HT0.out.trans (HT.out.trans h (by simp)) (by simp)))).mono fun e w' ⟨he, ht⟩ => (⟨he, h.trans ht (by simp)⟩ : e = Ending.returned (Value.bool true) ∧ Touch [] wr w'))
      have Ct0 := hid (fun (wx : World) (h : Touch [] wr wx) => (text_any n wx hn (Ht.out.touch (HT0.out.trans (HT.out.trans h (by simp)) (by simp)))).mono fun e w' ⟨he, ht⟩ => (⟨he, h.trans ht (by simp)⟩ : e = Ending.returned (Value.string ⟨(textOf n).toArray⟩) ∧ Touch [] wr w'))
      have et : textOf n = [110, 97, 110] := by unfold textOf; rw [if_pos (by unfold cls; rw [if_pos HN.out])]
      rw [et] at Ct0
      have Ct := Ct0
      have Cb := hid (fun wx => bits_any n wx hn)
      rw [can_nan HN.out] at Cb
      have Cs : Hid (∀ wx : World, Touch [] wr wx → Calls Tryd.prog 30 #[.slice (some ⟨wx.heap.size, 0, none⟩) 2 2] (wx.alloc (.cells #[.float .f64 18442240474082181120, .float .f64 9218868437227405312] 24)) fun e w' => e = .returned (.float .f64 oneNan) ∧ Touch [] wr w') := fun wx h => by
        have h1 := sum_any (some ⟨wx.heap.size, 0, none⟩) 2 [18442240474082181120, 9218868437227405312] _ (show (2 : Nat) ≤ 9223372036854775807 by decide) (Nat.le_refl 2) (flts_new wx 24 [18442240474082181120, 9218868437227405312] (by decide))
        rw [show sumOf [18442240474082181120, 9218868437227405312] = oneNan by decide +kernel] at h1
        exact h1.mono fun e w' ⟨he, ht⟩ => ⟨he, (h.alloc _).trans ht (by simp)⟩
      have Cn : Hid (∀ wx : World, Touch [] wr wx → Calls Tryd.prog 30 #[.slice none 0 0] wx fun e w' => e = .returned (.float .f64 0) ∧ Touch [] wr w') := fun wx h =>
        (sum_any none 0 [] wx (by decide) (by decide) (fun i hi => absurd hi (Nat.not_lt_zero i))).mono fun e w' ⟨he, ht⟩ => ⟨he, h.trans ht (by simp)⟩
      have Cl : Hid (∀ wx : World, Calls Tryd.prog 32 #[.slice none 0 0] wx fun e w' => e = .returned (.float .f64 oneNan) ∧ wx = w') := fun wx => least_any none 0 [] wx (by decide) (by decide) (fun i hi => absurd hi (Nat.not_lt_zero i))
      have Cm : Hid (∀ wx : World, Calls Tryd.prog 33 #[.slice none 0 0] wx fun e w' => e = .returned (.float .f64 oneNan) ∧ wx = w') := fun wx => most_any none 0 [] wx (by decide) (by decide) (fun i hi => absurd hi (Nat.not_lt_zero i))
      have wd_one : Wd oneNan := by decide
      have wd_zero : Wd 0 := by decide
      have e1 : decide (can oneNan = can n) = true := by rw [can_nan HN.out]; decide
      have e2 : decide (can 0 = can 0) = true := by decide
      clear Ct0 et
      have c0 : wr.cell? ⟨w.heap.size, 0, none⟩ = some (.float .f64 18442240474082181120) := HT.out.cell (HE.out 0 (by decide))
      have c5 : wr.cell? ⟨w.heap.size, 5, none⟩ = some (.float .f64 9218868437227405312) := HT.out.cell (HE.out 5 (by decide))
      have S := hid (fun (wx : World) (h : Touch [] wr wx) => show wx.cell? ⟨w.heap.size, 0, none⟩ = some (.float .f64 18442240474082181120) ∧ wx.cell? ⟨w.heap.size, 5, none⟩ = some (.float .f64 9218868437227405312) from ⟨(HT.out.trans h (by simp)).cell (HE.out 0 (by decide)), (HT.out.trans h (by simp)).cell (HE.out 5 (by decide))⟩)
      go_upto_region 14 with fail
      go_region_held3 (fun w' => w'.cell? ⟨w.heap.size, 0, none⟩ = some (.float .f64 18442240474082181120) ∧ w'.cell? ⟨w.heap.size, 5, none⟩ = some (.float .f64 9218868437227405312)) (first | go_keep | (refine S.out _ ?_; (first | assumption | exact Touch.refl _ _ | exact (Touch.refl _ _).drew | exact (Touch.refl _ _).drewN _ | (refine Touch.drew ?_; assumption) | (refine Touch.alloc ?_ _; assumption) | (refine Touch.alloc (Touch.drew ?_) _; assumption) | (refine Touch.drew (Touch.alloc ?_ _); assumption) | (refine Touch.drewN ?_ _; assumption))))
        (first | (go_at_call 12; refine (Ca.out _ ?_).mono ?_; (first | assumption | exact Touch.refl _ _ | exact (Touch.refl _ _).drew | exact (Touch.refl _ _).drewN _ | (refine Touch.drew ?_; assumption) | (refine Touch.drewN ?_ _; assumption)); rintro e w3 ⟨rfl, h3⟩) | (go_at_call 24; refine (Ct.out _ ?_).mono ?_; (first | assumption | exact Touch.refl _ _ | exact (Touch.refl _ _).drew | exact (Touch.refl _ _).drewN _ | (refine Touch.drew ?_; assumption) | (refine Touch.drewN ?_ _; assumption)); rintro e w4 ⟨rfl, h4⟩) | (go_at_call 16; refine (Cb.out _).mono ?_; rintro e w' ⟨rfl, rfl⟩) | (go_at_call 27; refine (same_any _ _ _ ?_ ?_).mono ?_; (first | assumption | exact wd_one | exact wd_zero); (first | assumption | exact wd_one | exact wd_zero); rintro e w' ⟨rfl, rfl⟩) | (go_at_call 30; first | (with_reducible refine (Cs.out _ ?_).mono ?_; (first | assumption | exact Touch.refl _ _ | exact (Touch.refl _ _).drew | exact (Touch.refl _ _).drewN _ | (refine Touch.drew ?_; assumption) | (refine Touch.drewN ?_ _; assumption)); rintro e w5 ⟨rfl, h5⟩) | (with_reducible refine (Cn.out _ ?_).mono ?_; (first | assumption | exact Touch.refl _ _ | exact (Touch.refl _ _).drew | exact (Touch.refl _ _).drewN _ | (refine Touch.drew ?_; assumption) | (refine Touch.drewN ?_ _; assumption)); rintro e w6 ⟨rfl, h6⟩)) | (go_at_call 32; refine (Cl.out _).mono ?_; rintro e w' ⟨rfl, rfl⟩) | (go_at_call 33; refine (Cm.out _).mono ?_; rintro e w' ⟨rfl, rfl⟩))
      all_goals go_wp2
      all_goals go_ret
      all_goals (refine ⟨rfl, HT0.out.trans (G := []) (HT.out.trans (G := []) ?_ (by simp)) (by simp)⟩; first | assumption | (refine Touch.drew ?_; assumption) | (refine Touch.drewN ?_ _; assumption))
theorem walk_RealEdges (a : Int) (wa : (Lit.int .u64 a).wf = true) (w : World) (htab : Tab w) :
    Calls Tryd.prog 7 #[.int .u64 a] w fun e w' => e = .returned (.bool true) ∧ Touch [] w w' := by
  obtain ⟨x, rfl, hx⟩ := u64_nat wa
  exact edges_nat x hx w htab
end Go.Proofs.YtjljflaejfbljaaDoor
