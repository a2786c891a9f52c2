/- TableMids, walked. -/
import Derived.Test.YtdjcpdlfapfmkaaAl13
namespace Go.Proofs.Ytdjcpdlfapfmkaa
open Go.RowKit Go.Lib Go.ChangeShapes
set_option maxRecDepth 100000

def midF (k : Nat) : En := (((k : Nat) : Int) / 7, ((k : Nat) : Int) % 7, 3 * ((k : Nat) : Int))
def midL (n : Nat) : List En := (List.range n).map midF
theorem midL_len (n : Nat) : (midL n).length = n := by simp [midL]
theorem midL_succ (n : Nat) : midL (n + 1) = midL n ++ [midF n] := by simp [midL, List.range_succ]
theorem midL_get (n k : Nat) (h : k < n) : (midL n)[k]'(by rw [midL_len]; exact h) = midF k := by simp [midL]
theorem midF_lt {i j : Nat} (h : i < j) : ltE (midF i) (midF j) := by
  unfold ltE midF
  simp only
  omega
theorem midL_fit (n : Nat) (h : n ≤ 100) : fitE (midL n) := by
  refine ⟨fun x hx => ?_, ?_⟩
  · unfold midL at hx
    rw [List.mem_map] at hx
    obtain ⟨k, hk, rfl⟩ := hx
    rw [List.mem_range] at hk
    unfold okM midF
    simp only
    omega
  · unfold midL
    rw [SortedE, List.pairwise_map]
    exact List.pairwise_lt_range.imp midF_lt
def ks (n : Nat) : List Nat := (List.range n).filter fun k => decide (k % 8 = 0) || decide (k = n - 1)
/-- What is asked of the midpoints' places. -/
def ksOk (n : Nat) : Bool := (n == 0 && (ks n).length == 0) || (n != 0 && (ks n)[0]? == some 0 && (ks n)[(ks n).length - 1]? == some (n - 1) && decide (1 ≤ (ks n).length) && (List.range (ks n).length).all fun j => j == 0 || (decide ((ks n).getD (j - 1) 0 < (ks n).getD j 0) && decide ((ks n).getD j 0 ≤ (ks n).getD (j - 1) 0 + 8)))
theorem ksOk_all : ∀ n, n < 101 → ksOk n = true := by decide +kernel
theorem mids_ks (n : Nat) : midsE (midL n) = (ks n).map midF := by
  unfold midsE ks
  rw [midL_len]
  apply List.map_congr_left
  intro k hk
  rw [List.mem_filter, List.mem_range] at hk
  rw [List.getElem?_eq_getElem (by rw [midL_len]; exact hk.1), midL_get n k hk.1]
  rfl
theorem ks_facts {n : Nat} (h : n ≤ 100) (h0 : n ≠ 0) : ∃ m, (ks n).length = m + 1 ∧ (ks n)[0]? = some 0 ∧ (ks n)[m]? = some (n - 1) ∧ ∀ j, j + 1 ≤ m → ∃ a b, (ks n)[j]? = some a ∧ (ks n)[j + 1]? = some b ∧ a < b ∧ b ≤ a + 8 := by
  have hk := ksOk_all n (by omega)
  unfold ksOk at hk
  generalize ks n = k at *
  have hn : (n == 0) = false := by simpa using h0
  rw [hn] at hk
  simp only [Bool.false_and, Bool.false_or, Bool.and_eq_true, beq_iff_eq, decide_eq_true_eq, List.all_eq_true, List.mem_range, Bool.or_eq_true] at hk
  obtain ⟨⟨⟨⟨_, e0⟩, e1⟩, e2⟩, e3⟩ := hk
  refine ⟨k.length - 1, by omega, e0, e1, fun j hj => ?_⟩
  have h1 : j < k.length := by omega
  have h2 : j + 1 < k.length := by omega
  refine ⟨k[j], k[j + 1], List.getElem?_eq_getElem h1, List.getElem?_eq_getElem h2, ?_⟩
  rcases e3 (j + 1) h2 with h | ⟨h5, h6⟩
  · omega
  · rw [Nat.add_sub_cancel, List.getD_eq_getElem?_getD, List.getD_eq_getElem?_getD, List.getElem?_eq_getElem h1, List.getElem?_eq_getElem h2] at h5 h6
    exact ⟨h5, h6⟩

set_option maxHeartbeats 8000000 in
theorem walk_TableMids (n : Int) (wn : (Lit.int .i64 n).wf = true) (W : World) :
    Calls Try.prog 6 #[.int .i64 n] W fun e W' => e = .returned (.bool true) ∧ Touch [] W W' := by
  have C0 := hid fun w' => alive13_true w'
  clear wn
  by_cases h1 : n < 0
  · go_enter Try.func6, Try.ntmps6
    go_wp2_with (go_at_call 30; refine (C0.out _).mono ?_; clear C0; rintro e w1 ⟨rfl, t1⟩; have T1 := hid t1; clear t1)
    go_ret
    exact ⟨rfl, T1.out⟩
  by_cases h2 : 100 < n
  · go_enter Try.func6, Try.ntmps6
    go_wp2_with (go_at_call 30; refine (C0.out _).mono ?_; clear C0; rintro e w1 ⟨rfl, t1⟩; have T1 := hid t1; clear t1)
    go_ret
    exact ⟨rfl, T1.out⟩
  obtain ⟨i0, hi, hz0, hz1, hz2⟩ := info_parts infoEn
  obtain ⟨N, rfl⟩ := Int.eq_ofNat_of_zero_le (show 0 ≤ n by omega)
  have hN : N ≤ 100 := by omega
  have g1 : (0 : Int) ≤ N := by omega
  have g2 : (N : Int) ≤ 100 := by omega
  clear h1 h2
  go_enter Try.func6, Try.ntmps6
  go_wp2
  go_loopw [3, 4] (fun uv iv wr => ∃ k : Nat, k ≤ N ∧ iv = .int .i64 k ∧ wr.ownsRow W.heap.size TEn 3 uv k (envals (midL k)) ∧ Touch [] W wr) (fun _ iv _ => N - (RowKit.intOf iv).toNat)
  case atStart => exact ⟨0, Nat.zero_le _, rfl, World.ownsRow_nil _ _ _ _, Touch.refl _ _⟩
  case round =>
    obtain ⟨k, hk, rfl, hown, ht⟩ := hrel
    obtain ⟨yu, cu, rfl, -, -⟩ := slice_form hown
    have HT := hid ht
    have HO := hid hown
    clear ht hown
    by_cases hlt : k < N
    · have hI : (k : Int) < N := by omega
      have hk0 : (0 : Int) ≤ k := by omega
      go_wp2_with (at_builtin; refine wpList_append_grew _ rfl _ _ TEns rfl W.heap.size TEn i0 (.agg #[.int .i64 0, .int .i64 0, .int .i64 0]) 3 24 Try.underlying36 hi hz0 hz1 hz2 rfl (by decide) _ k (envals (midL k)) rfl (HO.out.alloc _) (.slice (some ⟨wr.heap.size, 0, none⟩) 1 1) 1 0 (enc3 (midF k)) rfl (lit_en _ (midF k) _ rfl) (enc3_one _) (by omega) (by decide) (by have := HT.out.size; simp; omega) ?_; intro y cap w2 hG; have G := hid hG; clear hG)
      go_roundw
      case rel => exact ⟨k + 1, by omega, by go_num, by rw [midL_succ, envals_append]; simpa [envals] using G.out.own, G.out.touch (HO.out.alloc _) (HT.out.alloc _) (Nat.le_refl _)⟩
      case measure => simp [RowKit.intOf]; omega
    · obtain rfl : k = N := by omega
      have hfit := midL_fit k hN
      obtain ⟨x, c, hv, -, hx⟩ := entX_own HO.out
      cases hv
      have BU := hid (build_fit (c := cu) hx (by rw [midL_len]; omega) hfit)
      rw [midL_len] at BU
      have OP := hid fun w' => open_tab hfit w' (by rw [midL_len]; omega)
      have HX := hid hx
      have HL := hid (midL_len k)
      have GET := hid (midL_get k)
      have MK := hid (mids_ks k)
      have hlk : decide (k < k) = false := by simp
      generalize sealed (tabT (midL k)) = st at *
      clear hx HO hfit
      go_wp2_with fail
      refine BU.out.mono ?_
      rintro r w3 ⟨rfl, t3⟩
      have T3 := hid (HT.out.trans t3 (by simp))
      have X3 := hid (HX.out.t0 t3)
      clear t3 BU HT HX
      go_wp2_with fail
      refine (OP.out _).mono ?_
      rintro r w4 ⟨tb, rfl, ht4, t4⟩
      have T4 := hid (T3.out.trans t4 (by simp))
      have X4 := hid (X3.out.t0 t4)
      have A4 := hid ht4
      clear ht4 t4 OP T3 X3
      have MI := hid (tbmids_any A4.out (by rw [HL.out]; omega))
      rw [MK.out] at MI
      go_wp2_with fail
      refine MI.out.mono ?_
      rintro r w5 ⟨u, rfl, hu, t5⟩
      have T5 := hid (T4.out.trans t5 (by simp))
      have X5 := hid (X4.out.t0 t5)
      obtain ⟨xm, cm, rfl, -, hxm⟩ := entX_own hu
      have XM := hid hxm
      rw [List.length_map] at *
      clear hu t5 hxm MI T4 X4 A4
      by_cases hk0 : k = 0
      · subst hk0
        have e0 : (ks 0).length = 0 := rfl
        rw [e0]
        clear XM X5 GET MK HL
        go_wp2_with (go_at_call 30; refine (C0.out _).mono ?_; clear C0; rintro e w6 ⟨rfl, t1⟩; have T1 := hid (T5.out.trans t1 (by simp)); clear t1)
        go_ret
        exact ⟨rfl, T1.out⟩
      · obtain ⟨m, hm, k0, km, kj⟩ := ks_facts hN hk0
        rw [hm]
        have hkz : ((k : Int) == 0) = false := by rw [beq_eq_false_iff_ne]; omega
        have hkz2 : (k == 0) = false := by simpa using hk0
        have hm100 : m ≤ 100 := by
          have : (ks k).length ≤ k := Nat.le_trans (List.length_filter_le _ _) (by simp)
          omega
        go_wp2_with fail
        go_loopw [10] (fun iv wr => ∃ j : Nat, j ≤ m ∧ iv = .int .i64 ((j : Int) + 1) ∧ Touch [] w5 wr) (fun iv _ => m + 1 - (RowKit.intOf iv).toNat)
        case atStart => exact ⟨0, Nat.zero_le _, rfl, Touch.refl _ _⟩
        case round =>
          obtain ⟨j, hj, rfl, ht⟩ := hrel
          by_cases hjm : j < m
          · obtain ⟨a, b, ka, kb, hab, hba⟩ := kj j (by omega)
            have hja : j < (ks k).length := by omega
            have hjb : j + 1 < (ks k).length := by omega
            rw [List.getElem?_eq_getElem hja] at ka
            rw [List.getElem?_eq_getElem hjb] at kb
            obtain ⟨bb, off, hxx, a0, a1, a2⟩ := XM.out j (by rw [List.length_map]; exact hja)
            obtain ⟨bb2, off2, hxx2, b0, b1, b2⟩ := XM.out (j + 1) (by rw [List.length_map]; exact hjb)
            subst hxx
            cases hxx2
            rw [List.getElem_map] at a0 a1 a2 b0 b1 b2
            have ka2 : (ks k)[j] = a := by simpa using ka
            have kb2 : (ks k)[j + 1] = b := by simpa using kb
            rw [ka2] at a0 a1 a2
            rw [kb2] at b0 b1 b2
            have hbk : b < k := by
              have hm := List.getElem_mem hjb
              rw [kb2] at hm
              have := (List.mem_filter.1 hm).1
              rwa [List.mem_range] at this
            have hlt := midF_lt hab
            clear ka kb ka2 kb2 k0 km kj hja hjb
            obtain ⟨ι, f, ⟨θ0, hθ0⟩, inst, FT, FE⟩ := held_class wr
            have TT := fun θ => ht.trans (FT.out θ) (by simp)
            have F0 : ∀ θ, (f θ).cell? ⟨bb, off + j * 3, none⟩ = some (.int .i64 ((a : Int) / 7)) := fun θ => (TT θ).cell a0
            have F1 : ∀ θ, (f θ).cell? ⟨bb, off + j * 3 + 1, none⟩ = some (.int .i64 ((a : Int) % 7)) := fun θ => (TT θ).cell a1
            have F2 : ∀ θ, (f θ).cell? ⟨bb, off + j * 3 + 2, none⟩ = some (.int .i64 (3 * (a : Int))) := fun θ => (TT θ).cell a2
            have G0 : ∀ θ, (f θ).cell? ⟨bb, off + (j + 1) * 3, none⟩ = some (.int .i64 ((b : Int) / 7)) := fun θ => (TT θ).cell b0
            have G1 : ∀ θ, (f θ).cell? ⟨bb, off + (j + 1) * 3 + 1, none⟩ = some (.int .i64 ((b : Int) % 7)) := fun θ => (TT θ).cell b1
            have G2 : ∀ θ, (f θ).cell? ⟨bb, off + (j + 1) * 3 + 2, none⟩ = some (.int .i64 (3 * (b : Int))) := fun θ => (TT θ).cell b2
            have LL : Hid (∀ θ, Calls Try.prog 39 #[.agg #[.int .i64 ((a : Int) / 7), .int .i64 ((a : Int) % 7), .int .i64 (3 * (a : Int))], .agg #[.int .i64 ((b : Int) / 7), .int .i64 ((b : Int) % 7), .int .i64 (3 * (b : Int))]] (f θ) fun q w'' => q = .returned (.bool true) ∧ ∃ θ', w'' = f θ') := hid fun θ => by
              have h := less_any (midF a) (midF b) (f θ)
              rw [show decide (ltE (midF a) (midF b)) = true by simpa using hlt] at h
              exact h.mono fun q w'' ⟨h1, h2⟩ => ⟨h1, FE.out _ ((FT.out θ).trans h2 (by simp))⟩
            have TF := hid TT
            have a00 : (0 : Int) ≤ a := by omega
            have b00 : (0 : Int) ≤ b := by omega
            have a01 : (a : Int) ≤ 100 := by omega
            have b01 : (b : Int) ≤ 100 := by omega
            have j0 : (0 : Int) ≤ j := by omega
            have j1 : (j : Int) < m := by omega
            have m1 : (m : Int) ≤ 100 := by omega
            have d8 : decide (8 < (3 * (b : Int) - 3 * (a : Int)).tdiv 3) = false := by rw [decide_eq_false_iff_not, Int.tdiv_eq_ediv_of_nonneg (by omega)]; omega
            clear a0 a1 a2 b0 b1 b2 TT hlt hab hba hbk ht
            go_upto_region 18 with fail
            refine wp_region_held f θ0 (by kernel_rfl) (by kernel_rfl) hθ0 ?_
            repeat go_big_quiet_step (exact LL.out _)
            refine wpQuiet_nil ?_
            rintro _ ⟨θ, rfl⟩
            have k3 := hid (TF.out θ)
            generalize f θ = w6 at *
            clear F0 F1 F2 G0 G1 G2 LL FT FE hθ0 TF
            go_wp2
            go_roundw
            case rel => exact ⟨j + 1, by omega, by go_num, k3.out⟩
            case measure => simp [RowKit.intOf]; omega
          · obtain rfl : j = m := by omega
            have j0 : (0 : Int) ≤ j := by omega
            have m1 : (j : Int) ≤ 100 := by omega
            have hks0 : 0 < (ks k).length := by omega
            have hksm : j < (ks k).length := by omega
            rw [List.getElem?_eq_getElem hks0] at k0
            rw [List.getElem?_eq_getElem hksm] at km
            have k00 : (ks k)[0] = 0 := by simpa using k0
            have kmm : (ks k)[j] = k - 1 := by simpa using km
            obtain ⟨bb, off, hxx, a0, a1, a2⟩ := XM.out 0 (by rw [List.length_map]; exact hks0)
            obtain ⟨bb2, off2, hxx2, b0, b1, b2⟩ := XM.out j (by rw [List.length_map]; exact hksm)
            subst hxx
            cases hxx2
            rw [List.getElem_map, k00] at a0 a1 a2
            rw [List.getElem_map, kmm] at b0 b1 b2
            obtain ⟨cc, off3, hyy, c0, c1, c2⟩ := X5.out 0 (by rw [midL_len]; omega)
            obtain ⟨cc2, off4, hyy2, d0, d1, d2⟩ := X5.out (k - 1) (by rw [midL_len]; omega)
            subst hyy
            cases hyy2
            rw [midL_get k 0 (by omega)] at c0 c1 c2
            rw [midL_get k (k - 1) (by omega)] at d0 d1 d2
            obtain ⟨K, rfl⟩ : ∃ K, k = K + 1 := ⟨k - 1, by omega⟩
            simp only [Nat.add_sub_cancel, Nat.zero_mul, Nat.add_zero] at a0 a1 a2 b0 b1 b2 c0 c1 c2 d0 d1 d2
            have TT5 := hid (T5.out.trans ht (by simp))
            have CA := hid (C0.out wr)
            have AF := hid (show ∀ wx, Touch [] w5 wx → (wx.cell? ⟨bb, off, none⟩ = some (.int .i64 (midF 0).1) ∧ wx.cell? ⟨bb, off + 1, none⟩ = some (.int .i64 (midF 0).2.1) ∧ wx.cell? ⟨bb, off + 2, none⟩ = some (.int .i64 (midF 0).2.2)) ∧ (wx.cell? ⟨bb, off + j * 3, none⟩ = some (.int .i64 (midF K).1) ∧ wx.cell? ⟨bb, off + j * 3 + 1, none⟩ = some (.int .i64 (midF K).2.1) ∧ wx.cell? ⟨bb, off + j * 3 + 2, none⟩ = some (.int .i64 (midF K).2.2)) ∧ (wx.cell? ⟨cc, off3, none⟩ = some (.int .i64 (midF 0).1) ∧ wx.cell? ⟨cc, off3 + 1, none⟩ = some (.int .i64 (midF 0).2.1) ∧ wx.cell? ⟨cc, off3 + 2, none⟩ = some (.int .i64 (midF 0).2.2)) ∧ (wx.cell? ⟨cc, off3 + K * 3, none⟩ = some (.int .i64 (midF K).1) ∧ wx.cell? ⟨cc, off3 + K * 3 + 1, none⟩ = some (.int .i64 (midF K).2.1) ∧ wx.cell? ⟨cc, off3 + K * 3 + 2, none⟩ = some (.int .i64 (midF K).2.2)) from fun wx t => ⟨⟨t.cell a0, t.cell a1, t.cell a2⟩, ⟨t.cell b0, t.cell b1, t.cell b2⟩, ⟨t.cell c0, t.cell c1, t.cell c2⟩, ⟨t.cell d0, t.cell d1, t.cell d2⟩⟩)
            clear a0 a1 a2 b0 b1 b2 c0 c1 c2 d0 d1 d2 k0 km kj k00 kmm hks0 hksm
            generalize midF 0 = s0 at *
            generalize midF K = s1 at *
            obtain ⟨ι, f, ⟨θ0, hθ0⟩, inst, FT, FE⟩ := held_class wr
            have TF := hid (fun θ => ht.trans (FT.out θ) (by simp))
            have F0 : ∀ θ, (f θ).cell? ⟨bb, off, none⟩ = some (.int .i64 s0.1) := fun θ => (AF.out _ (TF.out θ)).1.1
            have F1 : ∀ θ, (f θ).cell? ⟨bb, off + 1, none⟩ = some (.int .i64 s0.2.1) := fun θ => (AF.out _ (TF.out θ)).1.2.1
            have F2 : ∀ θ, (f θ).cell? ⟨bb, off + 2, none⟩ = some (.int .i64 s0.2.2) := fun θ => (AF.out _ (TF.out θ)).1.2.2
            have G0 : ∀ θ, (f θ).cell? ⟨bb, off + j * 3, none⟩ = some (.int .i64 s1.1) := fun θ => (AF.out _ (TF.out θ)).2.1.1
            have G1 : ∀ θ, (f θ).cell? ⟨bb, off + j * 3 + 1, none⟩ = some (.int .i64 s1.2.1) := fun θ => (AF.out _ (TF.out θ)).2.1.2.1
            have G2 : ∀ θ, (f θ).cell? ⟨bb, off + j * 3 + 2, none⟩ = some (.int .i64 s1.2.2) := fun θ => (AF.out _ (TF.out θ)).2.1.2.2
            have H0 : ∀ θ, (f θ).cell? ⟨cc, off3, none⟩ = some (.int .i64 s0.1) := fun θ => (AF.out _ (TF.out θ)).2.2.1.1
            have H1 : ∀ θ, (f θ).cell? ⟨cc, off3 + 1, none⟩ = some (.int .i64 s0.2.1) := fun θ => (AF.out _ (TF.out θ)).2.2.1.2.1
            have H2 : ∀ θ, (f θ).cell? ⟨cc, off3 + 2, none⟩ = some (.int .i64 s0.2.2) := fun θ => (AF.out _ (TF.out θ)).2.2.1.2.2
            have I0 : ∀ θ, (f θ).cell? ⟨cc, off3 + K * 3, none⟩ = some (.int .i64 s1.1) := fun θ => (AF.out _ (TF.out θ)).2.2.2.1
            have I1 : ∀ θ, (f θ).cell? ⟨cc, off3 + K * 3 + 1, none⟩ = some (.int .i64 s1.2.1) := fun θ => (AF.out _ (TF.out θ)).2.2.2.2.1
            have I2 : ∀ θ, (f θ).cell? ⟨cc, off3 + K * 3 + 2, none⟩ = some (.int .i64 s1.2.2) := fun θ => (AF.out _ (TF.out θ)).2.2.2.2.2
            have LL : Hid (∀ θ, Calls Try.prog 30 #[] (f θ) fun q w'' => q = .returned (.bool true) ∧ ∃ θ', w'' = f θ') := hid fun θ => (C0.out (f θ)).mono fun q w'' ⟨h1, h2⟩ => ⟨h1, FE.out _ ((FT.out θ).trans h2 (by simp))⟩
            have hKI : (0 : Int) ≤ K := by omega
            have hKI2 : (K : Int) ≤ 99 := by omega
            have d1 : decide ((1 : Int) ≤ (j : Int) + 1) = true := by rw [decide_eq_true_eq]; omega
            have hK1 : ((K + 1 : Nat) : Int) = (K : Int) + 1 := rfl
            have hKl : (0 : Int) < (K : Int) + 1 := by omega
            go_upto_region 20 with fail
            simp only [hK1]
            refine wp_region_held f θ0 (by kernel_rfl) (by kernel_rfl) hθ0 ?_
            repeat go_big_quiet_step (exact LL.out _)
            refine wpQuiet_nil ?_
            rintro _ ⟨θ, rfl⟩
            have k3 := hid (T5.out.trans (TF.out θ) (by simp))
            generalize f θ = w6 at *
            clear F0 F1 F2 G0 G1 G2 H0 H1 H2 I0 I1 I2 LL FT FE hθ0 TF
            go_wp2
            go_ret
            exact ⟨rfl, k3.out⟩
end Go.Proofs.Ytdjcpdlfapfmkaa
