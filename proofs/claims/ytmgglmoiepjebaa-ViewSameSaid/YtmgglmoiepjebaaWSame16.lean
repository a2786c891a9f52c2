/- ViewSame, walked. -/
import Derived.Test.YtmgglmoiepjebaaAl16
import Derived.Test.YtmgglmoiepjebaaAg16
import Derived.Deep.CutBlock
import Derived.Deep.DeepCutAuto
namespace Go.Proofs.Ytmgglmoiepjebaa
open Go.RowKit Go.Lib Go.Shelf
set_option maxRecDepth 100000

abbrev stoCells (s : StoD) : Array Value := #[.int .i64 s.id, .string s.typ, .string s.data, .float .f64 s.value, .string s.stream, .int .i64 s.version, .int .i64 s.position, .int .i64 s.time]
theorem few_two (a b : StoD) (oka : a.Ok) (okb : b.Ok) (xb : Nat) (W : World) (h : W.heap[xb]? = some (.cells #[.int .i64 a.id, .string a.typ, .string a.data, .float .f64 a.value, .string a.stream, .int .i64 a.version, .int .i64 a.position, .int .i64 a.time, .int .i64 b.id, .string b.typ, .string b.data, .float .f64 b.value, .string b.stream, .int .i64 b.version, .int .i64 b.position, .int .i64 b.time] TSto (0, 0))) :
    Calls Try.prog 7 #[.int .i64 2, .slice (some ⟨xb, 0, none⟩) 2 2] W fun e w' => e = .returned (.bool (fewB 2 [a, b])) ∧ W = w' :=
  few_any 2 (by decide) (some ⟨xb, 0, none⟩) 2 [a, b] W (by simp) (stoX_new h rfl (by intro s hs; simp at hs; rcases hs with rfl | rfl; exact oka; exact okb))

theorem xor_ne (x : Int) (h0 : -9223372036854775808 ≤ x) (h1 : x ≤ 9223372036854775807) : bits .xor .i64 x 1 ≠ x := by
  unfold bits
  simp only []
  show IntKind.i64.wrap (((BitVec.ofInt 64 x ^^^ BitVec.ofInt 64 1).toNat : Nat) : Int) ≠ x
  rw [IntKind.wrap_i64]
  intro h
  have hX : ((BitVec.ofInt 64 x).toNat : Int) = x % 18446744073709551616 := by rw [BitVec.toNat_ofInt]; omega
  have hY := (BitVec.ofInt 64 x ^^^ BitVec.ofInt 64 1).isLt
  have e : (BitVec.ofInt 64 x ^^^ BitVec.ofInt 64 1).toNat = (BitVec.ofInt 64 x).toNat := by omega
  have e2 := BitVec.eq_of_toNat_eq e
  have e3 := congrArg (fun z => BitVec.ofInt 64 x ^^^ z) e2
  simp only [← BitVec.xor_assoc, BitVec.xor_self, BitVec.zero_xor] at e3
  exact absurd e3 (by decide)
theorem text_ne (s : ByteArray) : s ++ (⟨#[120]⟩ : ByteArray) ≠ s := by
  intro h
  have := congrArg ByteArray.size h
  simp [ByteArray.size_append] at this
  exact absurd this (by decide)
theorem canon_one : canon 4607182418800017408 = 4607182418800017408 := canon_num (by decide +kernel)
theorem canon_two : canon 4611686018427387904 = 4611686018427387904 := canon_num (by decide +kernel)
theorem val_ne1 {v : Nat} (h : (FloatKind.f64.format.order v 4607182418800017408 == some .eq) = false) : canon v ≠ canon 4607182418800017408 := by
  rw [canon_one]
  intro e
  unfold canon at e
  split at e
  · exact absurd e (by decide)
  · subst e
    exact absurd h (by decide +kernel)
theorem val_ne2 {v : Nat} (h : (FloatKind.f64.format.order v 4607182418800017408 == some .eq) = true) : canon v ≠ canon 4611686018427387904 := by
  rw [canon_two]
  intro e
  unfold canon at e
  split at e
  · exact absurd e (by decide)
  · subst e
    exact absurd h (by decide +kernel)

set_option maxHeartbeats 8000000 in
theorem walk_ViewSame (a : StoD) (oka : a.Ok) (b : StoD) (okb : b.Ok) (h : Int) (_wh : (Lit.int .i64 h).wf = true) (W : World) :
    Calls Try.prog 6 #[a.val, b.val, .int .i64 h] W fun e W' => e = .returned (.bool true) ∧ Touch [] W W' := by
  obtain ⟨a0, a1, a2, a3, a4, a5, a6, a7⟩ := a
  obtain ⟨b0, b1, b2, b3, b4, b5, b6, b7⟩ := b
  have hsf := store_flt
  have CA := hid alive16_any
  obtain ⟨W2, hW2⟩ : ∃ W2, W2 = (W.alloc (.cells (stoCells ⟨a0, a1, a2, a3, a4, a5, a6, a7⟩) TSto)).alloc (.cells (stoCells ⟨b0, b1, b2, b3, b4, b5, b6, b7⟩) TSto) := ⟨_, rfl⟩
  have T2 : Touch [] W W2 := by rw [hW2]; exact ((Touch.refl [] W).alloc _).alloc _
  have hs2 : W2.heap.size = W.heap.size + 2 := by rw [hW2]; simp
  have A2 : Hid (W2.heap[W.heap.size]? = some (.cells (stoCells ⟨a0, a1, a2, a3, a4, a5, a6, a7⟩) TSto (0, 0))) := by rw [hW2]; exact hid (heap_alloc_keep (heap_alloc_new W _) _)
  have B2 : Hid (W2.heap[W.heap.size + 1]? = some (.cells (stoCells ⟨b0, b1, b2, b3, b4, b5, b6, b7⟩) TSto (0, 0))) := by rw [hW2]; exact hid (new_at_two W _ _)
  have CF := hid (few_two ⟨a0, a1, a2, a3, a4, a5, a6, a7⟩ ⟨b0, b1, b2, b3, b4, b5, b6, b7⟩ oka okb W2.heap.size _ (heap_alloc_new W2 _))
  have x0 := cell_of A2.out 0; have x1 := cell_of A2.out 1; have x2 := cell_of A2.out 2; have x3 := cell_of A2.out 3; have x4 := cell_of A2.out 4; have x5 := cell_of A2.out 5; have x6 := cell_of A2.out 6; have x7 := cell_of A2.out 7
  have y0 := cell_of B2.out 0; have y1 := cell_of B2.out 1; have y2 := cell_of B2.out 2; have y3 := cell_of B2.out 3; have y4 := cell_of B2.out 4; have y5 := cell_of B2.out 5; have y6 := cell_of B2.out 6; have y7 := cell_of B2.out 7
  simp only [stoCells, List.getElem?_toArray, List.getElem?_cons_zero, List.getElem?_cons_succ] at x0 x1 x2 x3 x4 x5 x6 x7 y0 y1 y2 y3 y4 y5 y6 y7
  have HT := hid T2
  have HS := hid hs2
  clear T2 hs2
  cases hf : fewB 2 [(⟨a0, a1, a2, a3, a4, a5, a6, a7⟩ : StoD), ⟨b0, b1, b2, b3, b4, b5, b6, b7⟩]
  · rw [hf] at CF
    clear hf
    go_enter Try.func6, Try.ntmps6
    go_upto_region 1 with fail
    simp only [stoCells, TSto] at hW2
    rw [← hW2]
    clear hW2
    go_wp2_with (first
      | (go_at_call 7; refine CF.out.mono ?_; clear CF; rintro e w1 ⟨rfl, rfl⟩)
      | (go_at_call 8; refine (CA.out _).mono ?_; clear CA; rintro e w2 ⟨rfl, t2⟩; have T9 := hid t2; clear t2))
    go_ret
    exact ⟨rfl, (HT.out.alloc _).trans T9.out (by simp)⟩
  · rw [hf] at CF
    have FP := (few_parts hf).2 ⟨a0, a1, a2, a3, a4, a5, a6, a7⟩ (by simp)
    dsimp only at FP
    have r1 : ¬ 9223372036854775807 < a1.size + 1 := by omega
    have r2 : ¬ 9223372036854775807 < a2.size + 1 := by omega
    have r4 : ¬ 9223372036854775807 < a4.size + 1 := by omega
    clear hf FP
    go_enter Try.func6, Try.ntmps6
    go_upto_region 1 with fail
    simp only [stoCells, TSto] at hW2
    rw [← hW2]
    clear hW2
    have KX : Hid (∀ o : Obj, (W2.alloc o).cell? ⟨W.heap.size, 0, none⟩ = some (.int .i64 a0) ∧ (W2.alloc o).cell? ⟨W.heap.size, 1, none⟩ = some (.string a1) ∧ (W2.alloc o).cell? ⟨W.heap.size, 2, none⟩ = some (.string a2) ∧ (W2.alloc o).cell? ⟨W.heap.size, 3, none⟩ = some (.float .f64 a3) ∧ (W2.alloc o).cell? ⟨W.heap.size, 4, none⟩ = some (.string a4) ∧ (W2.alloc o).cell? ⟨W.heap.size, 5, none⟩ = some (.int .i64 a5) ∧ (W2.alloc o).cell? ⟨W.heap.size, 6, none⟩ = some (.int .i64 a6) ∧ (W2.alloc o).cell? ⟨W.heap.size, 7, none⟩ = some (.int .i64 a7)) := hid fun o => by
      have t : Touch [] W2 (W2.alloc o) := (Touch.refl [] W2).alloc o
      exact ⟨t.cell x0, t.cell x1, t.cell x2, t.cell x3, t.cell x4, t.cell x5, t.cell x6, t.cell x7⟩
    go_upto_region 3 with (go_at_call 7; refine CF.out.mono ?_; clear CF; rintro e w1 ⟨rfl, rfl⟩)
    obtain ⟨g0, g1, g2, g3, g4, g5, g6, g7⟩ := KX.out (.cells #[.int .i64 a0, .string a1, .string a2, .float .f64 a3, .string a4, .int .i64 a5, .int .i64 a6, .int .i64 a7, .int .i64 b0, .string b1, .string b2, .float .f64 b3, .string b4, .int .i64 b5, .int .i64 b6, .int .i64 b7] 29)
    go_upto_block 0 with fail
    clear g0 g1 g2 g3 g4 g5 g6 g7
    have KX2 : Hid (∀ o : Obj, ∃ W4, W4 = (W2.alloc o).alloc (.cells #[.int .i64 a0, .string a1, .string a2, .float .f64 a3, .string a4, .int .i64 a5, .int .i64 a6, .int .i64 a7] 29) ∧ Touch [] W2 W4 ∧ W4.heap[W2.heap.size + 1]? = some (.cells (stoCells ⟨a0, a1, a2, a3, a4, a5, a6, a7⟩) TSto (0, 0))) := hid fun o => ⟨_, rfl, ((Touch.refl [] W2).alloc _).alloc _, by have := heap_alloc_new (W2.alloc o) (.cells #[.int .i64 a0, .string a1, .string a2, .float .f64 a3, .string a4, .int .i64 a5, .int .i64 a6, .int .i64 a7] 29); rwa [World.size_alloc] at this⟩
    obtain ⟨W4, hW4, t4, c4⟩ := KX2.out (.cells #[.int .i64 a0, .string a1, .string a2, .float .f64 a3, .string a4, .int .i64 a5, .int .i64 a6, .int .i64 a7, .int .i64 b0, .string b1, .string b2, .float .f64 b3, .string b4, .int .i64 b5, .int .i64 b6, .int .i64 b7] 29)
    rw [← hW4]
    clear hW4 KX2 KX
    have HC := hid c4
    have T4 := hid t4
    clear c4 t4 x0 x1 x2 x3 x4 x5 x6 x7 y0 y1 y2 y3 y4 y5 y6 y7
    have x3 := T4.out.cell (show W2.cell? ⟨W.heap.size, 3, none⟩ = some (.float .f64 a3) from cell_of A2.out 3)
    generalize bits .and .i64 h 7 = k at *
    have z0 : W4.cell? ⟨W2.heap.size + 1, 0, none⟩ = some (.int .i64 a0) := cell_of HC.out 0
    have z1 : W4.cell? ⟨W2.heap.size + 1, 1, none⟩ = some (.string a1) := cell_of HC.out 1
    have z2 : W4.cell? ⟨W2.heap.size + 1, 2, none⟩ = some (.string a2) := cell_of HC.out 2
    have z3 : W4.cell? ⟨W2.heap.size + 1, 3, none⟩ = some (.float .f64 a3) := cell_of HC.out 3
    have z4 : W4.cell? ⟨W2.heap.size + 1, 4, none⟩ = some (.string a4) := cell_of HC.out 4
    have z5 : W4.cell? ⟨W2.heap.size + 1, 5, none⟩ = some (.int .i64 a5) := cell_of HC.out 5
    have z6 : W4.cell? ⟨W2.heap.size + 1, 6, none⟩ = some (.int .i64 a6) := cell_of HC.out 6
    have z7 : W4.cell? ⟨W2.heap.size + 1, 7, none⟩ = some (.int .i64 a7) := cell_of HC.out 7
    have f0 : W4.frozen? ⟨W2.heap.size + 1, 0, none⟩ = false := free_of HC.out 0
    have f1 : W4.frozen? ⟨W2.heap.size + 1, 1, none⟩ = false := free_of HC.out 1
    have f2 : W4.frozen? ⟨W2.heap.size + 1, 2, none⟩ = false := free_of HC.out 2
    have f3 : W4.frozen? ⟨W2.heap.size + 1, 3, none⟩ = false := free_of HC.out 3
    have f4 : W4.frozen? ⟨W2.heap.size + 1, 4, none⟩ = false := free_of HC.out 4
    have f5 : W4.frozen? ⟨W2.heap.size + 1, 5, none⟩ = false := free_of HC.out 5
    have f6 : W4.frozen? ⟨W2.heap.size + 1, 6, none⟩ = false := free_of HC.out 6
    have f7 : W4.frozen? ⟨W2.heap.size + 1, 7, none⟩ = false := free_of HC.out 7
    have NE : Hid (W.heap.size ≠ W2.heap.size + 1) := hid (by have := HS.out; omega)
    have OKA := hid oka
    have hne : ¬ W.heap.size = W2.heap.size + 1 := NE.out
    clear oka okb
    go_cut [] (fun wx => ∃ c : StoD, sameS ⟨a0, a1, a2, a3, a4, a5, a6, a7⟩ c = false ∧ wx.heap[W2.heap.size + 1]? = some (.cells (stoCells c) TSto (0, 0)) ∧ Touch [W2.heap.size + 1] W4 wx)
    case first =>
      by_cases hk0 : k = 0
      · have q0 : (k == 0) = true := by simpa using hk0
        clear hk0
        go_wp2
        go_meet
        exact ⟨⟨(bits .xor .i64 a0 1), a1, a2, a3, a4, a5, a6, a7⟩, by simp [sameS, sameE]; intros; first | exact fun e => (xor_ne a0 OKA.out.i0 OKA.out.i1) e.symm | exact absurd (by assumption) (fun e => (xor_ne a0 OKA.out.i0 OKA.out.i1) e.symm), heap_set HC.out _, (Touch.refl _ W4).setCell (.inl (by simp)) _⟩
      have q0 : (k == 0) = false := by simpa using hk0
      clear hk0
      by_cases hk1 : k = 1
      · have q1 : (k == 1) = true := by simpa using hk1
        clear hk1
        go_wp2
        go_meet
        exact ⟨⟨a0, (a1 ++ (⟨#[120]⟩ : ByteArray)), a2, a3, a4, a5, a6, a7⟩, by simp [sameS, sameE]; intros; first | exact fun e => (text_ne a1) e.symm | exact absurd (by assumption) (fun e => (text_ne a1) e.symm), heap_set HC.out _, (Touch.refl _ W4).setCell (.inl (by simp)) _⟩
      have q1 : (k == 1) = false := by simpa using hk1
      clear hk1
      by_cases hk2 : k = 2
      · have q2 : (k == 2) = true := by simpa using hk2
        clear hk2
        go_wp2
        go_meet
        exact ⟨⟨a0, a1, (a2 ++ (⟨#[120]⟩ : ByteArray)), a3, a4, a5, a6, a7⟩, by simp [sameS, sameE]; intros; first | exact fun e => (text_ne a2) e.symm | exact absurd (by assumption) (fun e => (text_ne a2) e.symm), heap_set HC.out _, (Touch.refl _ W4).setCell (.inl (by simp)) _⟩
      have q2 : (k == 2) = false := by simpa using hk2
      clear hk2
      by_cases hk3 : k = 3
      · have q3 : (k == 3) = true := by simpa using hk3
        clear hk3
        go_wp2
        go_meet
        exact ⟨⟨a0, a1, a2, a3, (a4 ++ (⟨#[120]⟩ : ByteArray)), a5, a6, a7⟩, by simp [sameS, sameE]; intros; first | exact fun e => (text_ne a4) e.symm | exact absurd (by assumption) (fun e => (text_ne a4) e.symm), heap_set HC.out _, (Touch.refl _ W4).setCell (.inl (by simp)) _⟩
      have q3 : (k == 3) = false := by simpa using hk3
      clear hk3
      by_cases hk4 : k = 4
      · have q4 : (k == 4) = true := by simpa using hk4
        clear hk4
        go_wp2
        go_meet
        exact ⟨⟨a0, a1, a2, a3, a4, (bits .xor .i64 a5 1), a6, a7⟩, by simp [sameS, sameE]; intros; first | exact fun e => (xor_ne a5 OKA.out.lo OKA.out.hi) e.symm | exact absurd (by assumption) (fun e => (xor_ne a5 OKA.out.lo OKA.out.hi) e.symm), heap_set HC.out _, (Touch.refl _ W4).setCell (.inl (by simp)) _⟩
      have q4 : (k == 4) = false := by simpa using hk4
      clear hk4
      by_cases hk5 : k = 5
      · have q5 : (k == 5) = true := by simpa using hk5
        clear hk5
        go_wp2
        go_meet
        exact ⟨⟨a0, a1, a2, a3, a4, a5, (bits .xor .i64 a6 1), a7⟩, by simp [sameS, sameE]; intros; first | exact fun e => (xor_ne a6 OKA.out.p0 OKA.out.p1) e.symm | exact absurd (by assumption) (fun e => (xor_ne a6 OKA.out.p0 OKA.out.p1) e.symm), heap_set HC.out _, (Touch.refl _ W4).setCell (.inl (by simp)) _⟩
      have q5 : (k == 5) = false := by simpa using hk5
      clear hk5
      by_cases hk6 : k = 6
      · have q6 : (k == 6) = true := by simpa using hk6
        clear hk6
        go_wp2
        go_meet
        exact ⟨⟨a0, a1, a2, a3, a4, a5, a6, (bits .xor .i64 a7 1)⟩, by simp [sameS, sameE]; intros; first | exact fun e => (xor_ne a7 OKA.out.m0 OKA.out.m1) e.symm | exact absurd (by assumption) (fun e => (xor_ne a7 OKA.out.m0 OKA.out.m1) e.symm), heap_set HC.out _, (Touch.refl _ W4).setCell (.inl (by simp)) _⟩
      have q6 : (k == 6) = false := by simpa using hk6
      clear hk6
      cases hv : (FloatKind.f64.format.order a3 4607182418800017408 == some .eq)
      · have NV := hid (val_ne1 hv)
        go_wp2
        go_meet
        exact ⟨⟨a0, a1, a2, 4607182418800017408, a4, a5, a6, a7⟩, by simp [sameS, sameE, NV.out], heap_set HC.out _, (Touch.refl _ W4).setCell (.inl (by simp)) _⟩
      · have NV := hid (val_ne2 hv)
        go_wp2
        go_meet
        exact ⟨⟨a0, a1, a2, 4611686018427387904, a4, a5, a6, a7⟩, by simp [sameS, sameE, NV.out], heap_set (heap_set HC.out _) _, ((Touch.refl _ W4).setCell (.inl (by simp)) _).setCell (.inl (by simp)) _⟩
    case rest =>
      obtain ⟨⟨c0, c1, c2, c3, c4, c5, c6, c7⟩, hcf, hcb, tc⟩ := hcut
      have A5 := hid (touch_other tc (touch_other T4.out A2.out (by simp)) (by simp [hne]))
      have B5 := hid (touch_other tc (touch_other T4.out B2.out (by simp)) (by have := HS.out; simp; omega))
      have C5 := hid hcb
      have T5 : Hid (Touch [] W wc) := hid ((HT.out.trans T4.out (by simp)).trans tc (by have := HS.out; intro k hk; right; simp at hk; omega))
      have SAA := hid fun w => viewSame_any ⟨a0, a1, a2, a3, a4, a5, a6, a7⟩ ⟨a0, a1, a2, a3, a4, a5, a6, a7⟩ w
      have SAB := hid fun w => viewSame_any ⟨a0, a1, a2, a3, a4, a5, a6, a7⟩ ⟨b0, b1, b2, b3, b4, b5, b6, b7⟩ w
      have SBA := hid fun w => viewSame_any ⟨b0, b1, b2, b3, b4, b5, b6, b7⟩ ⟨a0, a1, a2, a3, a4, a5, a6, a7⟩ w
      have SRF := hid fun w => refSameS_any ⟨a0, a1, a2, a3, a4, a5, a6, a7⟩ ⟨b0, b1, b2, b3, b4, b5, b6, b7⟩ w
      have SAC := hid fun w => viewSame_any ⟨a0, a1, a2, a3, a4, a5, a6, a7⟩ ⟨c0, c1, c2, c3, c4, c5, c6, c7⟩ w
      rw [sameS_self] at SAA
      rw [sameS_comm ⟨b0, b1, b2, b3, b4, b5, b6, b7⟩ ⟨a0, a1, a2, a3, a4, a5, a6, a7⟩] at SBA
      rw [hcf] at SAC
      generalize sameS ⟨a0, a1, a2, a3, a4, a5, a6, a7⟩ ⟨b0, b1, b2, b3, b4, b5, b6, b7⟩ = g at *
      clear hcf hcb tc hne
      obtain ⟨ι, f, ⟨θ0, hθ0⟩, Fa0, Fa1, Fa2, Fa3, Fa4, Fa5, Fa6, Fa7, Fb0, Fb1, Fb2, Fb3, Fb4, Fb5, Fb6, Fb7, Fc0, Fc1, Fc2, Fc3, Fc4, Fc5, Fc6, Fc7, FT, FA, FS1, FS2, FS3, FS4, FS5⟩ : ∃ (ι : Type) (f : ι → World), (∃ θ, f θ = wc.drew) ∧ (∀ θ, (f θ).cell? ⟨W.heap.size, 0, none⟩ = some (.int .i64 a0)) ∧ (∀ θ, (f θ).cell? ⟨W.heap.size, 1, none⟩ = some (.string a1)) ∧ (∀ θ, (f θ).cell? ⟨W.heap.size, 2, none⟩ = some (.string a2)) ∧ (∀ θ, (f θ).cell? ⟨W.heap.size, 3, none⟩ = some (.float .f64 a3)) ∧ (∀ θ, (f θ).cell? ⟨W.heap.size, 4, none⟩ = some (.string a4)) ∧ (∀ θ, (f θ).cell? ⟨W.heap.size, 5, none⟩ = some (.int .i64 a5)) ∧ (∀ θ, (f θ).cell? ⟨W.heap.size, 6, none⟩ = some (.int .i64 a6)) ∧ (∀ θ, (f θ).cell? ⟨W.heap.size, 7, none⟩ = some (.int .i64 a7)) ∧ (∀ θ, (f θ).cell? ⟨W.heap.size + 1, 0, none⟩ = some (.int .i64 b0)) ∧ (∀ θ, (f θ).cell? ⟨W.heap.size + 1, 1, none⟩ = some (.string b1)) ∧ (∀ θ, (f θ).cell? ⟨W.heap.size + 1, 2, none⟩ = some (.string b2)) ∧ (∀ θ, (f θ).cell? ⟨W.heap.size + 1, 3, none⟩ = some (.float .f64 b3)) ∧ (∀ θ, (f θ).cell? ⟨W.heap.size + 1, 4, none⟩ = some (.string b4)) ∧ (∀ θ, (f θ).cell? ⟨W.heap.size + 1, 5, none⟩ = some (.int .i64 b5)) ∧ (∀ θ, (f θ).cell? ⟨W.heap.size + 1, 6, none⟩ = some (.int .i64 b6)) ∧ (∀ θ, (f θ).cell? ⟨W.heap.size + 1, 7, none⟩ = some (.int .i64 b7)) ∧ (∀ θ, (f θ).cell? ⟨W2.heap.size + 1, 0, none⟩ = some (.int .i64 c0)) ∧ (∀ θ, (f θ).cell? ⟨W2.heap.size + 1, 1, none⟩ = some (.string c1)) ∧ (∀ θ, (f θ).cell? ⟨W2.heap.size + 1, 2, none⟩ = some (.string c2)) ∧ (∀ θ, (f θ).cell? ⟨W2.heap.size + 1, 3, none⟩ = some (.float .f64 c3)) ∧ (∀ θ, (f θ).cell? ⟨W2.heap.size + 1, 4, none⟩ = some (.string c4)) ∧ (∀ θ, (f θ).cell? ⟨W2.heap.size + 1, 5, none⟩ = some (.int .i64 c5)) ∧ (∀ θ, (f θ).cell? ⟨W2.heap.size + 1, 6, none⟩ = some (.int .i64 c6)) ∧ (∀ θ, (f θ).cell? ⟨W2.heap.size + 1, 7, none⟩ = some (.int .i64 c7)) ∧ Hid (∀ θ, Touch [] W (f θ)) ∧ Hid (∀ θ, Calls Try.prog 8 #[] (f θ) fun e w'' => e = .returned (.bool true) ∧ ∃ θ', w'' = f θ') ∧ Hid (∀ θ, Calls Try.prog 18 #[(⟨a0, a1, a2, a3, a4, a5, a6, a7⟩ : StoD).val, (⟨a0, a1, a2, a3, a4, a5, a6, a7⟩ : StoD).val] (f θ) fun e w'' => e = .returned (.bool true) ∧ ∃ θ', w'' = f θ') ∧ Hid (∀ θ, Calls Try.prog 18 #[(⟨a0, a1, a2, a3, a4, a5, a6, a7⟩ : StoD).val, (⟨b0, b1, b2, b3, b4, b5, b6, b7⟩ : StoD).val] (f θ) fun e w'' => e = .returned (.bool g) ∧ ∃ θ', w'' = f θ') ∧ Hid (∀ θ, Calls Try.prog 18 #[(⟨b0, b1, b2, b3, b4, b5, b6, b7⟩ : StoD).val, (⟨a0, a1, a2, a3, a4, a5, a6, a7⟩ : StoD).val] (f θ) fun e w'' => e = .returned (.bool g) ∧ ∃ θ', w'' = f θ') ∧ Hid (∀ θ, Calls Try.prog 14 #[(⟨a0, a1, a2, a3, a4, a5, a6, a7⟩ : StoD).val, (⟨b0, b1, b2, b3, b4, b5, b6, b7⟩ : StoD).val] (f θ) fun e w'' => e = .returned (.bool g) ∧ ∃ θ', w'' = f θ') ∧ Hid (∀ θ, Calls Try.prog 18 #[(⟨a0, a1, a2, a3, a4, a5, a6, a7⟩ : StoD).val, (⟨c0, c1, c2, c3, c4, c5, c6, c7⟩ : StoD).val] (f θ) fun e w'' => e = .returned (.bool false) ∧ ∃ θ', w'' = f θ') :=
        ⟨{wx // Touch [] wc wx}, Subtype.val, ⟨⟨_, (Touch.refl [] wc).drew⟩, rfl⟩, fun θ => θ.2.cell (cell_of A5.out 0), fun θ => θ.2.cell (cell_of A5.out 1), fun θ => θ.2.cell (cell_of A5.out 2), fun θ => θ.2.cell (cell_of A5.out 3), fun θ => θ.2.cell (cell_of A5.out 4), fun θ => θ.2.cell (cell_of A5.out 5), fun θ => θ.2.cell (cell_of A5.out 6), fun θ => θ.2.cell (cell_of A5.out 7), fun θ => θ.2.cell (cell_of B5.out 0), fun θ => θ.2.cell (cell_of B5.out 1), fun θ => θ.2.cell (cell_of B5.out 2), fun θ => θ.2.cell (cell_of B5.out 3), fun θ => θ.2.cell (cell_of B5.out 4), fun θ => θ.2.cell (cell_of B5.out 5), fun θ => θ.2.cell (cell_of B5.out 6), fun θ => θ.2.cell (cell_of B5.out 7), fun θ => θ.2.cell (cell_of C5.out 0), fun θ => θ.2.cell (cell_of C5.out 1), fun θ => θ.2.cell (cell_of C5.out 2), fun θ => θ.2.cell (cell_of C5.out 3), fun θ => θ.2.cell (cell_of C5.out 4), fun θ => θ.2.cell (cell_of C5.out 5), fun θ => θ.2.cell (cell_of C5.out 6), fun θ => θ.2.cell (cell_of C5.out 7), hid fun θ => T5.out.trans θ.2 (by simp),
          hid fun θ => (CA.out _).mono fun e w'' ⟨he, h2⟩ => ⟨he, ⟨⟨w'', θ.2.trans h2 (by simp)⟩, rfl⟩⟩, hid fun θ => (SAA.out _).mono fun e w'' ⟨he, h2⟩ => ⟨he, ⟨⟨w'', θ.2.trans h2 (by simp)⟩, rfl⟩⟩, hid fun θ => (SAB.out _).mono fun e w'' ⟨he, h2⟩ => ⟨he, ⟨⟨w'', θ.2.trans h2 (by simp)⟩, rfl⟩⟩, hid fun θ => (SBA.out _).mono fun e w'' ⟨he, h2⟩ => ⟨he, ⟨⟨w'', θ.2.trans h2 (by simp)⟩, rfl⟩⟩, hid fun θ => (SRF.out _).mono fun e w'' ⟨he, h2⟩ => ⟨he, ⟨⟨w'', θ.2.trans h2 (by simp)⟩, rfl⟩⟩, hid fun θ => (SAC.out _).mono fun e w'' ⟨he, h2⟩ => ⟨he, ⟨⟨w'', θ.2.trans h2 (by simp)⟩, rfl⟩⟩⟩
      have Hθ := hid hθ0
      have inst : Nonempty ι := ⟨θ0⟩
      clear hθ0 CA SAA SAB SBA SRF SAC
      go_upto_region 22 with fail
      cases g
      all_goals
        refine wp_region_held f θ0 (by kernel_rfl) (by kernel_rfl) Hθ.out ?_
        repeat go_big_quiet_step (first | with_reducible exact FA.out _ | with_reducible exact FS1.out _ | with_reducible exact FS2.out _ | with_reducible exact FS3.out _ | with_reducible exact FS4.out _ | with_reducible exact FS5.out _)
        refine wpQuiet_nil ?_
        intro _ hw'
        obtain ⟨θ, hw''⟩ := hw'
        subst hw''
        have T9 := hid (FT.out θ)
        go_wp2
        go_ret
        exact ⟨rfl, T9.out⟩
end Go.Proofs.Ytmgglmoiepjebaa
