/- RealSums, walked. -/
import Derived.Test.YtjljflaejfbljaaDoorWSigns
import Derived.Test.YtjljflaejfbljaaDoorFlist
namespace Go.Proofs.YtjljflaejfbljaaDoor
open Go.RowKit Go.Lib

theorem Wd.word {w : World} {x : Option Addr} {l : List Nat} (hc : ∀ i (h : i < l.length), ∃ b off, x = some ⟨b, off, none⟩ ∧ w.cell? ⟨b, off + i, none⟩ = some (.int .u64 (l[i] : Int)) ∧ Wd l[i]) : ∀ y ∈ l, Wd y := fun y hy => by
  obtain ⟨i, hi, rfl⟩ := List.getElem_of_mem hy
  obtain ⟨_, _, _, _, h⟩ := hc i hi
  exact h

set_option maxHeartbeats 2000000 in
theorem sums_long (x : Option Addr) (c : Nat) (l : List Nat) (f : Nat) (w : World) (htab : Tab w) (hl : 40 < (l.length : Int)) :
    Calls Tryd.prog 9 #[.slice x l.length c, .int .u64 f] w fun e w' => e = .returned (.bool true) ∧ Touch [] w w' := by
  have Ca := hid (alive_any w htab)
  clear htab
  go_enter Tryd.func9, Tryd.ntmps9
  go_wp2_with (go_at_call 12; refine Ca.out.mono ?_; rintro e w1 ⟨rfl, q1⟩)
  go_ret
  exact ⟨rfl, q1⟩

theorem sum_snoc (l : List Nat) (f : Nat) (hl : l ≠ []) (hw : ∀ y ∈ l, Wd y) (hf : Wd f) : can (sumOf (l ++ [f])) = can (sumOf [sumOf l, f]) ∧ (isNan f = true → cls (sumOf (l ++ [f])) = 0) ∧ Wd (sumOf (l ++ [f])) ∧ Wd (sumOf l) := by
  cases l with
  | nil => exact absurd rfl hl
  | cons a t =>
    have ha : Wd a := hw a (by simp)
    have hfold := fold_wd t a ha
    have e : sumOf ((a :: t) ++ [f]) = can (padd (t.foldl padd a) f) := by
      show can ((t ++ [f]).foldl padd a) = _
      rw [List.foldl_append]; rfl
    have e2 : sumOf [sumOf (a :: t), f] = can (padd (can (t.foldl padd a)) f) := rfl
    rw [e, e2]
    refine ⟨?_, fun hn => ?_, (padd_wd _ _).can, hfold.can⟩
    · rw [can_can, can_can]
      exact padd_can hfold hfold.can hf (can_can _).symm
    · rw [padd_nan hfold hf (.inr hn)]
      decide

set_option maxHeartbeats 4000000 in
theorem sums_full (x : Option Addr) (c : Nat) (l : List Nat) (f : Nat) (w : World) (htab : Tab w) (hf : Wd f) (hl : (l.length : Int) ≤ 40) (hne : l ≠ [])
    (hc : ∀ i (h : i < l.length), ∃ b off, x = some ⟨b, off, none⟩ ∧ w.cell? ⟨b, off + i, none⟩ = some (.int .u64 (l[i] : Int)) ∧ Wd l[i]) :
    Calls Tryd.prog 9 #[.slice x l.length c, .int .u64 f] w fun e w' => e = .returned (.bool true) ∧ Touch [] w w' := by
  have Ca := hid (alive_any w htab)
  have hb := frombits_run f
  have HW := hid (Wd.word hc)
  have HC := hid hc
  obtain ⟨s1, s2, s3, s4⟩ := sum_snoc l f hne HW.out hf
  have S1 := hid s1; have S2 := hid s2; clear s1 s2
  have hpos : 0 < l.length := List.length_pos_iff.2 hne
  obtain ⟨i0, hi, hz0, hz1, hz2⟩ := info_parts Tryd.infoFlt
  clear htab hc
  go_enter Tryd.func9, Tryd.ntmps9
  go_wp2_with fail
  refine Ca.out.mono ?_
  rintro e w1 ⟨rfl, a1⟩
  have A1 := hid a1; clear a1
  go_wp2_with fail
  refine (floats_any x c l w1 (by omega) (fun i hi => by obtain ⟨b, off, h1, h2, h3⟩ := HC.out i hi; exact ⟨b, off, h1, A1.out.cell h2, h3⟩)).mono ?_
  rintro e w2 ⟨v, rfl, hown, a2⟩
  have A2 : Hid (Touch [] w w2) := A1.out.trans a2 (by simp)
  obtain ⟨xa, xc, rfl, hx1, hx2, hx3, hx4⟩ := flts_own hown rfl HW.out
  have HX := hid hx3
  clear a2 hown hx3
  cases xa with
  | none => exact absurd (hx4 rfl).1 hne
  | some ad =>
  clear hx4
  have Hnews : Hid (∀ j u, (fvals l)[j]? = some u → w2.cell? (ad.add j) = some u) := fun j u hu => by
    unfold fvals at hu
    rw [List.getElem?_map] at hu
    cases hj : l[j]? with
    | none => rw [hj] at hu; cases hu
    | some t =>
      rw [hj] at hu
      obtain ⟨hlt, rfl⟩ := List.getElem?_eq_some_iff.1 hj
      obtain ⟨b, off, he, h2, _⟩ := HX.out j hlt
      obtain rfl := Option.some.inj he
      rw [show (⟨b, off, none⟩ : Addr).add j = ⟨b, off + j, none⟩ from by unfold Addr.add; split <;> simp_all, h2]
      exact hu
  go_wp2_with (first | (at_builtin; refine wpList_append_own _ rfl (.const (.slice none 0 0)) (.tmp 21) 42 rfl w2.heap.size 24 i0 (.float .f64 0) 1 8 Tryd.underlying42 hi hz0 hz1 hz2 rfl (by decide) (.slice none 0 0) 0 [] rfl (World.ownsRow_nil _ _ _ _) ad l.length xc (fvals l) rfl (by simp [fvals]) Hnews.out (fvals_one l) (by unfold maxLen; omega) (by omega) (Nat.le_refl _) ?_; intro v1 w3 hown1 hg1 _; simp only [Nat.zero_add, List.nil_append] at hown1; have Ht1 : Hid (Touch [] w2 w3) := (Touch.refl [] w2).grown hg1 (fun b hb => by cases hb); have HO1 := hid hown1; clear hg1 hown1) | (at_builtin; refine wpList_append_own _ rfl (.tmp 22) (.tmp 24) 42 rfl w2.heap.size 24 i0 (.float .f64 0) 1 8 Tryd.underlying42 hi hz0 hz1 hz2 rfl (by decide) (v1) (l.length) (fvals l) rfl (HO1.out.alloc _) ⟨w3.heap.size, 0, none⟩ 1 1 [.float .f64 f] rfl rfl (World.news_of_block (cs := #[.float .f64 f]) (t := 24) (fr := (0, 0)) (heap_alloc_new w3 _)) (by intro u hu; simp at hu; subst hu; rfl) (by unfold maxLen; omega) (by omega) (by have := Ht1.out.size; simp; omega) ?_; intro v2 w4 hown2 hg2 _; have Ht2 : Hid (Touch [] w2 w4) := (Ht1.out.alloc _).grown hg2 (fun b hb => .inr (HO1.out.lt b hb).1); rw [fvals_snoc] at hown2; have HO2 := hid hown2; clear hg2 hown2))
  obtain ⟨xb, xd, rfl, hy1, hy2, hy3, _⟩ := flts_own HO2.out (by simp) (fun y hy => by
    simp only [List.mem_append, List.mem_singleton] at hy
    rcases hy with hy | rfl
    · exact HW.out y hy
    · exact hf)
  have C1 := hid (sum_any xb xd (l ++ [f]) w4 (by unfold maxLen at hy2; omega) hy1 hy3)
  have C2 := hid (fun w5 (ht : Touch [] w2 w5) => sum_any (some ad) xc l w5 (by unfold maxLen at hx2; omega) hx1 (HX.out.touch ht))
  have C3 := hid (fun w5 : World => sum_any (some ⟨w5.heap.size, 0, none⟩) 2 [sumOf l, f] _ (show (2 : Nat) ≤ 9223372036854775807 by decide) (Nat.le_refl 2) (flts_new w5 24 [sumOf l, f] (by intro y hy; simp at hy; rcases hy with rfl | rfl; exact s4; exact hf)))
  have hl0 : ((l.length : Int) == 0) = false := by simp; exact hne
  have e1 : decide (can (sumOf (l ++ [f])) = can (sumOf [sumOf l, f])) = true := decide_eq_true S1.out
  have s5 : Wd (sumOf [sumOf l, f]) := (padd_wd _ _).can
  have Hs2 : Hid (isNan f = true → cls (sumOf (l ++ [f])) = 0) := S2
  clear hy1 hy2 hy3 hx1 hx2
  generalize sumOf [sumOf l, f] = B at *
  generalize sumOf (l ++ [f]) = A at *
  generalize sumOf l = S at *
  refine C1.out.mono ?_
  rintro e w5 ⟨rfl, a5⟩
  have A5 : Hid (Touch [] w2 w5) := Ht2.out.trans a5 (by simp)
  clear a5
  go_wp2_with fail
  refine (C2.out _ A5.out).mono ?_
  rintro e w6 ⟨rfl, a6⟩
  have A6 : Hid (Touch [] w2 w6) := A5.out.trans a6 (by simp)
  clear a6
  go_wp2_with fail
  refine (C3.out _).mono ?_
  rintro e w7 ⟨rfl, a7⟩
  have A7 : Hid (Touch [] w w7) := A2.out.trans ((A6.out.alloc _).trans a7 (by simp)) (by simp)
  clear a7
  cases hn : isNan f
  · go_wp2_with (first | (go_at_call 27; refine (same_any _ _ _ (by assumption) (by assumption)).mono ?_; rintro e w' ⟨rfl, rfl⟩) | (go_at_call 35; refine (isNaN_any _ _ (by assumption)).mono ?_; rintro e w' ⟨rfl, rfl⟩) | (go_at_call 22; refine (class_any _ _ (by assumption)).mono ?_; rintro e w' ⟨rfl, rfl⟩))
    go_ret
    exact ⟨rfl, A7.out⟩
  · have hcl := Hs2.out hn
    go_wp2_with (first | (go_at_call 27; refine (same_any _ _ _ (by assumption) (by assumption)).mono ?_; rintro e w' ⟨rfl, rfl⟩) | (go_at_call 35; refine (isNaN_any _ _ (by assumption)).mono ?_; rintro e w' ⟨rfl, rfl⟩) | (go_at_call 22; refine (class_any _ _ (by assumption)).mono ?_; rintro e w' ⟨rfl, rfl⟩))
    go_ret
    exact ⟨rfl, A7.out⟩

theorem floats_nil (x : Option Addr) (c : Nat) (w : World) :
    Calls Tryd.prog 34 #[.slice x 0 c] w fun e w' => e = .returned (.slice none 0 0) ∧ w = w' := by
  go_enter Tryd.func34, Tryd.ntmps34
  go_wp2
  refine wp_loop_rounds 1 ?_
  rw [rounds_succ]
  go_wp2
  go_ret
  exact ⟨rfl, rfl⟩

set_option maxHeartbeats 4000000 in
theorem sums_none (x : Option Addr) (c : Nat) (f : Nat) (w : World) (htab : Tab w) (hf : Wd f) :
    Calls Tryd.prog 9 #[.slice x 0 c, .int .u64 f] w fun e w' => e = .returned (.bool true) ∧ Touch [] w w' := by
  have Ca := hid (alive_any w htab)
  have hb := frombits_run f
  obtain ⟨i0, hi, hz0, hz1, hz2⟩ := info_parts Tryd.infoFlt
  have e1 : decide (can (sumOf [f]) = can f) = true := decide_eq_true (can_can f)
  have wS : Wd (sumOf [f]) := hf.can
  clear htab
  go_enter Tryd.func9, Tryd.ntmps9
  go_wp2_with fail
  refine Ca.out.mono ?_
  rintro e w1 ⟨rfl, a1⟩
  have A1 := hid a1; clear a1
  go_wp2_with (first | (go_at_call 34; refine (floats_nil _ _ _).mono ?_; rintro e w' ⟨rfl, rfl⟩) | (at_builtin; refine wpList_append_own_none rfl (.const (.slice none 0 0)) (.tmp 21) 42 rfl w1.heap.size 24 i0 1 Tryd.underlying42 hi (.slice none 0 0) 0 [] rfl (World.ownsRow_nil _ _ _ _) rfl ?_) | (at_builtin; refine wpList_append_own _ rfl (.tmp 22) (.tmp 24) 42 rfl w1.heap.size 24 i0 (.float .f64 0) 1 8 Tryd.underlying42 hi hz0 hz1 hz2 rfl (by decide) (.slice none 0 0) 0 [] rfl (World.ownsRow_nil _ _ _ _) ⟨w1.heap.size, 0, none⟩ 1 1 [.float .f64 f] rfl rfl (World.news_of_block (cs := #[.float .f64 f]) (t := 24) (fr := (0, 0)) (heap_alloc_new w1 _)) (by intro u hu; simp at hu; subst hu; rfl) (by unfold maxLen; omega) (by omega) (by simp) ?_; intro v2 w4 hown2 hg2 _; have Ht2 : Hid (Touch [] w1 w4) := ((Touch.refl _ _).alloc _).grown hg2 (fun b hb => by cases hb); have HO2 : Hid (w4.ownsRow w1.heap.size 24 1 v2 1 (fvals [f])) := hown2; clear hg2 hown2))
  obtain ⟨xb, xd, rfl, hy1, hy2, hy3, _⟩ := flts_own HO2.out rfl (by intro y hy; simp at hy; subst hy; exact hf)
  have C1 := hid (sum_any xb xd [f] w4 (show (1 : Nat) ≤ 9223372036854775807 by decide) hy1 hy3)
  clear hy1 hy2 hy3
  generalize sumOf [f] = S at *
  refine C1.out.mono ?_
  rintro e w5 ⟨rfl, a5⟩
  have A5 : Hid (Touch [] w w5) := A1.out.trans (Ht2.out.trans a5 (by simp)) (by simp)
  clear a5
  go_wp2_with (go_at_call 27; refine (same_any _ _ _ (by assumption) (by assumption)).mono ?_; rintro e w' ⟨rfl, rfl⟩)
  go_ret
  exact ⟨rfl, A5.out⟩
theorem walk_RealSums (v : Value) (l : List Nat) (b : Int) (wb : (Lit.int .u64 b).wf = true) (w : World) (htab : Tab w) (hv : U64s w v l) :
    Calls Tryd.prog 9 #[v, .int .u64 b] w fun e w' => e = .returned (.bool true) ∧ Touch [] w w' := by
  obtain ⟨f, rfl, hf⟩ := u64_nat wb
  obtain ⟨x, c, rfl, hl, hc⟩ := hv
  by_cases h1 : 40 < (l.length : Int)
  · exact sums_long x c l f w htab h1
  · by_cases h2 : l = []
    · subst h2
      exact sums_none x c f w htab hf
    · exact sums_full x c l f w htab hf (by omega) h2 hc
end Go.Proofs.YtjljflaejfbljaaDoor
