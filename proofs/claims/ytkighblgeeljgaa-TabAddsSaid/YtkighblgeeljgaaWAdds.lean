/- TabAdds, walked. -/
import Derived.Test.YtkighblgeeljgaaSw12
namespace Go.Proofs.Ytkighblgeeljgaa
open Go.RowKit Go.Lib
set_option maxRecDepth 100000

theorem touch_new2 {w : World} {o : Obj} {w' : World} (t : Touch [w.heap.size] (w.alloc o) w') : Touch [] w w' := ((Touch.refl [] w).alloc o).trans t (by simp)
/-- The list that is shuffled, in its own row. -/
def MRow (w : World) (y : Option Addr) (B : Nat) (m : List En) : Prop := m = [] ∨ ∃ g, y = some ⟨g, 0, none⟩ ∧ B ≤ g ∧ RowE w g m
theorem MRow.t0 {w w' : World} {y : Option Addr} {B : Nat} {m : List En} (h : MRow w y B m) (t : Touch [] w w') : MRow w' y B m := by
  rcases h with h | ⟨g, h1, h2, h3⟩
  · exact .inl h
  · exact .inr ⟨g, h1, h2, h3.t0 t⟩
theorem MRow.x {w : World} {y : Option Addr} {B : Nat} {m : List En} (h : MRow w y B m) : EntX w y m := by
  rcases h with rfl | ⟨g, rfl, _, h⟩
  · intro i hi; simp at hi
  · exact h.x
theorem rem_nat (z : Int) (n : Nat) (hn : 0 < n) : ∃ k : Nat, k < n ∧ (z.tmod (n : Int) + (n : Int)).tmod (n : Int) = (k : Int) := by
  have h1 := Int.tmod_lt_of_pos z (show (0 : Int) < n by omega)
  have h2 : -(n : Int) < z.tmod n := by
    have := Int.lt_tmod_of_pos z (show (0 : Int) < n by omega)
    omega
  have h3 : 0 ≤ z.tmod (n : Int) + (n : Int) := by omega
  refine ⟨((z.tmod (n : Int) + (n : Int)).tmod (n : Int)).toNat, ?_, ?_⟩
  · have h4 := Int.tmod_lt_of_pos (z.tmod (n : Int) + (n : Int)) (show (0 : Int) < n by omega)
    have h5 := Int.tmod_nonneg (n : Int) h3
    omega
  · have h5 := Int.tmod_nonneg (n : Int) h3
    omega

theorem own_mrow {w : World} {B n : Nat} {v : Value} {l : List En} (h : w.ownsRow B TEn 3 v n (envals l)) : ∃ y c, v = .slice y n c ∧ MRow w y B l := by
  have hn : n = l.length := by have := h.1; rw [envals_len] at this; omega
  rcases h.2 with ⟨rfl, h0⟩ | ⟨g, cap, cur, rfl, hb, hg, hnc, _, hcs, ht⟩
  · exact ⟨none, 0, by rw [h0], .inl (List.eq_nil_of_length_eq_zero (by omega))⟩
  · exact ⟨_, _, rfl, .inr ⟨g, rfl, hb, cur, hg, by rw [← hn]; exact ht, by rw [hcs, ← hn]; exact Nat.mul_le_mul_right _ hnc⟩⟩
theorem row_cells {w : World} {g : Nat} {l : List En} (h : RowE w g l) (k : Nat) (hk : k < l.length) : ∃ v0 v1 v2 : Value, w.cell? ⟨g, k * 3, none⟩ = some v0 ∧ w.cell? ⟨g, k * 3 + 1, none⟩ = some v1 ∧ w.cell? ⟨g, k * 3 + 2, none⟩ = some v2 := by
  obtain ⟨b', off', he, h0, h1, h2⟩ := h.x k hk
  cases he
  exact ⟨_, _, _, by simpa using h0, by simpa using h1, by simpa using h2⟩
theorem TabB.other {w w' : World} {tb tb' : Nat} {T T' : Tr} (h : TabB w tb T') (h' : TabB w tb' T) (hne : tb ≠ tb') (t : Touch [tb] w w') : TabB w' tb' T := by
  obtain ⟨r0, h0, _⟩ := h
  obtain ⟨r, h1, h2⟩ := h'
  refine ⟨r, touch_other t h1 (by simp; omega), h2.touch t ?_⟩
  intro b hb ⟨cs, hcs⟩
  simp at hb
  subst hb
  rw [h0] at hcs
  cases hcs
set_option maxHeartbeats 8000000 in
theorem walk_TabAdds (v0 : Value) (l : List En) (v1 : Value) (o : List Int) (W : World) (h0 : EntsC W v0 l) (h1 : Ints W v1 o) :
    Calls Try.prog 5 #[v0, v1] W fun e W' => e = .returned (.bool true) ∧ Touch [] W W' := by
  obtain ⟨⟨x0, c0, rfl, hlen, hX⟩, hc0⟩ := h0
  obtain ⟨x1, c1, rfl, hlo, hO⟩ := h1
  have hcz : x0 = none → c0 = 0 := fun e => hc0 _ _ (by rw [e])
  by_cases hl : 40 < l.length
  · have h1 : decide ((40 : Int) < (l.length : Int)) = true := by rw [decide_eq_true_eq]; omega
    have h2 : decide (40 < l.length) = true := by rw [decide_eq_true_eq]; omega
    have CA := hid (alive12_true W)
    clear hX hlen hl hO hc0 hcz hlo
    go_enter Try.func5, Try.ntmps5
    go_wp2_with (go_at_call 7; refine CA.out.mono ?_; clear CA; rintro e w1 ⟨rfl, t1⟩; have T1 := hid t1; clear t1)
    go_ret
    exact ⟨rfl, T1.out⟩
  · have h1 : decide ((40 : Int) < (l.length : Int)) = false := by rw [decide_eq_false_iff_not]; omega
    have h2 : decide (40 < l.length) = false := by rw [decide_eq_false_iff_not]; omega
    by_cases hol : 40 < o.length
    · have h3 : decide ((40 : Int) < (o.length : Int)) = true := by rw [decide_eq_true_eq]; omega
      have h4 : decide (40 < o.length) = true := by rw [decide_eq_true_eq]; omega
      have CA := hid (alive12_true W)
      clear hX hlen hl hO hc0 hcz hlo hol
      go_enter Try.func5, Try.ntmps5
      go_wp2_with (go_at_call 7; refine CA.out.mono ?_; clear CA; rintro e w1 ⟨rfl, t1⟩; have T1 := hid t1; clear t1)
      go_ret
      exact ⟨rfl, T1.out⟩
    · have h3 : decide ((40 : Int) < (o.length : Int)) = false := by rw [decide_eq_false_iff_not]; omega
      have h4 : decide (40 < o.length) = false := by rw [decide_eq_false_iff_not]; omega
      have hl' : l.length ≤ 40 := by omega
      have ho' : o.length ≤ 40 := by omega
      have HX := hid hX
      have HO := hid hO
      have HC := hid hcz
      clear hX hlen hl hO hc0 hcz hlo hol
      go_enter Try.func5, Try.ntmps5
      go_upto_region 4 with (refine wpList_append_ents _ rfl (.const (.slice none 0 0)) (.tmp 23) rfl (by simp [Act.eval, go_sem]) x0 c0 l (by simp [Act.eval]) (by omega) HX.out HC.out ?_; intro v w1 hrow t1; obtain ⟨y, c, rfl, hm⟩ := own_mrow hrow; have HM := hid hm; have T1 := hid t1; clear hrow hm t1)
      go_wp2_with fail
      go_loopw [6] (fun iv wr => ∃ (i : Nat) (m : List En), i ≤ 40 ∧ iv = .int .i64 i ∧ m.length = l.length ∧ Hid (∀ x, x ∈ m ↔ x ∈ l) ∧ Hid (MRow wr y W.heap.size m) ∧ Hid (Touch [] W wr)) (fun iv _ => 41 - (RowKit.intOf iv).toNat)
      case atStart => exact ⟨0, l, by omega, rfl, rfl, hid fun _ => Iff.rfl, HM, T1⟩
      case round =>
        obtain ⟨i, m, hi, rfl, hml, hmm, MR, TR⟩ := hrel
        clear HM T1
        have hw1 : IntKind.i64.wrap ((i : Int) + 1) = (i : Int) + 1 := IntWalk.i64_in _ (by omega)
        by_cases hc : i + 1 < o.length ∧ 0 < l.length
        · have k1 : decide ((i : Int) + 1 < (o.length : Int)) = true := by rw [decide_eq_true_eq]; omega
          have k2 : decide ((0 : Int) < (l.length : Int)) = true := by rw [decide_eq_true_eq]; omega
          have k2' : decide (0 < l.length) = true := by rw [decide_eq_true_eq]; omega
          obtain ⟨bo, oo, rfl, g1⟩ := HO.out i (by omega)
          obtain ⟨bo2, oo2, e2, g2⟩ := HO.out (i + 1) (by omega)
          cases e2
          obtain ⟨a, ha, ea⟩ := rem_nat o[i] l.length hc.2
          obtain ⟨b, hb, eb⟩ := rem_nat (o[i + 1]'(by omega)) l.length hc.2
          have r1 := TR.out.drew.cell g1
          have r2 := TR.out.drew.cell g2
          have b1 := Int.tmod_lt_of_pos o[i] (show (0 : Int) < l.length by omega)
          have b2 := Int.lt_tmod_of_pos o[i] (show (0 : Int) < l.length by omega)
          have b3 := Int.tmod_lt_of_pos (o[i + 1]'(by omega)) (show (0 : Int) < l.length by omega)
          have b4 := Int.lt_tmod_of_pos (o[i + 1]'(by omega)) (show (0 : Int) < l.length by omega)
          clear g1 g2
          generalize o[i] = z1 at *
          generalize (o[i + 1]'(by omega)) = z2 at *
          have w1 : IntKind.i64.wrap (z1.tmod l.length) = z1.tmod l.length := IntWalk.i64_in _ (by omega)
          have w2 : IntKind.i64.wrap (z1.tmod l.length + l.length) = z1.tmod l.length + l.length := IntWalk.i64_in _ (by omega)
          have w3 : IntKind.i64.wrap (a : Int) = (a : Int) := IntWalk.i64_in _ (by omega)
          have w4 : IntKind.i64.wrap (z2.tmod l.length) = z2.tmod l.length := IntWalk.i64_in _ (by omega)
          have w5 : IntKind.i64.wrap (z2.tmod l.length + l.length) = z2.tmod l.length + l.length := IntWalk.i64_in _ (by omega)
          have w6 : IntKind.i64.wrap (b : Int) = (b : Int) := IntWalk.i64_in _ (by omega)
          have i1 : (i : Int) < o.length := by omega
          have i2 : (i : Int) + 1 < o.length := by omega
          have i3 : decide (i < o.length) = true := by rw [decide_eq_true_eq]; omega
          have i4 : decide (i + 1 < o.length) = true := by rw [decide_eq_true_eq]; omega
          have n0 : ¬ ((l.length : Int) = 0) := by omega
          have n1 : ((l.length : Int) == 0) = false := by rw [beq_eq_false_iff_ne]; omega
          clear b1 b2 b3 b4
          go_upto_region 7 with fail
          go_region
          clear w1 w2 w3 w4 w5 w6 r1 r2 ea eb n0 n1
          obtain ⟨g, rfl, hg, hR⟩ : ∃ g, y = some ⟨g, 0, none⟩ ∧ W.heap.size ≤ g ∧ RowE wr g m := by
            rcases MR.out with h | h
            · rw [h] at hml; simp at hml; omega
            · exact h
          have ha' : a < m.length := by omega
          have hb' : b < m.length := by omega
          have RW := hid (hR.t0 (Touch.refl [] wr).drew.drew)
          have ca : wr.drew.drew.cell? ⟨g, a * 3, none⟩ = some (.int .i64 m[a].1) ∧ wr.drew.drew.cell? ⟨g, a * 3 + 1, none⟩ = some (.int .i64 m[a].2.1) ∧ wr.drew.drew.cell? ⟨g, a * 3 + 2, none⟩ = some (.int .i64 m[a].2.2) := by
            obtain ⟨b', off', he, h⟩ := RW.out.x a ha'
            cases he
            simpa using h
          have cb : wr.drew.drew.cell? ⟨g, b * 3, none⟩ = some (.int .i64 m[b].1) ∧ wr.drew.drew.cell? ⟨g, b * 3 + 1, none⟩ = some (.int .i64 m[b].2.1) ∧ wr.drew.drew.cell? ⟨g, b * 3 + 2, none⟩ = some (.int .i64 m[b].2.2) := by
            obtain ⟨b', off', he, h⟩ := RW.out.x b hb'
            cases he
            simpa using h
          obtain ⟨ca0, ca1, ca2⟩ := ca
          obtain ⟨cb0, cb1, cb2⟩ := cb
          have fr := fun k => RW.out.free k
          have SW := hid (fun x => swap_mem ha' hb' x)
          have ST1 := hid (RW.out.store a m[b] ha')
          have ST2 := hid (fun w' (k : RowE w' g (m.set a m[b])) => k.store b m[a] (by simpa using hb'))
          have hgW := hid hg
          generalize m[a] = ea at *
          generalize m[b] = eb at *
          have j1 : (a : Int) < l.length := by omega
          have j2 : (b : Int) < l.length := by omega
          have j3 : decide (a < l.length) = true := by rw [decide_eq_true_eq]; omega
          have j4 : decide (b < l.length) = true := by rw [decide_eq_true_eq]; omega
          clear hR hg
          go_upto_region 8 with fail
          refine wp_region_any (by kernel_rfl) ?_
          change wpAny _ _ _ _ _ _ _ (World.drew _)
          have TD := hid (TR.out.drew.drew)
          have RWD := RW.out
          clear RW TR MR
          generalize wr.drew.drew = w8 at *
          refine wpAny_take (i := 0) (v := ?v1) rfl (by kernel_rfl) (by kernel_rfl) (by kernel_rfl) (fun _ _ _ h => h) (Or.inl ⟨by rfl, ?_⟩) ?_
          rotate_left
          · (intro w; go_simp; try with_reducible rfl)
          refine wpAny_take (i := 1) (v := ?v2) rfl (by kernel_rfl) (by kernel_rfl) (by kernel_rfl) (fun _ _ _ h => h) (Or.inl ⟨by rfl, ?_⟩) ?_
          rotate_left
          · (intro w; go_simp; try with_reducible rfl)
          refine wpAny_take (i := 2) (v := ?v3) rfl (by kernel_rfl) (by kernel_rfl) (by kernel_rfl) (fun _ _ _ h => h) (Or.inl ⟨by rfl, ?_⟩) ?_
          rotate_left
          · (intro w; go_simp; try with_reducible rfl)
          refine wpAny_take (i := 3) (v := ?v4) rfl (by kernel_rfl) (by kernel_rfl) (by kernel_rfl) (fun _ _ _ h => h) (Or.inl ⟨by rfl, ?_⟩) ?_
          rotate_left
          · (intro w; go_simp; try with_reducible rfl)
          refine wpAny_take (i := 4) (v := ?v5) rfl (by kernel_rfl) (by kernel_rfl) (by kernel_rfl) (fun _ _ _ h => h) (Or.inl ⟨by rfl, ?_⟩) ?_
          rotate_left
          · (intro w; go_simp; try with_reducible rfl)
          refine wpAny_take (i := 5) (v := ?v6) rfl (by kernel_rfl) (by kernel_rfl) (by kernel_rfl) (fun _ _ _ h => h) (Or.inl ⟨by rfl, ?_⟩) ?_
          rotate_left
          · (intro w; go_simp; try with_reducible rfl)
          refine wpAny_take (i := 6) (v := ?v7) rfl (by kernel_rfl) (by kernel_rfl) (by kernel_rfl) (fun _ _ _ h => h) (Or.inl ⟨by rfl, ?_⟩) ?_
          rotate_left
          · (intro w; go_simp; try with_reducible rfl)
          refine wpAny_take (i := 8) (v := ?v8) rfl (by kernel_rfl) (by kernel_rfl) (by kernel_rfl) (fun _ _ _ h => h) (Or.inl ⟨by rfl, ?_⟩) ?_
          rotate_left
          · (intro w; go_simp; try with_reducible rfl)
          refine wpAny_take (i := 9) (v := ?v9) rfl (by kernel_rfl) (by kernel_rfl) (by kernel_rfl) (fun _ _ _ h => h) (Or.inl ⟨by rfl, ?_⟩) ?_
          rotate_left
          · (intro w; go_simp; try with_reducible rfl)
          refine wpAny_take (i := 10) (v := ?v10) rfl (by kernel_rfl) (by kernel_rfl) (by kernel_rfl) (fun _ _ _ h => h) (Or.inl ⟨by rfl, ?_⟩) ?_
          rotate_left
          · (intro w; go_simp; try with_reducible rfl)
          refine wpAny_ready (rs := [7, 11]) (by kernel_rfl) (by simp) ?_
          refine AllReady.cons rfl (fun K hK => ?_) (AllReady.cons rfl (fun K hK => ?_) AllReady.nil)
          all_goals (go_simp; refine hK _ _ ?_; clear hK K)
          · skip
            refine wpAny_ready (rs := [11]) (by kernel_rfl) (by simp) ?_
            refine AllReady.cons rfl (fun K hK => ?_) AllReady.nil
            (go_simp; refine hK _ _ ?_; clear hK K)
            refine wpAny_take (i := 12) (v := ?v11) rfl (by kernel_rfl) (by kernel_rfl) (by kernel_rfl) (fun _ _ _ h => h) (Or.inl ⟨by rfl, ?_⟩) ?_
            rotate_left
            · (intro w; go_simp; try with_reducible rfl)
            refine wpAny_ready (rs := [13]) (by kernel_rfl) (by simp) ?_
            refine AllReady.cons rfl (fun K hK => ?_) AllReady.nil
            (go_simp; refine hK _ _ ?_; clear hK K)
            have T9 := hid (((TD.out.setCell (p := ⟨g, a * 3, none⟩) (.inr hgW.out) (.int .i64 eb.1)).setCell (p := ⟨g, a * 3 + 1, none⟩) (.inr hgW.out) (.int .i64 eb.2.1)).setCell (p := ⟨g, a * 3 + 2, none⟩) (.inr hgW.out) (.int .i64 eb.2.2))
            have R9 := hid ST1.out
            clear ST1 TD ca0 ca1 ca2 cb0 cb1 cb2 fr
            generalize (((w8.setCell ⟨g, a * 3, none⟩ (.int .i64 eb.1)).setCell ⟨g, a * 3 + 1, none⟩ (.int .i64 eb.2.1)).setCell ⟨g, a * 3 + 2, none⟩ (.int .i64 eb.2.2)) = w9 at *
            obtain ⟨v0, v1, v2, s0, s1, s2⟩ := row_cells R9.out b (by simpa using hb')
            have fr9 := fun k => R9.out.free k
            have R10 := hid (ST2.out w9 R9.out)
            have T10 := hid (((T9.out.setCell (p := ⟨g, b * 3, none⟩) (.inr hgW.out) (.int .i64 ea.1)).setCell (p := ⟨g, b * 3 + 1, none⟩) (.inr hgW.out) (.int .i64 ea.2.1)).setCell (p := ⟨g, b * 3 + 2, none⟩) (.inr hgW.out) (.int .i64 ea.2.2))
            refine wpAny_take (i := 14) (v := ?v12) rfl (by kernel_rfl) (by kernel_rfl) (by kernel_rfl) (fun _ _ _ h => h) (Or.inl ⟨by rfl, ?_⟩) ?_
            rotate_left
            · (intro w; go_simp; try with_reducible rfl)
            refine wpAny_ready (rs := [15]) (by kernel_rfl) (by simp) ?_
            refine AllReady.cons rfl (fun K hK => ?_) AllReady.nil
            (go_simp; refine hK _ _ ?_; clear hK K)
            refine wpAny_done (by kernel_rfl) ?_ _
            clear s0 s1 s2 fr9
            go_wp2
            go_roundw
            case rel => exact ⟨i + 1, (m.set a eb).set b ea, by omega, by go_num, by simpa using hml, hid fun x => (SW.out x).trans (hmm.out x), hid (.inr ⟨g, rfl, hgW.out, R10.out⟩), T10⟩
            case measure => simp [RowKit.intOf]; omega
          · skip
            refine wpAny_ready (rs := [7]) (by kernel_rfl) (by simp) ?_
            refine AllReady.cons rfl (fun K hK => ?_) AllReady.nil
            (go_simp; refine hK _ _ ?_; clear hK K)
            refine wpAny_take (i := 12) (v := ?v13) rfl (by kernel_rfl) (by kernel_rfl) (by kernel_rfl) (fun _ _ _ h => h) (Or.inl ⟨by rfl, ?_⟩) ?_
            rotate_left
            · (intro w; go_simp; try with_reducible rfl)
            refine wpAny_ready (rs := [13]) (by kernel_rfl) (by simp) ?_
            refine AllReady.cons rfl (fun K hK => ?_) AllReady.nil
            (go_simp; refine hK _ _ ?_; clear hK K)
            have T9 := hid (((TD.out.setCell (p := ⟨g, a * 3, none⟩) (.inr hgW.out) (.int .i64 eb.1)).setCell (p := ⟨g, a * 3 + 1, none⟩) (.inr hgW.out) (.int .i64 eb.2.1)).setCell (p := ⟨g, a * 3 + 2, none⟩) (.inr hgW.out) (.int .i64 eb.2.2))
            have R9 := hid ST1.out
            clear ST1 TD ca0 ca1 ca2 cb0 cb1 cb2 fr
            generalize (((w8.setCell ⟨g, a * 3, none⟩ (.int .i64 eb.1)).setCell ⟨g, a * 3 + 1, none⟩ (.int .i64 eb.2.1)).setCell ⟨g, a * 3 + 2, none⟩ (.int .i64 eb.2.2)) = w9 at *
            obtain ⟨v0, v1, v2, s0, s1, s2⟩ := row_cells R9.out b (by simpa using hb')
            have fr9 := fun k => R9.out.free k
            have R10 := hid (ST2.out w9 R9.out)
            have T10 := hid (((T9.out.setCell (p := ⟨g, b * 3, none⟩) (.inr hgW.out) (.int .i64 ea.1)).setCell (p := ⟨g, b * 3 + 1, none⟩) (.inr hgW.out) (.int .i64 ea.2.1)).setCell (p := ⟨g, b * 3 + 2, none⟩) (.inr hgW.out) (.int .i64 ea.2.2))
            refine wpAny_take (i := 14) (v := ?v14) rfl (by kernel_rfl) (by kernel_rfl) (by kernel_rfl) (fun _ _ _ h => h) (Or.inl ⟨by rfl, ?_⟩) ?_
            rotate_left
            · (intro w; go_simp; try with_reducible rfl)
            refine wpAny_ready (rs := [15]) (by kernel_rfl) (by simp) ?_
            refine AllReady.cons rfl (fun K hK => ?_) AllReady.nil
            (go_simp; refine hK _ _ ?_; clear hK K)
            refine wpAny_done (by kernel_rfl) ?_ _
            clear s0 s1 s2 fr9
            go_wp2
            go_roundw
            case rel => exact ⟨i + 1, (m.set a eb).set b ea, by omega, by go_num, by simpa using hml, hid fun x => (SW.out x).trans (hmm.out x), hid (.inr ⟨g, rfl, hgW.out, R10.out⟩), T10⟩
            case measure => simp [RowKit.intOf]; omega
        · have T0 := hid (TR.out)
          obtain ⟨tb1, htb1⟩ : ∃ tb1, tb1 = wr.heap.size := ⟨_, rfl⟩
          obtain ⟨wa, hwa⟩ : ∃ wa, wa = wr.alloc (.cells #[.pointer none] 72) := ⟨_, rfl⟩
          obtain ⟨tb2, htb2⟩ : ∃ tb2, tb2 = wa.heap.size := ⟨_, rfl⟩
          obtain ⟨wb, hwb⟩ : ∃ wb, wb = wa.alloc (.cells #[.pointer none] 72) := ⟨_, rfl⟩
          have CN1 := new_any wr
          rw [← hwa, ← htb1] at CN1
          have CN2 := new_any wa
          rw [← hwb, ← htb2] at CN2
          have t1 : Touch [] wr wa := by rw [hwa]; exact (Touch.refl _ _).alloc _
          have t2 : Touch [] wa wb := by rw [hwb]; exact (Touch.refl _ _).alloc _
          have hA1 : TabB wb tb1 .nil := by
            have : TabB wa tb1 .nil := by rw [htb1, hwa]; exact tabB_new wr
            exact this.t0 t2
          have hA2 : TabB wb tb2 .nil := by rw [htb2, hwb]; exact tabB_new wa
          have hs1 : wa.heap.size = wr.heap.size + 1 := by rw [hwa]; simp
          have hne : tb1 ≠ tb2 := by omega
          have hWr : W.heap.size ≤ wr.heap.size := TR.out.size
          have TT : ∀ w', Touch [tb1, tb2] wb w' → Touch [] W w' := fun w' t => ((TR.out.trans t1 (by simp)).trans t2 (by simp)).trans t (by intro x hx; simp at hx; right; rcases hx with rfl | rfl <;> omega)
          have TM : ∀ w', Touch [tb1, tb2] wb w' → EntX w' y m := fun w' t => by
            rcases MR.out with h | ⟨g, h1, h2, h3⟩
            · intro i hi; rw [h] at hi; simp at hi
            · rw [h1]
              have hg : g < wr.heap.size := by obtain ⟨cur, hg, _⟩ := h3; exact lt_of_block hg
              obtain ⟨cur, hg2, r⟩ := (h3.t0 t1).t0 t2
              exact RowE.x ⟨cur, touch_other t hg2 (by simp; omega), r⟩
          have CA := add_any tb1 .nil x0 l l.length c0 rfl wb hA1 (by simp [Tr.io]) (by simp [Tr.io]; omega) (fun w' t => HX.out.t0 (TT w' (t.mono (by simp))))
          have e1 : addAll Tr.nil.io l = addAll [] l := rfl
          rw [e1] at CA
          have hsame : addAll [] m = addAll [] l := addAll_same hmm.out
          have hagain : addAll (addAll [] l) l = addAll [] l := addAll_again l
          have hsA : SortedE (addAll [] l) := sorted_addAll l (by simp)
          have hkA : OkL (addAll [] l) := ok_addAll l (by simp)
          have hnA := (addAll_len l (l := []) (by simp)).2
          simp only [List.length_nil, Nat.zero_add] at hnA
          generalize addAll [] l = A at *
          have hA0 : fromE A (0, 0, 0) = A := from_zero hkA
          rw [show A.length - Tr.nil.io.length = A.length from rfl] at CA
          have H2 := hid hA2
          have HNE := hid hne
          have TMH := hid TM
          have TTH := hid TT
          have CAH := hid CA
          have C1H := hid CN1
          have C2H := hid CN2
          have HSA := hid (hsame)
          have HAG := hid hagain
          have CALL := hid fun w' tb (T : Tr) (hio : T.io = A) (k : TabB w' tb T) => all_any (some ⟨tb, 0, none⟩) T (by rw [hio]; exact hsA) (by rw [hio]; omega) w' k.at
          have CADD := hid fun w' (T : Tr) (hio : T.io = A) (k : TabB w' tb1 T) (hl2 : ∀ w'', Touch [tb1] w' w'' → EntX w'' x0 l) => (add_any tb1 T x0 l l.length c0 rfl w' k (by rw [hio]; exact hsA) (by rw [hio]; omega) hl2).mono (R' := fun e w'' => e = .returned (.int .i64 0) ∧ Touch [tb1] w' w'') (fun e w'' ⟨T', he, _, _, t⟩ => ⟨by rw [he, hio, HAG.out]; simp, t⟩)
          have CAL := hid fun w' => alive12_true w'
          have CAD2 := hid fun w' (T : Tr) nb (a : En) (k : TabB w' tb2 T) (hs : SortedE T.io) (hn : T.io.length ≤ 100) (hl2 : ∀ w'', Touch [tb2] w' w'' → EntX w'' (some ⟨nb, 0, none⟩) [a]) => add_any tb2 T (some ⟨nb, 0, none⟩) [a] 1 1 rfl w' k hs (by omega) hl2
          have hW1T := hid hA1
          clear hwa hwb htb1 htb2 CN1 CN2 t1 t2 hA1 hA2 hs1 hne hWr TT TM CA e1 hsame hagain TR T0 hsA hkA
          by_cases k1 : i + 1 < o.length
          case' pos =>
            have d1 : decide ((i : Int) + 1 < (o.length : Int)) = true := by rw [decide_eq_true_eq]; omega
            have d2 : decide ((0 : Int) < (l.length : Int)) = false := by rw [decide_eq_false_iff_not]; omega
            have d3 : decide (0 < l.length) = false := by rw [decide_eq_false_iff_not]; omega
            have d4 : decide (i + 1 < o.length) = true := by rw [decide_eq_true_eq]; omega
          case' neg =>
            have d1 : decide ((i : Int) + 1 < (o.length : Int)) = false := by rw [decide_eq_false_iff_not]; omega
            have d2 : decide (i + 1 < o.length) = false := by rw [decide_eq_false_iff_not]; omega
          all_goals
            clear hc k1
            go_upto_region 13 with (first
              | (go_at_call 8; refine C1H.out.mono ?_; clear C1H; rintro e w' ⟨rfl, h⟩; have h := h.symm; subst h)
              | (go_at_call 8; refine C2H.out.mono ?_; clear C2H; rintro e w' ⟨rfl, h⟩; have h := h.symm; subst h)
              | (go_at_call 14; refine CAH.out.mono ?_; clear CAH; rintro e w3 ⟨T1, rfl, hT1, hio1, t3⟩; have HT1 := hid hT1; have HIO1 := hid hio1; have T3 := hid t3; clear hT1 hio1 t3))
            have hTA3 : Touch [tb1, tb2] wb w3 := T3.out.mono (by simp)
            have hB3 : TabB w3 tb2 .nil := hW1T.out.other H2.out HNE.out T3.out
            have HB3 := hid hB3
            have HTA3 := hid hTA3
            clear hB3 hTA3
            go_wp2_with fail
            go_loopw [12, 13] (fun kv iv wr2 => ∃ (j : Nat) (T2 : Tr), j ≤ l.length ∧ iv = .int .i64 j ∧ kv = .int .i64 T2.io.length ∧ Hid (T2.io = addAll [] (m.take j)) ∧ Hid (TabB wr2 tb1 T1) ∧ Hid (TabB wr2 tb2 T2) ∧ Hid (Touch [tb1, tb2] wb wr2)) (fun _ iv _ => l.length - (RowKit.intOf iv).toNat)
            case atStart => exact ⟨0, .nil, by omega, rfl, rfl, hid rfl, HT1, HB3, HTA3⟩
            case round =>
              obtain ⟨j, T2, hj, rfl, rfl, hio2, R1, R2, RT⟩ := hrel
              clear HT1 HB3 HTA3 T3
              by_cases hjt : j < l.length
              · have hj1 : decide (j < l.length) = true := by rw [decide_eq_true_eq]; omega
                have hj2 : (j : Int) < l.length := by omega
                obtain ⟨bm, om, rfl, gm⟩ := TMH.out wr RT.out j (by omega)
                obtain ⟨gm0, gm1, gm2⟩ := gm
                have hjm : j < m.length := by omega
                have hst : addAll [] (m.take (j + 1)) = put1 T2.io (m[j]'hjm) := by rw [List.take_succ_eq_append_getElem hjm, addAll_snoc, hio2.out]
                have hsT : SortedE T2.io := by rw [hio2.out]; exact sorted_addAll _ (by simp)
                have hlT : T2.io.length ≤ 40 := by
                  have := (addAll_len (m.take j) (l := []) (by simp)).2
                  rw [hio2.out]
                  simp at this
                  omega
                generalize (m[j]'hjm) = a at *
                have hp1 := put1_len hsT a
                have hwsum : IntKind.i64.wrap ((T2.io.length : Int) + (((put1 T2.io a).length - T2.io.length : Nat) : Int)) = ((put1 T2.io a).length : Int) := by
                  rw [show (T2.io.length : Int) + (((put1 T2.io a).length - T2.io.length : Nat) : Int) = ((put1 T2.io a).length : Int) by omega]
                  exact IntWalk.i64_in _ (by omega)
                obtain ⟨wc, hwc⟩ : ∃ wc, wc = wr.alloc (.cells #[.int .i64 a.1, .int .i64 a.2.1, .int .i64 a.2.2] TEn) := ⟨_, rfl⟩
                have tc : Touch [] wr wc := by rw [hwc]; exact (Touch.refl _ _).alloc _
                have hbc : wc.heap[wr.heap.size]? = some (.cells #[.int .i64 a.1, .int .i64 a.2.1, .int .i64 a.2.2] TEn) := by rw [hwc]; exact heap_alloc_new wr _
                have hnb : wr.heap.size ∉ [tb2] := by
                  obtain ⟨r, h, _⟩ := R2.out
                  have := lt_of_block h
                  simp; omega
                have C5 := hid (CAD2.out wc T2 wr.heap.size a (R2.out.t0 tc) hsT (by omega) (fun w'' t => entX_block (touch_other t hbc hnb) (c := 3) rfl rfl))
                rw [show addAll T2.io [a] = put1 T2.io a from rfl] at C5
                have R1c := hid (R1.out.t0 tc)
                have R2c := hid (R2.out.t0 tc)
                have RTc := hid (RT.out.trans tc (by simp))
                have hWC := hid hwc
                have HST := hid hst
                clear hwc tc hbc hnb hst hp1 hsT hlT
                go_wp2_with (go_at_call 14; rw [← hWC.out]; refine C5.out.mono ?_; clear C5; rintro e w5 ⟨T5, rfl, h5, hio5, t5⟩; have H5 := hid h5; have HIO5 := hid hio5; have T5t := hid t5; clear h5 hio5 t5)
                go_roundw
                case rel => exact ⟨j + 1, T5, by omega, by go_num, by rw [HIO5.out], hid (HIO5.out.trans HST.out.symm), hid (R2c.out.other R1c.out HNE.out.symm T5t.out), H5, hid (RTc.out.trans T5t.out (by simp))⟩
                case measure => simp [RowKit.intOf]; omega
              · have hj1 : decide (j < l.length) = false := by rw [decide_eq_false_iff_not]; omega
                have hj2 : j = l.length := by omega
                have hioA : T2.io = A := by rw [hio2.out, hj2, ← hml, List.take_length]; exact HSA.out
                have HIO2 := hid hioA
                have CLEN : Hid (∀ w', TabB w' tb1 T1 → Calls Try.prog 28 #[.pointer (some ⟨tb1, 0, none⟩)] w' fun e w'' => e = .returned (.int .i64 A.length) ∧ w'' = w') := hid fun w' k => by
                  have := tablen_any w' k.at
                  rw [T1.ct_io, HIO1.out] at this
                  exact this
                have hlA : T2.io.length = A.length := by rw [hioA]
                rw [hlA]
                clear hlA
                have SE := hid fun xa ca xb cb w' (ha : EntX w' xa A) (hb : EntX w' xb A) => sameEntries_any xa xb ca cb A A w' (by omega) (by omega) ha hb
                subst hj2
                clear hioA hio2 CAD2
                go_wp2_with (first
                  | (go_at_call 7; refine (CAL.out _).mono ?_; clear CAL; rintro e w6 ⟨rfl, t6⟩; have X1 := hid (R1.out.t0 t6); have X2 := hid (R2.out.t0 t6); have RT6 := hid (RT.out.trans t6 (by simp)); clear t6)
                  | (go_at_call 28; refine (CLEN.out _ X1.out).mono ?_; clear CLEN; rintro e w' ⟨rfl, h⟩; have h := h.symm; subst h)
                  | (go_at_call 16; refine (CALL.out _ tb1 T1 HIO1.out X1.out).mono ?_; rintro e w7 ⟨v, rfl, hrow, t7⟩; rw [HIO1.out, hA0] at hrow; obtain ⟨xa, ca, rfl, -, hxa⟩ := entX_own hrow; have XA := hid hxa; have Y1 := hid (X1.out.t0 t7); have Y2 := hid (X2.out.t0 t7); have RT7 := hid (RT6.out.trans t7 (by simp)); clear X1 X2 hrow hxa t7)
                  | (go_at_call 16; refine (CALL.out _ tb2 T2 HIO2.out Y2.out).mono ?_; rintro e w8 ⟨v, rfl, hrow, t8⟩; rw [HIO2.out, hA0] at hrow; obtain ⟨xb, cb, rfl, -, hxb⟩ := entX_own hrow; have XB := hid hxb; have XA8 := hid (XA.out.t0 t8); have Z1 := hid (Y1.out.t0 t8); have RT8 := hid (RT7.out.trans t8 (by simp)); clear Y1 Y2 hrow hxb t8 CALL)
                  | (go_at_call 23; refine (SE.out _ _ _ _ _ XA8.out XB.out).mono ?_; clear SE; rintro e w9 ⟨rfl, t9⟩; have Q1 := hid (Z1.out.t0 t9); have RT9 := hid (RT8.out.trans t9 (by simp)); clear t9)
                  | (go_at_call 14; refine (CADD.out _ T1 HIO1.out Q1.out (fun w'' t => HX.out.t0 (TTH.out w'' (RT9.out.trans t (by simp))))).mono ?_; clear CADD; rintro e w10 ⟨rfl, t10⟩; have T10 := hid (RT9.out.trans t10 (by simp)); clear t10))
                go_ret
                exact ⟨rfl, TTH.out _ T10.out⟩
end Go.Proofs.Ytkighblgeeljgaa
