/- A table's entries of a hash's versions, its last one of a hash, those below a place. -/
import Derived.Test.YtnkflmimnpolcaaPl14
import Derived.Test.YtnkflmimnpolcaaEx14
namespace Go.Proofs.Ytnkflmimnpolcaa
open Go.RowKit Go.Lib
set_option maxRecDepth 100000

set_option maxHeartbeats 2000000 in
theorem versions_any (t : TabV) (h f u : Int) (hfu : f ≤ u) (w : World) (ht : t.At w) :
    ∃ (x : Option Addr) (c : Nat), ((t.l.filter (isV h f u)).length ≤ c ∧ (x = none → c = 0) ∧ EntX w x (t.l.filter (isV h f u))) ∧ Hid (∀ W, Touch [] w W →
      Calls Try.prog 41 #[t.val, .int .i64 h, .int .i64 f, .int .i64 u] W fun r w' => r = .returned (.slice x (t.l.filter (isV h f u)).length c) ∧ Touch [] W w') := by
  obtain ⟨x, c, l⟩ := t
  have hc := ht.hc
  have hz := ht.hz
  have hx := ht.ent
  obtain ⟨hs, hk, hne, hn⟩ := ht.good
  dsimp only at hc hz hx hs hk hne hn
  unfold TabV.val
  dsimp only
  obtain ⟨v1, v2, v3⟩ := vers_eq hs hk h f u hfu
  have HX := hid hx
  have B1 := hid fun W (k : Touch [] w W) => place_any x c l (h, f, 0) W (hx.t0 k) hs (by omega)
  have B2 := hid fun W (k : Touch [] w W) => place_any x c l (h, u, 9223372036854775807) W (hx.t0 k) hs (by omega)
  have V3 := hid v3
  have hlen : (l.filter (isV h f u)).length = cntE l (h, u, 9223372036854775807) + (if (h, u, 9223372036854775807) ∈ l then 1 else 0) - cntE l (h, f, 0) := by
    rw [← v3, List.length_take, List.length_drop]; omega
  generalize hF : l.filter (isV h f u) = F at *
  clear hF v3
  generalize cntE l (h, f, 0) = a at *
  generalize hq : cntE l (h, u, 9223372036854775807) = q at *
  clear hq
  refine ⟨if a = c then x else x.map (·.add (a * 3)), c - a, ⟨by omega, fun h => ?_, ?_⟩, hid fun W hW => ?_⟩
  · split at h
    · omega
    · cases x with
      | none => have := hz rfl; omega
      | some y => cases h
  · rw [← V3.out]
    refine entX_part HX.out a _ (by omega) _ ?_
    split
    · exact .inr (by omega)
    · exact .inl rfl
  · have T0 := hid hW
    have HZ := hid hz
    clear hW hk hs hne hx hz V3 HX
    by_cases hin : (h, u, 9223372036854775807) ∈ l
    · rw [if_pos hin] at v1 v2 hlen
      have hd : decide ((h, u, (9223372036854775807 : Int)) ∈ l) = true := by simpa using hin
      rw [hd] at B2
      have LEN := hid hlen
      have i1 : (a : Int) ≤ (q : Int) + 1 := by omega
      have i2 : (q : Int) + 1 ≤ l.length := by omega
      clear hd hin hlen
      go_enter Try.func41, Try.ntmps41
      go_wp2_with fail
      refine (B1.out W T0.out).mono ?_
      rintro r w1 ⟨rfl, t1⟩
      have T1 := hid (T0.out.trans t1 (by simp))
      have U1 := hid t1
      clear t1
      go_wp2_with fail
      refine (B2.out w1 T1.out).mono ?_
      rintro r w2 ⟨rfl, t2⟩
      have U2 := hid (U1.out.trans t2 (by simp))
      clear t2 B1 B2
      go_wp2
      all_goals go_ret
      all_goals rw [LEN.out]
      all_goals refine ⟨?_, U2.out⟩
      all_goals first
        | rfl
        | (subst_vars; rfl)
    · rw [if_neg hin, Nat.add_zero] at v1 v2 hlen
      have hd : decide ((h, u, (9223372036854775807 : Int)) ∈ l) = false := by simpa using hin
      rw [hd] at B2
      have LEN := hid hlen
      have i1 : (a : Int) ≤ (q : Int) := by omega
      have i2 : (q : Int) ≤ l.length := by omega
      clear hd hin hlen
      go_enter Try.func41, Try.ntmps41
      go_wp2_with fail
      refine (B1.out W T0.out).mono ?_
      rintro r w1 ⟨rfl, t1⟩
      have T1 := hid (T0.out.trans t1 (by simp))
      have U1 := hid t1
      clear t1
      go_wp2_with fail
      refine (B2.out w1 T1.out).mono ?_
      rintro r w2 ⟨rfl, t2⟩
      have U2 := hid (U1.out.trans t2 (by simp))
      clear t2 B1 B2
      go_wp2
      all_goals go_ret
      all_goals rw [LEN.out]
      all_goals refine ⟨?_, U2.out⟩
      all_goals first
        | rfl
        | (subst_vars; rfl)
theorem isV_all {l : List En} (hk : ∀ e ∈ l, okE e ∧ wfE e) (h : Int) : l.filter (isV h 0 9223372036854775807) = l.filter fun e => decide (e.1 = h) := by
  apply List.filter_congr
  intro e he
  obtain ⟨h1, h2⟩ := hk e he
  unfold okE at h1
  unfold wfE at h2
  simp [isV]
  omega
set_option maxHeartbeats 2000000 in
theorem tablast_any (t : TabV) (h : Int) (w : World) (ht : t.At w) :
    Calls Try.prog 38 #[t.val, .int .i64 h] w fun r w' => r = .returned (lastV (t.l.filter fun e => decide (e.1 = h)).getLast?) ∧ Touch [] w w' := by
  obtain ⟨x, c, ⟨hcc, hz, hx⟩, HC⟩ := versions_any t h 0 9223372036854775807 (by decide) w ht
  have hn : (t.l.filter (isV h 0 9223372036854775807)).length ≤ 100000 := Nat.le_trans (List.length_filter_le _ _) ht.good.2.2.2
  rw [isV_all ht.good.2.1] at hn hcc hx HC
  generalize (t.l.filter fun e => decide (e.1 = h)) = F at *
  have HX := hid hx
  obtain ⟨x1, hx1⟩ : ∃ x, x = w.heap.size := ⟨_, rfl⟩
  obtain ⟨w1, hw1⟩ : ∃ w1, w1 = w.alloc (.cells #[.int .i64 0, .int .i64 0, .int .i64 0] 32) := ⟨_, rfl⟩
  have B1 : EnB w1 x1 (0, 0, 0) := by rw [hw1, hx1]; exact heap_alloc_new w _
  have T1 : Hid (Touch [] w w1) := hid (by rw [hw1]; exact (Touch.refl [] w).alloc _)
  have hxx : w.heap.size ≤ x1 := by omega
  have FIN : ∀ w3, Touch [] w1 w3 → ∀ u1 u2 u3, Touch [] w (((w3.setCell ⟨x1, 0, none⟩ u1).setCell ⟨x1, 1, none⟩ u2).setCell ⟨x1, 2, none⟩ u3) := fun w3 t u1 u2 u3 =>
    (((T1.out.trans t (by simp)).setCell (p := ⟨x1, 0, none⟩) (.inr hxx) u1).setCell (p := ⟨x1, 1, none⟩) (.inr hxx) u2).setCell (p := ⟨x1, 2, none⟩) (.inr hxx) u3
  have C := hid (HC.out w1 T1.out)
  generalize t.val = tv at *
  clear HC hx hz
  by_cases hF : F = []
  · subst hF
    go_enter Try.func38, Try.ntmps38
    go_upto_region 1 with fail
    rw [← hw1, ← hx1]
    clear hw1 hx1 HX
    go_wp2_with (go_at_call 41; refine C.out.mono ?_; clear C; rintro r w3 ⟨rfl, t3⟩; have B3 := B1.t t3; obtain ⟨p0, p1, p2⟩ := B3.c; have f0 := free_of B3 0; have f1 := free_of B3 1; have f2 := free_of B3 2)
    have E := (en_set B3 (0, 0, 0)).c
    have TT := FIN w3 t3 (.int .i64 0) (.int .i64 0) (.int .i64 0)
    revert E TT
    dsimp only
    generalize (((w3.setCell ⟨x1, 0, none⟩ (.int .i64 0)).setCell ⟨x1, 1, none⟩ (.int .i64 0)).setCell ⟨x1, 2, none⟩ (.int .i64 0)) = WW
    rintro ⟨r0, r1, r2⟩ TT
    refine bodyPost_ret (v := lastV none) ?_ rfl ⟨rfl, TT⟩
    simp [results, Try.results38, go_sem, lastV, r0, r1, r2]
  · have hpos : 0 < F.length := List.length_pos_iff.2 hF
    obtain ⟨b, off, rfl, g0, g1, g2⟩ := HX.out (F.length - 1) (by omega)
    have hgl : F.getLast? = some (F[F.length - 1]'(by omega)) := by rw [List.getLast?_eq_getElem?, List.getElem?_eq_getElem]
    rw [hgl]
    have ge0 := T1.out.cell g0
    have ge1 := T1.out.cell g1
    have ge2 := T1.out.cell g2
    generalize F[F.length - 1]'(by omega) = z at *
    obtain ⟨z1, z2, z3⟩ := z
    dsimp only at ge0 ge1 ge2
    obtain ⟨m, hm⟩ : ∃ m, F.length = m + 1 := ⟨F.length - 1, by omega⟩
    rw [hm] at ge0 ge1 ge2 C hn
    rw [Nat.add_sub_cancel] at ge0 ge1 ge2
    have hmI : (m : Int) < (m : Int) + 1 := by omega
    clear hgl g0 g1 g2 hF hpos HX hm hcc
    go_enter Try.func38, Try.ntmps38
    go_upto_region 1 with fail
    rw [← hw1, ← hx1]
    clear hw1 hx1
    go_wp2_with (go_at_call 41; refine C.out.mono ?_; clear C; rintro r w3 ⟨rfl, t3⟩; have B3 := B1.t t3; obtain ⟨p0, p1, p2⟩ := B3.c; have f0 := free_of B3 0; have f1 := free_of B3 1; have f2 := free_of B3 2; have q0 := t3.cell ge0; have q1 := t3.cell ge1; have q2 := t3.cell ge2)
    have E := (en_set B3 (z1, z2, z3)).c
    have TT := FIN w3 t3 (.int .i64 z1) (.int .i64 z2) (.int .i64 z3)
    revert E TT
    dsimp only
    generalize (((w3.setCell ⟨x1, 0, none⟩ (.int .i64 z1)).setCell ⟨x1, 1, none⟩ (.int .i64 z2)).setCell ⟨x1, 2, none⟩ (.int .i64 z3)) = WW
    rintro ⟨r0, r1, r2⟩ TT
    refine bodyPost_ret (v := lastV (some (z1, z2, z3))) ?_ rfl ⟨rfl, TT⟩
    simp [results, Try.results38, go_sem, lastV, r0, r1, r2]

theorem cutL_take {l : List En} {k : Nat} (h : k < l.length) (q : Int) : cutL (l.take (k + 1)) q = if l[k].2.2 < q then cutL (l.take k) q ++ [l[k]] else cutL (l.take k) q := by
  unfold cutL
  rw [List.take_succ_eq_append_getElem h, List.filter_append]
  split <;> simp [*]
set_option maxHeartbeats 2000000 in
theorem below_any (t : TabV) (q : Int) (w : World) (ht : t.At w) :
    Calls Try.prog 47 #[t.val, .int .i64 q] w fun e w' => ∃ u, e = .returned u ∧ w'.ownsRow w.heap.size TEn 3 u (cutL t.l q).length (envals (cutL t.l q)) ∧ Touch [] w w' := by
  obtain ⟨x, c, l⟩ := t
  have hx := ht.ent
  obtain ⟨-, -, -, hn⟩ := ht.good
  dsimp only at hx hn
  unfold TabV.val
  dsimp only
  obtain ⟨i0, hi, hz0, hz1, hz2⟩ := info_parts infoEn
  have HX := hid hx
  clear hx
  go_enter Try.func47, Try.ntmps47
  go_wp2
  go_loopw [5, 10] (fun uv iv wr => ∃ k : Nat, k ≤ l.length ∧ iv = .int .i64 k ∧ wr.ownsRow w.heap.size TEn 3 uv (cutL (l.take k) q).length (envals (cutL (l.take k) q)) ∧ Touch [] w wr) (fun _ iv _ => l.length - (RowKit.intOf iv).toNat)
  case atStart => exact ⟨0, Nat.zero_le _, rfl, World.ownsRow_nil _ _ _ _, Touch.refl _ _⟩
  case round =>
    obtain ⟨k, hk, rfl, hown, ht⟩ := hrel
    obtain ⟨yu, cu, rfl, -, -⟩ := slice_form hown
    have HT := hid ht
    have HO := hid hown
    have hle : (cutL (l.take k) q).length ≤ 100000 := Nat.le_trans (List.length_filter_le _ _) (by rw [List.length_take]; omega)
    clear ht hown
    by_cases hlt : k < l.length
    · have hlt2 : decide (k < l.length) = true := by simpa using hlt
      have hI : (k : Int) < l.length := by omega
      obtain ⟨b, off, rfl, g0, g1, g2⟩ := HX.out k hlt
      have e0 := HT.out.cell g0
      have e1 := HT.out.cell g1
      have e2 := HT.out.cell g2
      have PT := hid (cutL_take hlt q)
      clear g0 g1 g2
      generalize l[k] = s at *
      generalize cutL (l.take k) q = m at *
      by_cases hq : s.2.2 < q
      · have PT2 := hid (PT.out.trans (if_pos hq))
        have hb : decide (s.2.2 < q) = true := by simpa using hq
        clear PT
        go_wp2_with (at_builtin; refine wpList_append_grew _ rfl _ _ 57 rfl w.heap.size TEn i0 (.agg #[.int .i64 0, .int .i64 0, .int .i64 0]) 3 24 Try.underlying57 hi hz0 hz1 hz2 rfl (by decide) _ m.length (envals m) rfl ((HO.out.alloc _).alloc _) (.slice (some ⟨wr.heap.size + 1, 0, none⟩) 1 1) 1 0 (enc3 s) rfl (lit_en _ s _ (by simp)) (enc3_one s) (by omega) (by decide) (by have := HT.out.size; simp; omega) ?_; intro y cap w2 hG; have G := hid hG; clear hG)
        go_roundw
        case rel => exact ⟨k + 1, by omega, by go_num, by rw [PT2.out, List.length_append, envals_append]; simpa [envals] using G.out.own, G.out.touch ((HO.out.alloc _).alloc _) ((HT.out.alloc _).alloc _) (Nat.le_refl _)⟩
        case measure => simp [RowKit.intOf]; omega
      · have PT2 := hid (PT.out.trans (if_neg hq))
        have hb : decide (s.2.2 < q) = false := by simpa using hq
        clear PT
        go_wp2
        go_roundw
        case rel => exact ⟨k + 1, by omega, by go_num, by rw [PT2.out]; exact HO.out.alloc _, HT.out.alloc _⟩
        case measure => simp [RowKit.intOf]; omega
    · obtain rfl : k = l.length := by omega
      rw [List.take_length] at HO ⊢
      go_wp2
      go_ret
      exact ⟨_, rfl, HO.out, HT.out⟩
end Go.Proofs.Ytnkflmimnpolcaa
