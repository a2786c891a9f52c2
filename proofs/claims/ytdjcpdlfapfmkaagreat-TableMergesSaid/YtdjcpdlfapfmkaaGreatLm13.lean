/- A table's last entry of a hash; its midpoints. -/
import Derived.Test.YtdjcpdlfapfmkaaGreatFd13
namespace Go.Proofs.YtdjcpdlfapfmkaaGreat
open Go.RowKit Go.Lib
set_option maxRecDepth 100000

set_option maxHeartbeats 2000000 in
theorem tblast_any {p : Option Addr} {l : List En} (h : Int) {w : World} (ht : TblAt w p l) (hs : SortedE l) (hm : OkM l) (hlen : l.length ≤ 1000000) :
    Calls Tryz.prog 19 #[.pointer p, .int .i64 h] w fun e w' => e = .returned (lastV (lastE l h)) ∧ Touch [] w w' := by
  have hc := cnt_le l (h, 9223372036854775807, 9223372036854775807)
  have HL := last_cnt hs hm h _ rfl
  have A1 := hid fun w' (t : Touch [] w w') => ahead_any (h, 9223372036854775807, 9223372036854775807) (ht.t0 t) hs hlen
  rw [HL]
  clear HL
  generalize cntE l (h, 9223372036854775807, 9223372036854775807) = c at *
  obtain ⟨x1, hx1⟩ : ∃ x, x = w.heap.size := ⟨_, rfl⟩
  obtain ⟨w1, hw1⟩ : ∃ w1, w1 = w.alloc (.cells #[.int .i64 0, .int .i64 0, .int .i64 0] 53) := ⟨_, rfl⟩
  have B1 : EnB w1 x1 (0, 0, 0) := by rw [hw1, hx1]; exact heap_alloc_new w _
  have T1 : Hid (Touch [] w w1) := hid (by rw [hw1]; exact (Touch.refl [] w).alloc _)
  have hx : w.heap.size ≤ x1 := by omega
  have FIN : ∀ w3, Touch [] w1 w3 → ∀ u1 u2 u3, Touch [] w (((w3.setCell ⟨x1, 0, none⟩ u1).setCell ⟨x1, 1, none⟩ u2).setCell ⟨x1, 2, none⟩ u3) := fun w3 t u1 u2 u3 =>
    (((T1.out.trans t (by simp)).setCell (p := ⟨x1, 0, none⟩) (.inr hx) u1).setCell (p := ⟨x1, 1, none⟩) (.inr hx) u2).setCell (p := ⟨x1, 2, none⟩) (.inr hx) u3
  have C := hid (A1.out w1 T1.out)
  clear A1
  have NONE : Hid (∀ w3, Touch [] w1 w3 → EnB w3 x1 (0, 0, 0)) := hid fun w3 t => B1.t t
  by_cases h0 : c = 0
  · subst h0
    rw [if_neg (by omega)]
    clear ht hs hm
    go_enter Tryz.func19, Tryz.ntmps19
    go_upto_region 1 with fail
    rw [← hw1, ← hx1]
    clear hw1 hx1
    go_wp2_with (go_at_call 52; refine C.out.mono ?_; clear C; rintro e w3 ⟨rfl, t3⟩; have B3 := NONE.out _ t3; obtain ⟨p0, p1, p2⟩ := B3.c; have f0 := free_of B3 0; have f1 := free_of B3 1; have f2 := free_of B3 2)
    have E := (en_set B3 (0, 0, 0)).c
    have TT := FIN w3 t3 (.int .i64 0) (.int .i64 0) (.int .i64 0)
    revert E TT
    dsimp only
    generalize (((w3.setCell ⟨x1, 0, none⟩ (.int .i64 0)).setCell ⟨x1, 1, none⟩ (.int .i64 0)).setCell ⟨x1, 2, none⟩ (.int .i64 0)) = WW
    rintro ⟨r0, r1, r2⟩ TT
    refine bodyPost_ret (v := lastV none) ?_ rfl ⟨rfl, TT⟩
    simp [results, Tryz.results19, go_sem, lastV, r0, r1, r2]
  · rcases ht with ⟨rfl, rfl⟩ | ⟨tb, x, cap, rfl, hb, ⟨hcap, -⟩, hxx⟩
    · simp at hc; omega
    · have hci : c - 1 < l.length := by omega
      rw [if_pos (by omega), List.getElem?_eq_getElem hci]
      obtain ⟨b, off, rfl, g0, g1, g2⟩ := hxx (c - 1) hci
      have hbe : (c == 0) = false := by simp; omega
      have hbi : ((c : Int) == 0) = false := by simp; omega
      have hsub : IntKind.i64.wrap ((c : Int) - 1) = ((c - 1 : Nat) : Int) := by rw [IntKind.wrap_i64]; omega
      have hltI : ((c - 1 : Nat) : Int) < l.length := by omega
      have HIT := hid (fun h' : l[c - 1].1 = h => (show Option.filter (fun e : En => decide (e.1 = h)) (some l[c - 1]) = some l[c - 1] by simp [h']))
      have MISS := hid (fun h' : ¬ l[c - 1].1 = h => (show Option.filter (fun e : En => decide (e.1 = h)) (some l[c - 1]) = none by simp [h']))
      generalize l[c - 1] = s at *
      generalize Option.filter (fun e : En => decide (e.1 = h)) (some s) = out at *
      have KC : Hid (∀ w3, Touch [] w1 w3 → w3.cell? ⟨tb, 0, none⟩ = some (.slice (some ⟨b, off, none⟩) l.length cap) ∧ w3.cell? ⟨b, off + (c - 1) * 3, none⟩ = some (.int .i64 s.1) ∧ w3.cell? ⟨b, off + (c - 1) * 3 + 1, none⟩ = some (.int .i64 s.2.1) ∧ w3.cell? ⟨b, off + (c - 1) * 3 + 2, none⟩ = some (.int .i64 s.2.2)) := hid fun w3 t => by
        have t := T1.out.trans t (by simp)
        exact ⟨t.cell (cell_of hb 0), t.cell g0, t.cell g1, t.cell g2⟩
      have CI : Hid (∀ k : Nat, k = c → k - 1 < l.length ∧ (k : Int) - 1 = ((k - 1 : Nat) : Int)) := hid fun k hk => by omega
      clear hb hxx g0 g1 g2 hs hm
      by_cases hh : s.1 = h
      · have ho := HIT.out hh
        clear MISS HIT
        obtain ⟨e1, e2, e3⟩ := s
        dsimp only at hh
        subst hh
        obtain ⟨j, rfl⟩ : ∃ j, c = j + 1 := ⟨c - 1, by omega⟩
        simp only [Nat.add_sub_cancel] at *
        go_enter Tryz.func19, Tryz.ntmps19
        go_upto_region 1 with fail
        rw [← hw1, ← hx1]
        clear hw1 hx1
        go_wp2_with (go_at_call 52; refine C.out.mono ?_; clear C; rintro e w3 ⟨rfl, t3⟩; have B3 := NONE.out _ t3; obtain ⟨p0, p1, p2⟩ := B3.c; have f0 := free_of B3 0; have f1 := free_of B3 1; have f2 := free_of B3 2; obtain ⟨n0, n1, n2, n3⟩ := KC.out _ t3)
        have E := (en_set B3 (e1, e2, e3)).c
        have TT := FIN w3 t3 (.int .i64 e1) (.int .i64 e2) (.int .i64 e3)
        revert E TT
        dsimp only
        generalize (((w3.setCell ⟨x1, 0, none⟩ (.int .i64 e1)).setCell ⟨x1, 1, none⟩ (.int .i64 e2)).setCell ⟨x1, 2, none⟩ (.int .i64 e3)) = WW
        rintro ⟨r0, r1, r2⟩ TT
        refine bodyPost_ret (v := lastV (some (e1, e2, e3))) ?_ rfl ⟨by rw [ho], TT⟩
        simp [results, Tryz.results19, go_sem, lastV, r0, r1, r2]
      · have ho := MISS.out hh
        have hne : (s.1 != h) = true := by simpa using hh
        clear MISS HIT
        obtain ⟨j, rfl⟩ : ∃ j, c = j + 1 := ⟨c - 1, by omega⟩
        simp only [Nat.add_sub_cancel] at *
        go_enter Tryz.func19, Tryz.ntmps19
        go_upto_region 1 with fail
        rw [← hw1, ← hx1]
        clear hw1 hx1
        go_wp2_with (go_at_call 52; refine C.out.mono ?_; clear C; rintro e w3 ⟨rfl, t3⟩; have B3 := NONE.out _ t3; obtain ⟨p0, p1, p2⟩ := B3.c; have f0 := free_of B3 0; have f1 := free_of B3 1; have f2 := free_of B3 2; obtain ⟨n0, n1, n2, n3⟩ := KC.out _ t3)
        have E := (en_set B3 (0, 0, 0)).c
        have TT := FIN w3 t3 (.int .i64 0) (.int .i64 0) (.int .i64 0)
        revert E TT
        dsimp only
        generalize (((w3.setCell ⟨x1, 0, none⟩ (.int .i64 0)).setCell ⟨x1, 1, none⟩ (.int .i64 0)).setCell ⟨x1, 2, none⟩ (.int .i64 0)) = WW
        rintro ⟨r0, r1, r2⟩ TT
        refine bodyPost_ret (v := lastV none) ?_ rfl ⟨by rw [ho], TT⟩
        simp [results, Tryz.results19, go_sem, lastV, r0, r1, r2]

/-- The midpoints. -/
def midsE (l : List En) : List En := ((List.range l.length).filter fun k => decide (k % 8 = 0) || decide (k = l.length - 1)).map fun k => l[k]?.getD (0, 0, 0)
def midsN (l : List En) (n : Nat) : List En := ((List.range n).filter fun k => decide (k % 8 = 0) || decide (k = l.length - 1)).map fun k => l[k]?.getD (0, 0, 0)
theorem midsN_succ (l : List En) (n : Nat) (h : n < l.length) : midsN l (n + 1) = if n % 8 = 0 ∨ n = l.length - 1 then midsN l n ++ [l[n]] else midsN l n := by
  unfold midsN
  rw [List.range_succ, List.filter_append, List.map_append]
  by_cases h1 : n % 8 = 0 ∨ n = l.length - 1
  · rw [if_pos h1]
    have : (decide (n % 8 = 0) || decide (n = l.length - 1)) = true := by simpa using h1
    simp [this, List.getElem?_eq_getElem h]
  · rw [if_neg h1]
    have : (decide (n % 8 = 0) || decide (n = l.length - 1)) = false := by simpa using h1
    simp [this]
theorem midsN_len (l : List En) (n : Nat) : (midsN l n).length ≤ n := by
  unfold midsN
  rw [List.length_map]
  exact Nat.le_trans (List.length_filter_le _ _) (by simp)

set_option maxHeartbeats 4000000 in
theorem tbmids_any {p : Option Addr} {l : List En} {w : World} (ht : TblAt w p l) (hlen : l.length ≤ 1000000) :
    Calls Tryz.prog 16 #[.pointer p] w fun e w' => ∃ u, e = .returned u ∧ w'.ownsRow w.heap.size TEn 3 u (midsE l).length (envals (midsE l)) ∧ Touch [] w w' := by
  have B := hid (list_any ht)
  obtain ⟨i0, hi, hz0, hz1, hz2⟩ := info_parts infoEn
  have HM : Hid (midsE l = midsN l l.length) := hid rfl
  clear ht
  go_enter Tryz.func16, Tryz.ntmps16
  go_wp2_with fail
  refine B.out.mono ?_
  rintro r w1 ⟨x, c, rfl, -, hx, rfl⟩
  have HX := hid hx
  clear hx B
  go_wp2_with fail
  go_loopw [3, 11] (fun uv iv wr => ∃ k : Nat, k ≤ l.length ∧ iv = .int .i64 k ∧ wr.ownsRow w1.heap.size TEn 3 uv (midsN l k).length (envals (midsN l k)) ∧ Touch [] w1 wr) (fun _ iv _ => l.length - (RowKit.intOf iv).toNat)
  case atStart => exact ⟨0, Nat.zero_le _, rfl, World.ownsRow_nil _ _ _ _, Touch.refl _ _⟩
  case round =>
    obtain ⟨k, hk, rfl, hown, ht⟩ := hrel
    obtain ⟨yu, cu, rfl, -, -⟩ := slice_form hown
    have HT := hid ht
    have HO := hid hown
    have hle := midsN_len l k
    clear ht hown
    by_cases hlt : k < l.length
    · have hlt2 : decide (k < l.length) = true := by simpa using hlt
      have hI : (k : Int) < l.length := by omega
      obtain ⟨b, off, rfl, g0, g1, g2⟩ := HX.out k hlt
      have e0 := HT.out.cell g0
      have e1 := HT.out.cell g1
      have e2 := HT.out.cell g2
      have PT := hid (midsN_succ l k hlt)
      clear g0 g1 g2
      generalize l[k] = s at *
      generalize hmm : midsN l k = m at *
      have HMM := hid hmm
      clear hmm
      by_cases hq : k % 8 = 0
      · have PT2 := hid (PT.out.trans (if_pos (.inl hq)))
        have hb : ((k : Int) % 8 == 0) = true := by rw [beq_iff_eq]; omega
        clear PT hq
        go_wp2_with (at_builtin; refine wpList_append_grew _ rfl _ _ TEns rfl w1.heap.size TEn i0 (.agg #[.int .i64 0, .int .i64 0, .int .i64 0]) 3 24 Tryz.underlying22 hi hz0 hz1 hz2 rfl (by decide) _ m.length (envals m) rfl ((HO.out.alloc _).alloc _) (.slice (some ⟨wr.heap.size + 1, 0, none⟩) 1 1) 1 0 (enc3 s) rfl (lit_en _ s _ (by simp)) (enc3_one s) (by omega) (by decide) (by have := HT.out.size; simp; omega) ?_; intro y cap w2 hG; have G := hid hG; clear hG)
        go_roundw
        case rel => exact ⟨k + 1, by omega, by go_num, by rw [PT2.out, List.length_append, envals_append]; simpa [envals] using G.out.own, G.out.touch ((HO.out.alloc _).alloc _) ((HT.out.alloc _).alloc _) (Nat.le_refl _)⟩
        case measure => simp [RowKit.intOf]; omega
      · have hb : ((k : Int) % 8 == 0) = false := by rw [beq_eq_false_iff_ne]; omega
        by_cases hq2 : k = l.length - 1
        · have PT2 := hid (PT.out.trans (if_pos (.inr hq2)))
          have hb2 : ((k : Int) == (l.length : Int) - 1) = true := by rw [beq_iff_eq]; omega
          clear PT hq hq2
          go_wp2_with (at_builtin; refine wpList_append_grew _ rfl _ _ TEns rfl w1.heap.size TEn i0 (.agg #[.int .i64 0, .int .i64 0, .int .i64 0]) 3 24 Tryz.underlying22 hi hz0 hz1 hz2 rfl (by decide) _ m.length (envals m) rfl ((HO.out.alloc _).alloc _) (.slice (some ⟨wr.heap.size + 1, 0, none⟩) 1 1) 1 0 (enc3 s) rfl (lit_en _ s _ (by simp)) (enc3_one s) (by omega) (by decide) (by have := HT.out.size; simp; omega) ?_; intro y cap w2 hG; have G := hid hG; clear hG)
          go_roundw
          case rel => exact ⟨k + 1, by omega, by go_num, by rw [PT2.out, List.length_append, envals_append]; simpa [envals] using G.out.own, G.out.touch ((HO.out.alloc _).alloc _) ((HT.out.alloc _).alloc _) (Nat.le_refl _)⟩
          case measure => simp [RowKit.intOf]; omega
        · have PT2 := hid (PT.out.trans (if_neg (by omega)))
          have hb2 : ((k : Int) == (l.length : Int) - 1) = false := by rw [beq_eq_false_iff_ne]; omega
          clear PT hq hq2
          go_wp2
          go_roundw
          case rel => exact ⟨k + 1, by omega, by go_num, by rw [PT2.out]; exact HO.out.alloc _, HT.out.alloc _⟩
          case measure => simp [RowKit.intOf]; omega
    · obtain rfl : k = l.length := by omega
      go_wp2
      go_ret
      rw [HM.out]
      exact ⟨_, rfl, HO.out, HT.out⟩
end Go.Proofs.YtdjcpdlfapfmkaaGreat
