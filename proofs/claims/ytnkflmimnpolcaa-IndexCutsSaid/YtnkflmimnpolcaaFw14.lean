/- Flush, walked. -/
import Derived.Test.YtnkflmimnpolcaaFl14
namespace Go.Proofs.Ytnkflmimnpolcaa
open Go.RowKit Go.Lib Go.Shelf
set_option maxRecDepth 100000

theorem rest_ix {w : World} {b : Nat} {i : Nat} {cs : Array Value} {t : TypeId} {fz : Nat × Nat} (h : w.heap[b]? = some (.cells cs t fz)) (u : Value) : Rest [t] w (w.setCell ⟨b, i, none⟩ u) := fun b' cs' t' fz' hb hn => by
  refine (heap_set_other u ?_).trans hb
  rintro rfl
  rw [h] at hb
  cases hb
  exact hn (by simp)
/-- An index whose memory and levels are stored anew. -/
theorem fl_end {W : World} {xb room most c : Nat} {cs : Array Value} {L' : List LvV} {x : Option Addr} (hb : W.heap[xb]? = some (.cells cs TIx)) (h0 : cs.size = 4) (hr : cs[0]? = some (.int .i64 room)) (hm : cs[1]? = some (.int .i64 most)) (h1 : 1 ≤ room) (h2 : 2 ≤ most)
    (own : W.ownsRow 0 TTbs 1 (.slice x L'.length c) L'.length (L'.map LvV.val)) (lv : ∀ v ∈ L', v.At W) :
    IxAt ((W.setCell ⟨xb, 3, none⟩ (.slice x L'.length c)).setCell ⟨xb, 2, none⟩ (.pointer none)) xb room most .nil L' := by
  have e1 := heap_set (i := 3) hb (.slice x L'.length c)
  have e2 := heap_set (i := 2) e1 (.pointer none)
  have R := (rest_ix (i := 3) hb (.slice x L'.length c)).trans (rest_ix (i := 2) e1 (.pointer none))
  refine ⟨⟨none, x, c, ?_, rfl, ⟨R.row own (by decide), fun v hv => (lv v hv).rest R (by decide) (by decide)⟩⟩, h1, h2⟩
  rw [e2]
  congr 2
  match cs, h0, hr, hm with
  | ⟨[a, b, d, e]⟩, _, hr, hm =>
    cases hr
    cases hm
    rfl
theorem mem_all {w : World} {xb room most : Nat} {T : Tr} {L : List LvV} (hI : IxAt w xb room most T L) (hv : Inv T L) (hT : T.io ≠ []) (W : World) (t : Touch [] w W) :
    Calls Try.prog 32 #[.pointer (some ⟨xb, 2, none⟩)] W fun e w' => ∃ tv : TabV, e = .returned tv.val ∧ tv.l = T.io ∧ tv.At w' ∧ Touch [] W w' := by
  have hz : fromE T.io (0, 0, 0) = T.io := from_zero fun e he => (hv.ok e he).1
  have htot := hv.tot
  rw [List.length_append] at htot
  refine (all_any (some ⟨xb, 2, none⟩) T hv.s (by omega) W (hI.t0 t).mem).mono ?_
  rintro e w' ⟨v, rfl, ho, t1⟩
  rw [hz] at ho
  obtain ⟨y, cap, rfl, -, -⟩ := slice_form ho
  exact ⟨⟨y, cap, T.io⟩, rfl, rfl, ⟨row_base ho (Nat.zero_le _), hv.s, hv.ok, hT, by show T.io.length ≤ 100000; omega⟩, t1⟩
theorem fl_start {w W : World} {xb room most : Nat} {T : Tr} {L : List LvV} (hI : IxAt w xb room most T L) (hv : Inv T L) (nL : L.length ≤ 50000) {x : Option Addr} {c : Nat} {tv : TabV}
    (own : W.ownsRow w.heap.size TTbs 1 (.slice x L.length c) L.length (L.map LvV.val)) (t : Touch [] w W) (ht : tv.At W) (hl : tv.l = T.io) :
    Calls Try.prog 30 #[.slice x L.length c, .int .i64 0, tv.val] W fun e w3 => ∃ x1 c1 L1, e = .returned (.slice x1 L1.length c1) ∧ FlI w most T L 0 x1 c1 L1 w3 := by
  obtain ⟨r, lx, lc, -, -, hL⟩ := hI.blk
  have htb := tabs_le (tabsL L) fun t ht => (hL.tab t ht).good.2.2.1
  have htot := hv.tot
  rw [List.length_append] at htot
  refine (with14_any 0 own (fun v hv => (hL.lv v hv).t0 t) ht (Nat.zero_le _) t.size (by omega) (fun v hv => by have := (lv_sub hv).length_le; omega)).mono ?_
  rintro e w3 ⟨x', c', L', rfl, R, hL'⟩
  refine ⟨x', c', L', rfl, R.own, R.lv, R.touch w t (Nat.le_refl _), ?_, ?_⟩
  · rw [putT_cnt hL']
    exact AtC.start most hI.most _
  · have h1 : (tabsL L').Perm (tv :: tabsL L) := by
      rw [tabs_eq, tabs_eq, hL']
      exact putT_perm _ _ _ (Nat.zero_le _)
    have := flatT_perm h1
    rwa [flatT_cons, hl] at this
theorem FlI.drew {w W : World} {most k c : Nat} {T : Tr} {L L' : List LvV} {x : Option Addr} (h : FlI w most T L k x c L' W) : FlI w most T L k x c L' W.drew :=
  have t : Touch [] W W.drew := (Touch.refl [] W).drew
  ⟨owns_touch h.own t, fun v hv => (h.lv v hv).t0 t, h.t.drew, h.cnt, h.ent⟩
set_option maxHeartbeats 4000000 in
theorem flush_any {w : World} {xb room most : Nat} {T : Tr} {L : List LvV} (hI : IxAt w xb room most T L) (hv : Inv T L) (hT : T.io ≠ []) (nL : L.length ≤ 50000) :
    Calls Try.prog 11 #[.pointer (some ⟨xb, 0, none⟩)] w fun e w' => ∃ L', e = .returned (.bool true) ∧ IxAt w' xb room most .nil L' ∧ cnts L' = car most 1 (cnts L) ∧ (flatT (tabsL L')).Perm (T.io ++ flatT (tabsL L)) ∧ Touch [xb] w w' := by
  have CM := hid (mem_any hI)
  have C2 := hid fun W t => mem_all hI hv hT W t
  have C3 := hid fun W x c tv own t ht hl => fl_start (W := W) hI hv nL (x := x) (c := c) (tv := tv) own t ht hl
  obtain ⟨⟨r, lx, lc, hb, hr, hL⟩, hroom, hmost⟩ := hI
  have C1 := hid fun W (t : Touch [] w W) => clone14_any lx lc L W (hL.t0 t) (by omega)
  have c1 := cell_of hb 1
  have c3 := cell_of hb 3
  have HB := hid hb
  have HV := hid hv
  have hne : ((T.io.length : Int) == 0) = false := by rw [beq_eq_false_iff_ne]; have := List.length_pos_iff.2 hT; omega
  have T0 : Touch [] w w.drew := (Touch.refl [] w).drew
  clear hb hr hL hv hT
  go_enter Try.func11, Try.ntmps11
  go_upto_region 3 with (go_at_call 25; refine CM.out.mono ?_; rintro e w1 ⟨rfl, h⟩; have h := h.symm; subst h)
  go_region_law (first
    | (refine step_call _ rfl (f := 31) (args := #[.slice lx L.length lc]) (by simp [go_sem, Act.eval]) (C1.out _ T0) ?_; rintro e w1 ⟨x1, k1, rfl, o1, t1⟩; have O1 := hid o1; have T1 := hid (T0.trans t1 (by simp)); clear o1 t1; refine ⟨_, rfl, ?_⟩)
    | (refine step_call _ rfl (f := 32) (args := #[.pointer (some ⟨xb, 2, none⟩)]) (by simp [go_sem, Act.eval]) (C2.out _ T1.out) ?_; rintro e w2 ⟨tv, rfl, hl2, h2, t2⟩; have H2 := hid h2; have O2 := hid (owns_touch O1.out t2); have T2 := hid (T1.out.trans t2 (by simp)); have HL2 := hid hl2; clear h2 t2 hl2; refine ⟨_, rfl, ?_⟩)
    | (refine step_call _ rfl (f := 30) (args := #[.slice x1 L.length k1, .int .i64 0, tv.val]) (by simp [go_sem, Act.eval]) (C3.out _ _ _ _ O2.out T2.out H2.out HL2.out) ?_; rintro e w3 ⟨x3, k3, L3, rfl, f3⟩; have F3 := hid f3; clear f3; refine ⟨_, rfl, ?_⟩))
  clear C1 C2 C3 CM c3 T0
  go_wp2
  go_loopw [3, 4] (fun sv iv wr => ∃ (k : Nat) (x : Option Addr) (c : Nat) (L' : List LvV), iv = .int .i64 k ∧ sv = .slice x L'.length c ∧ FlI w most T L k x c L' wr) (fun _ iv _ => (L.length + 2) - (RowKit.intOf iv).toNat)
  case atStart => exact ⟨0, x3, k3, L3, rfl, rfl, F3.out⟩
  case round =>
    obtain ⟨k, x, c, L', rfl, rfl, F⟩ := hrel
    have hlen := F.cnt.len
    have hle := F.cnt.le
    rw [cnts_len] at hle
    rw [cnts_len, cnts_len] at hlen
    clear F3 O1 O2 H2 T1 T2 HL2
    by_cases hlt : k < L'.length
    · have hlt2 : decide (k < L'.length) = true := by simpa using hlt
      have hIk : (k : Int) < L'.length := by omega
      have c1' := F.t.cell c1
      obtain ⟨g, rfl⟩ : ∃ g : Nat, x = some ⟨g, 0, none⟩ := by
        rcases F.own.2 with ⟨_, h0⟩ | ⟨g', cap, cur, e', _⟩
        · omega
        · cases e'; exact ⟨g', rfl⟩
      have cK := (row_cell F.own (i := k) (by simpa using hlt)).1
      rw [List.getElem_map] at cK
      by_cases hbg : most ≤ L'[k].ts.length
      · have hd : decide (most ≤ L'[k].ts.length) = true := by simpa using hbg
        have MG := hid (lvmerged_any F.drew HV.out hmost hlt hbg)
        have WT := hid fun w2 t ht hp T2 => flwith_any (w2 := w2) (t := t) F.drew HV.out hmost hlt hbg nL ht hp T2
        clear F
        generalize L'[k] = v at *
        unfold LvV.val at *
        generalize L'.length = n at *
        go_upto_region 7 with fail
        go_region_law fail
        go_wp2_with (first
          | (go_at_call 33; refine MG.out.mono ?_; rintro e w2 ⟨tv, rfl, h2, p2, t2⟩; have H2 := hid h2; have P2 := hid p2; have T2 := hid t2; clear h2 p2 t2)
          | (go_at_call 30; refine (WT.out _ _ H2.out P2.out T2.out).mono ?_; rintro e w3 ⟨g3, c3, n3, L3, v3, rfl, hn3, hk3, e3, f3, F3⟩; have F3 := hid F3; have hIk3 : (k : Int) < n3 := by omega))
        go_roundw
        case rel => exact ⟨k + 1, _, _, _, by go_num, rfl, F3.out⟩
        case measure => simp [RowKit.intOf]; omega
        case roundEnd => exact ⟨⟨k + 1, _, _, _, by go_num, rfl, F3.out⟩, by simp [RowKit.intOf]; omega⟩
      · have hd : decide (most ≤ L'[k].ts.length) = false := by simpa using hbg
        have F3 := hid (FlI.mk F.drew.own F.drew.lv F.drew.t (F.cnt.small (by rw [cnts_len]; exact hlt) (by simp [cnts]; omega)) F.ent)
        clear F
        generalize L'[k] = v at *
        unfold LvV.val at *
        generalize hn : L'.length = n at *
        go_upto_region 7 with fail
        go_region_law fail
        go_wp2
        go_roundw
        case rel => exact ⟨k + 1, _, _, L', by go_num, by rw [hn], F3.out⟩
        case measure => simp [RowKit.intOf]; omega
        case roundEnd => exact ⟨⟨k + 1, _, _, L', by go_num, by rw [hn], F3.out⟩, by simp [RowKit.intOf]; omega⟩
    · obtain rfl : k = L'.length := by omega
      have hlt2 : decide (L'.length < L'.length) = false := by simp
      have HBr := hid (touch_other F.t HB.out (by simp))
      have CN := hid (show Calls Try.prog 7 #[] wr fun e w9 => e = .returned (.pointer (some ⟨wr.heap.size, 0, none⟩)) ∧ w9.heap[xb]? = some (.cells #[.int .i64 room, .int .i64 most, .pointer r, .slice lx L.length lc] TIx) ∧ w9.heap[wr.heap.size]? = some (.cells #[.pointer none] 47) ∧ Touch [] wr w9 from (new_any wr).mono (by rintro e w9 ⟨rfl, rfl⟩; exact ⟨rfl, heap_alloc_keep HBr.out _, heap_alloc_new _ _, (Touch.refl [] wr).alloc _⟩))
      have ED := hid fun W (t : Touch [] wr W) => fl_end (touch_other t HBr.out (by simp)) rfl rfl rfl hroom hmost (owns_touch (row_base F.own (Nat.zero_le _)) t) (fun v hv => (F.lv v hv).t0 t)
      have CD := hid (F.cnt.done (by rw [cnts_len]))
      have EN := hid F.ent
      have TT := hid F.t
      have LT := hid (lt_of_block HBr.out)
      clear F
      generalize hn : L'.length = n at *
      go_wp2_with (go_at_call 7; refine CN.out.mono ?_; rintro e w9 ⟨rfl, hw, hn9, t9⟩; have d2 := cell_of hw 2; have d3 := cell_of hw 3; have g2 := free_of hw 2; have g3 := free_of hw 3; have d0 := cell_of hn9 0; have T9 := hid t9; clear hw hn9 t9)
      go_ret
      exact ⟨L', rfl, ED.out _ T9.out, CD.out, EN.out, (((TT.out.trans T9.out (by simp)).mono (G := [xb]) (by simp)).setCell (.inl (by simp)) _).setCell (.inl (by simp)) _⟩
end Go.Proofs.Ytnkflmimnpolcaa
