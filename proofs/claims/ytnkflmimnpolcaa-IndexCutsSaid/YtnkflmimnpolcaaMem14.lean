/- The table of all entries; Merge. Merge. Merge, walked. -/
import Derived.Test.YtnkflmimnpolcaaAl14
import Derived.Deep.RegionLaw
namespace Go.Proofs.Ytnkflmimnpolcaa
open Go.RowKit Go.Lib Go.Shelf
set_option maxRecDepth 100000

theorem all_merged {w w1 w3 w5 : World} {T : Tr} {L : List LvV} {S : List En} {C : List Nat} (hS : OkS S C) (hp : (T.io ++ flatT (tabsL L)).Perm S) (hne : S ≠ []) (ht : ∀ t ∈ tabsL L, t.At w) (hn : (tabsL L).length ≤ 100000) (t1 : Touch [] w w1) (t3 : Touch [] w1 w3)
    {u : Value} (ou : w3.ownsRow w1.heap.size TTb 1 u (tabsL L).length ((tabsL L).map TabV.val)) {tm : TabV} (htl : tm.l = T.io) (otm : w3.ownsRow 0 TEn 3 tm.val tm.l.length (envals tm.l)) {y : Option Addr} {cap : Nat}
    (hG : Grew (w3.alloc (.cells #[tm.val] TTb)) w5 w1.heap.size TTb 1 u (.slice y ((tabsL L).length + 1) cap) (tabsL L).length 1 ((tabsL L).map TabV.val) [tm.val]) :
    Calls Try.prog 33 #[.slice y ((tabsL L).length + 1) cap] w5 fun e w' => ∃ t : TabV, e = .returned t.val ∧ t.At w' ∧ t.l = S ∧ Touch [] w w' := by
  have tw : Touch [] w w3 := t1.trans t3 (by simp)
  have R : Rest [TTb] w3 w5 := (Rest.touch ((Touch.refl [] w3).alloc _)).trans (hG.rest (ou.alloc _) (by simp))
  have t5 : Touch [] w w5 := hG.touch (ou.alloc _) (tw.alloc _) t1.size
  have hown : w5.ownsRow w1.heap.size TTb 1 (.slice y ((tabsL L).length + 1) cap) ((tabsL L).length + 1) ((tabsL L ++ [tm]).map TabV.val) := by
    rw [List.map_append]; exact hG.own
  have hwk : ∀ t ∈ tabsL L ++ [tm], t.Wk w5 := fun t h => by
    rcases List.mem_append.1 h with h | h
    · exact ((ht t h).t0 t5).wk
    · obtain rfl := List.mem_singleton.1 h
      have ho := R.row otm (by decide)
      obtain ⟨x, c, e, -, hx⟩ := entX_own ho
      cases e
      exact ⟨(row_cap ho).2, hx⟩
  have hf : flatT (tabsL L ++ [tm]) = flatT (tabsL L) ++ T.io := by rw [flatT_app, flatT_cons, htl]; simp [flatT]
  have hperm : (flatT (tabsL L ++ [tm])).Perm S := by rw [hf]; exact List.perm_append_comm.trans hp
  have hlen := hS.len
  have := merged14_any y cap (tabsL L ++ [tm]) w5 (rowV_own hown) hwk (by simp; omega) (by rw [hperm.length_eq]; omega) (hperm.nodup_iff.2 (sorted_nodup hS.s))
  rw [List.length_append, List.length_singleton] at this
  refine this.mono ?_
  rintro e w' ⟨u', l', rfl, ⟨hs, hm, hl⟩, ho, t⟩
  obtain ⟨y', c', rfl, -, -⟩ := slice_form ho
  obtain rfl : l' = S := sorted_ext hs hS.s fun z => by rw [hm]; exact hperm.mem_iff
  exact ⟨⟨y', c', l'⟩, rfl, ⟨row_base ho (Nat.zero_le _), hS.s, hS.ok, hne, hS.len⟩, rfl, t5.trans t (by simp)⟩
set_option maxHeartbeats 4000000 in
theorem all14_any {w : World} {xb room most : Nat} {S : List En} {M : Nat} {C : List Nat} (h : IxS w xb room most S M C) (hS : OkS S C) (hne : S ≠ []) :
    Calls Try.prog 36 #[.pointer (some ⟨xb, 0, none⟩)] w fun e w' => ∃ t : TabV, e = .returned t.val ∧ t.At w' ∧ t.l = S ∧ Touch [] w w' := by
  obtain ⟨T, L, h1, h2, h3, h4, h5⟩ := h.ex
  obtain ⟨g1, g2, g3, g4, g5⟩ := ixs_tabs h1 hS h3 h5
  obtain ⟨i0, hi, hz0, hz1, hz2⟩ := info_parts infoTb
  have T0 : Touch [] w w.drew := (Touch.refl [] w).drew
  have CT := hid fun W => tables_any xb W
  have CC := hid fun W (t : Touch [] w W) => collect_any xb room most T L w h1 g1 (by omega) (by omega) W.heap.size (W.alloc (.cells #[.pointer (some ⟨xb, 0, none⟩)] 28)) (t.alloc _) (cell_of (heap_alloc_new W _) 0)
  have CA := hid fun W (t : Touch [] w W) => (show Calls Try.prog 32 #[.pointer (some ⟨xb, 2, none⟩)] W fun e w' => ∃ tx tc, e = .returned (.slice tx T.io.length tc) ∧ w'.ownsRow 0 TEn 3 (.slice tx T.io.length tc) T.io.length (envals T.io) ∧ Touch [] W w' from by
    refine (all_any (some ⟨xb, 2, none⟩) T h2 (by omega) W (h1.t0 t).mem).mono ?_
    rintro e w' ⟨v, rfl, ho, t1⟩
    rw [from_zero fun e he => (hS.ok e (h3.subset (List.mem_append_left _ he))).1] at ho
    obtain ⟨y, cap, rfl, -, -⟩ := slice_form ho
    exact ⟨y, cap, rfl, row_base ho (Nat.zero_le _), t1⟩)
  have BA := hid fun (w1 w3 w5 : World) t1 t3 u ou tx tc otm y cap hG => all_merged (w := w) (w1 := w1) (w3 := w3) (w5 := w5) hS h3 hne g1 g3 t1 t3 (u := u) ou (tm := ⟨tx, tc, T.io⟩) rfl otm (y := y) (cap := cap) hG
  have hnn := hid g3
  generalize hts : (tabsL L).map TabV.val = vals at *
  generalize hnl : (tabsL L).length = n at *
  clear hts hnl h1 h2 h3 h4 h5 g1 g2 g4 g5 h
  go_enter Try.func36, Try.ntmps36
  go_upto_region 1 with fail
  go_region_law (first
    | (refine step_call _ rfl (f := 35) (args := #[.pointer (some ⟨xb, 0, none⟩)]) (by (simp [go_sem, Act.eval]; done)) (CT.out w.drew) ?_; rintro e w1 ⟨rfl, rfl⟩; refine ⟨_, rfl, ?_⟩)
    | (refine step_call _ rfl (f := 34) (args := #[.func (.func 56) #[] #[.pointer (some ⟨w.heap.size, 0, none⟩)]]) (by (simp [go_sem, Act.eval]; done)) (CC.out _ T0) ?_; rintro e w2 ⟨u, rfl, o2, t2⟩; have O2 := hid o2; have T2 := hid t2; have TW2 := hid ((T0.alloc _).trans t2 (by simp)); clear o2 t2; refine ⟨_, rfl, ?_⟩)
    | (refine step_call _ rfl (f := 32) (args := #[.pointer (some ⟨xb, 2, none⟩)]) (by (simp [go_sem, Act.eval]; done)) (CA.out _ TW2.out) ?_; rintro e w3 ⟨tx, tc, rfl, o3, t3⟩; have O3 := hid o3; have T3 := hid (T2.out.trans t3 (by simp)); have O23 := hid (owns_touch O2.out t3); have SZ3 := hid (Nat.le_trans T2.out.size t3.size); clear o3 t3; refine ⟨_, rfl, ?_⟩)
    | (refine step_append_grew _ rfl (.tmp 5) (.tmp 10) TTbs rfl (w.drew.alloc (.cells #[.pointer (some ⟨xb, 0, none⟩)] 28)).heap.size TTb i0 (.slice none 0 0) 1 24 Try.underlying55 hi hz0 hz1 hz2 rfl (by decide) u n vals (by simp [Act.eval]) (O23.out.alloc _) ⟨w3.heap.size, 0, none⟩ 1 1 [.slice tx T.io.length tc] (by simp [Act.eval]) rfl (cell_one_new _ _ _) (by intro u hu; simp at hu; subst hu; rfl) (by have := hnn.out; omega) (by decide) (by have := SZ3.out; simp at this ⊢; omega) ?_; intro y cap w5 hG; have MG := hid (BA.out _ _ _ (T0.alloc _) T3.out _ O23.out _ _ O3.out _ _ hG); clear hG)
    | (refine step_call _ rfl (f := 33) (args := #[.slice y (n + 1) cap]) (by (simp [go_sem, Act.eval]; done)) MG.out ?_; rintro e w6 ⟨tt, rfl, h6, l6, t6⟩; have H6 := hid h6; have L6 := hid l6; have T6 := hid t6; clear h6 l6 t6; refine ⟨_, rfl, ?_⟩)
    | fail)
  go_wp2
  go_ret
  exact ⟨tt, rfl, H6.out, L6.out, T6.out⟩
end Go.Proofs.Ytnkflmimnpolcaa

namespace Go.Proofs.Ytnkflmimnpolcaa
open Go.RowKit Go.Lib Go.Shelf
set_option maxRecDepth 100000

theorem merge_end {w w6 W : World} {xb room most : Nat} {S : List En} {M : Nat} {C : List Nat} (h : IxS w xb room most S M C) (hS : OkS S C) (x : Option Addr) (c : Nat) (t6 : Touch [] w w6) (ht : TabV.At w6 ⟨x, c, S⟩)
    (tW : Touch [] ((w6.alloc (.cells #[.slice x S.length c] TTb)).alloc (.cells #[.slice (some ⟨w6.heap.size, 0, none⟩) 1 1] TTbs)) W) :
    IxS ((W.setCell ⟨xb, 3, none⟩ (.slice (some ⟨w6.heap.size + 1, 0, none⟩) 1 1)).setCell ⟨xb, 2, none⟩ (.pointer none)) xb room most S 0 [1] := by
  obtain ⟨T, L, h1, h2, h3, h4, h5⟩ := h.ex
  obtain ⟨⟨r, lx, lc, hb, -, -⟩, hr, hm⟩ := h1
  have o1 : (w6.alloc (.cells #[.slice x S.length c] TTb)).ownsRow 0 TTb 1 (.slice (some ⟨w6.heap.size, 0, none⟩) 1 1) 1 [.slice x S.length c] := World.ownsRow_lit w6 #[.slice x S.length c] 1 (Nat.zero_le _) (by decide) rfl
  have o2 : ((w6.alloc (.cells #[.slice x S.length c] TTb)).alloc (.cells #[.slice (some ⟨w6.heap.size, 0, none⟩) 1 1] TTbs)).ownsRow 0 TTbs 1 (.slice (some ⟨w6.heap.size + 1, 0, none⟩) 1 1) 1 [.slice (some ⟨w6.heap.size, 0, none⟩) 1 1] := by
    have := World.ownsRow_lit (base := 0) (e := TTbs) (size := 1) (w6.alloc (.cells #[.slice x S.length c] TTb)) #[.slice (some ⟨w6.heap.size, 0, none⟩) 1 1] 1 (Nat.zero_le _) (by decide) rfl
    rwa [World.size_alloc] at this
  have tt : Touch [] w6 W := (((Touch.refl [] w6).alloc _).alloc _).trans tW (by simp)
  have hbW := touch_other (t6.trans tt (by simp)) hb (by simp)
  have hv : LvV.At W ⟨some ⟨w6.heap.size, 0, none⟩, 1, [⟨x, c, S⟩]⟩ := ⟨owns_touch (o1.alloc _) tW, fun t h => by obtain rfl := List.mem_singleton.1 h; exact ht.t0 tt⟩
  have := fl_end (L' := [⟨some ⟨w6.heap.size, 0, none⟩, 1, [⟨x, c, S⟩]⟩]) (x := some ⟨w6.heap.size + 1, 0, none⟩) (c := 1) hbW rfl rfl rfl hr hm (owns_touch o2 tW) (fun v h => by obtain rfl := List.mem_singleton.1 h; exact hv)
  exact ⟨.nil, _, this, by simp [Tr.io, SortedE], by simp [Tr.io, tabsL, flatT], rfl, rfl⟩
end Go.Proofs.Ytnkflmimnpolcaa

namespace Go.Proofs.Ytnkflmimnpolcaa
open Go.RowKit Go.Lib Go.Shelf
set_option maxRecDepth 100000

theorem ixs_block {w : World} {xb room most : Nat} {S : List En} {M : Nat} {C : List Nat} (h : IxS w xb room most S M C) : ∃ cs, w.heap[xb]? = some (.cells cs TIx) ∧ cs.size = 4 := by
  obtain ⟨T, L, h1, -⟩ := h.ex
  obtain ⟨r, x, c, hb, -, -⟩ := h1.blk
  exact ⟨_, hb, rfl⟩
set_option maxHeartbeats 4000000 in
theorem merge_do {w : World} {xb room most : Nat} {S : List En} {M : Nat} {C : List Nat} (h : IxS w xb room most S M C) (hS : OkS S C) (hne : S ≠ []) (hM : M ≠ 0) :
    Calls Try.prog 12 #[.pointer (some ⟨xb, 0, none⟩)] w fun e w' => e = .returned (.bool true) ∧ IxS w' xb room most S 0 [1] ∧ Touch [xb] w w' := by
  have CM := hid (ixs_mem h)
  have CA := hid (all14_any h hS hne)
  have CN := hid fun W => new_any W
  have ME := hid fun x c w6 W => merge_end (w6 := w6) (W := W) h hS x c
  obtain ⟨cs, hb, hcs⟩ := ixs_block h
  obtain ⟨a0, a1, a2, a3, rfl⟩ : ∃ a0 a1 a2 a3, cs = #[a0, a1, a2, a3] := by
    obtain ⟨l⟩ := cs
    match l, hcs with
    | [a0, a1, a2, a3], _ => exact ⟨a0, a1, a2, a3, rfl⟩
  have HB := hid hb
  have d0 : ((M : Int) == 0) = false := by simp; omega
  have hm0 : ¬ (M : Int) = 0 := by omega
  clear h hb hcs hS hne
  go_enter Try.func12, Try.ntmps12
  go_wp2_with fail
  refine CM.out.mono ?_
  rintro e w1 ⟨rfl, h⟩
  have h := h.symm
  subst h
  go_wp2_with fail
  refine CA.out.mono ?_
  rintro e w6 ⟨⟨tx, tc, tl⟩, rfl, hat, htl, t6⟩
  dsimp only at htl
  subst htl
  have HAT := hid hat
  have T6 := hid t6
  unfold TabV.val
  dsimp only
  have B6 := hid (touch_other t6 HB.out (by simp))
  clear hat t6 CM CA
  go_wp2_with fail
  refine (CN.out _).mono ?_
  rintro e w7 ⟨rfl, rfl⟩
  obtain ⟨W7, hW7⟩ : ∃ W7, W7 = (w6.alloc (.cells #[.slice tx tl.length tc] TTb)).alloc (.cells #[.slice (some ⟨w6.heap.size, 0, none⟩) 1 1] TTbs) := ⟨_, rfl⟩
  have U7 : Touch [] w6 W7 := by rw [hW7]; exact ((Touch.refl [] w6).alloc _).alloc _
  have ME7 := hid fun W (t : Touch [] W7 W) => ME.out tx tc w6 W T6.out HAT.out (by rw [← hW7]; exact t)
  rw [← hW7]
  obtain ⟨W8, hW8⟩ : ∃ W8, W8 = W7.alloc (.cells #[.pointer none] 47) := ⟨_, rfl⟩
  have U8 : Touch [] W7 W8 := by rw [hW8]; exact (Touch.refl [] W7).alloc _
  have c8 : W8.cell? ⟨W7.heap.size, 0, none⟩ = some (.pointer none) := by rw [hW8]; exact cell_of (heap_alloc_new W7 _) 0
  have B8 := touch_other (U7.trans U8 (by simp)) B6.out (by simp)
  have c2 := cell_of B8 2
  have c3 := cell_of B8 3
  have f2 := free_of B8 2
  have f3 := free_of B8 3
  have FIN := hid (ME7.out W8 U8)
  have TT : Hid (Touch [xb] w W8) := hid ((T6.out.trans (U7.trans U8 (by simp)) (by simp)).mono (by simp))
  rw [← hW8]
  generalize hn7 : W7.heap.size = n7 at *
  clear hW7 hW8 U7 U8 B8 ME ME7 HAT T6 hn7
  go_wp2
  go_ret
  exact ⟨rfl, FIN.out, (TT.out.setCell (.inl (by simp)) _).setCell (.inl (by simp)) _⟩
theorem ixs_tables {w : World} {xb room most : Nat} {S : List En} {M : Nat} {C : List Nat} (h : IxS w xb room most S M C) (hS : OkS S C) :
    ∃ (vals : List Value) (n : Nat), n ≤ 100000 ∧ n = C.sum ∧ (M = 0 → 2 ≤ n → S ≠ []) ∧ ∀ W, Touch [] w W → ∀ b, W.cell? ⟨b, 0, none⟩ = some (.pointer (some ⟨xb, 0, none⟩)) → Calls Try.prog 34 #[.func (.func 56) #[] #[.pointer (some ⟨b, 0, none⟩)]] W fun e w' => ∃ u, e = .returned u ∧ w'.ownsRow W.heap.size TTb 1 u n vals ∧ Touch [] W w' := by
  obtain ⟨T, L, h1, h2, h3, h4, h5⟩ := h.ex
  obtain ⟨g1, g2, g3, g4, g5⟩ := ixs_tabs h1 hS h3 h5
  refine ⟨(tabsL L).map TabV.val, (tabsL L).length, g3, ?_, fun hM h2' hS0 => ?_, fun W t b hb => ?_⟩
  · rw [← h5]
    unfold tabsL cnts
    rw [List.length_flatMap]
  · have g6 := tabs_le (tabsL L) fun t ht => (g1 t ht).good.2.2.1
    have := h3.length_eq
    rw [hS0, List.length_append, List.length_nil] at this
    omega
  · exact collect_any xb room most T L w h1 g1 (by omega) (by omega) b W t hb
set_option maxHeartbeats 4000000 in
theorem merge_do2 {w : World} {xb room most : Nat} {S : List En} {C : List Nat} (h : IxS w xb room most S 0 C) (hS : OkS S C) (hC : 2 ≤ C.sum) :
    Calls Try.prog 12 #[.pointer (some ⟨xb, 0, none⟩)] w fun e w' => e = .returned (.bool true) ∧ IxS w' xb room most S 0 [1] ∧ Touch [xb] w w' := by
  obtain ⟨vals, n, hn, hn2, hSn, HCt⟩ := ixs_tables h hS
  have hne := hSn rfl (by omega)
  have CM := hid (ixs_mem h)
  have CT := hid fun W => tables_any xb W
  have CC := hid fun W (t : Touch [] w W) => HCt (W.alloc (.cells #[.pointer (some ⟨xb, 0, none⟩)] 28)) (t.alloc _) W.heap.size (cell_of (heap_alloc_new W _) 0)
  have CA := hid fun W (t : Touch [] w W) => all14_any (h.t0 t) hS hne
  have CN := hid fun W => new_any W
  have ME := hid fun x c w6 W => merge_end (w6 := w6) (W := W) h hS x c
  obtain ⟨cs, hb, hcs⟩ := ixs_block h
  obtain ⟨a0, a1, a2, a3, rfl⟩ : ∃ a0 a1 a2 a3, cs = #[a0, a1, a2, a3] := by
    obtain ⟨l⟩ := cs
    match l, hcs with
    | [a0, a1, a2, a3], _ => exact ⟨a0, a1, a2, a3, rfl⟩
  have HB := hid hb
  have dn : decide (n ≤ 1) = false := by rw [decide_eq_false_iff_not]; omega
  have dn' : decide ((n : Int) ≤ 1) = false := by rw [decide_eq_false_iff_not]; omega
  clear h hb hcs hS hne HCt hSn hC hn2
  go_enter Try.func12, Try.ntmps12
  go_wp2_with fail
  refine CM.out.mono ?_
  rintro e w1 ⟨rfl, h⟩
  have h := h.symm
  subst h
  go_wp2_with fail
  refine (CT.out _).mono ?_
  rintro e w1 ⟨rfl, rfl⟩
  go_wp2_with fail
  refine (CC.out _ (Touch.refl [] w)).mono ?_
  rintro e w2 ⟨u, rfl, o2, t2⟩
  obtain ⟨y2, k2, rfl, -, -⟩ := slice_form o2
  have T2 := hid (((Touch.refl [] w).alloc _).trans t2 (by simp))
  clear o2 t2 CT CC
  go_wp2_with fail
  refine (CA.out _ T2.out).mono ?_
  rintro e w6 ⟨⟨tx, tc, tl⟩, rfl, hat, htl, t6⟩
  dsimp only at htl
  subst htl
  have HAT := hid hat
  have T6 := hid (T2.out.trans t6 (by simp))
  unfold TabV.val
  dsimp only
  have B6 := hid (touch_other T6.out HB.out (by simp))
  clear hat t6 CM CA
  go_wp2_with fail
  refine (CN.out _).mono ?_
  rintro e w7 ⟨rfl, rfl⟩
  obtain ⟨W7, hW7⟩ : ∃ W7, W7 = (w6.alloc (.cells #[.slice tx tl.length tc] TTb)).alloc (.cells #[.slice (some ⟨w6.heap.size, 0, none⟩) 1 1] TTbs) := ⟨_, rfl⟩
  have U7 : Touch [] w6 W7 := by rw [hW7]; exact ((Touch.refl [] w6).alloc _).alloc _
  have ME7 := hid fun W (t : Touch [] W7 W) => ME.out tx tc w6 W T6.out HAT.out (by rw [← hW7]; exact t)
  rw [← hW7]
  obtain ⟨W8, hW8⟩ : ∃ W8, W8 = W7.alloc (.cells #[.pointer none] 47) := ⟨_, rfl⟩
  have U8 : Touch [] W7 W8 := by rw [hW8]; exact (Touch.refl [] W7).alloc _
  have c8 : W8.cell? ⟨W7.heap.size, 0, none⟩ = some (.pointer none) := by rw [hW8]; exact cell_of (heap_alloc_new W7 _) 0
  have B8 := touch_other (U7.trans U8 (by simp)) B6.out (by simp)
  have c2 := cell_of B8 2
  have c3 := cell_of B8 3
  have f2 := free_of B8 2
  have f3 := free_of B8 3
  have FIN := hid (ME7.out W8 U8)
  have TT : Hid (Touch [xb] w W8) := hid ((T6.out.trans (U7.trans U8 (by simp)) (by simp)).mono (by simp))
  rw [← hW8]
  generalize hn7 : W7.heap.size = n7 at *
  clear hW7 hW8 U7 U8 B8 ME ME7 HAT T6 hn7
  go_wp2
  go_ret
  exact ⟨rfl, FIN.out, (TT.out.setCell (.inl (by simp)) _).setCell (.inl (by simp)) _⟩
theorem merge_no {w : World} {xb room most : Nat} {S : List En} {C : List Nat} (h : IxS w xb room most S 0 C) (hS : OkS S C) (hC : C.sum ≤ 1) :
    Calls Try.prog 12 #[.pointer (some ⟨xb, 0, none⟩)] w fun e w' => e = .returned (.bool false) ∧ Touch [] w w' := by
  obtain ⟨vals, n, hn, hn2, hSn, HCt⟩ := ixs_tables h hS
  have CM := hid (ixs_mem h)
  have CT := hid fun W => tables_any xb W
  have CC := hid fun W (t : Touch [] w W) => HCt (W.alloc (.cells #[.pointer (some ⟨xb, 0, none⟩)] 28)) (t.alloc _) W.heap.size (cell_of (heap_alloc_new W _) 0)
  have dn : decide (n ≤ 1) = true := by rw [decide_eq_true_eq]; omega
  have dn' : decide ((n : Int) ≤ 1) = true := by rw [decide_eq_true_eq]; omega
  clear h hS HCt hSn hC hn2
  go_enter Try.func12, Try.ntmps12
  go_wp2_with fail
  refine CM.out.mono ?_
  rintro e w1 ⟨rfl, h⟩
  have h := h.symm
  subst h
  go_wp2_with fail
  refine (CT.out _).mono ?_
  rintro e w1 ⟨rfl, rfl⟩
  go_wp2_with fail
  refine (CC.out _ (Touch.refl [] w)).mono ?_
  rintro e w2 ⟨u, rfl, o2, t2⟩
  obtain ⟨y2, k2, rfl, -, -⟩ := slice_form o2
  have T2 := hid (((Touch.refl [] w).alloc _).trans t2 (by simp))
  clear o2 t2 CT CC CM
  go_wp2
  go_ret
  exact ⟨rfl, T2.out⟩
/-- Merge, all told. -/
theorem ixs_merge {w : World} {xb room most : Nat} {S : List En} {M : Nat} {C : List Nat} (h : IxS w xb room most S M C) (hS : OkS S C) :
    Calls Try.prog 12 #[.pointer (some ⟨xb, 0, none⟩)] w fun e w' => ∃ b M' C', e = .returned (.bool b) ∧ IxS w' xb room most S M' C' ∧ C'.length ≤ C.length + 1 ∧ Touch [xb] w w' := by
  by_cases hM : M = 0
  · subst hM
    by_cases hC : 2 ≤ C.sum
    · exact (merge_do2 h hS hC).mono fun e w' ⟨h1, h2, h3⟩ => ⟨_, _, _, h1, h2, by simp, h3⟩
    · exact (merge_no h hS (by omega)).mono fun e w' ⟨h1, h2⟩ => ⟨_, _, _, h1, h.t0 h2, Nat.le_succ _, h2.mono (by simp)⟩
  · have hne : S ≠ [] := fun e => hM (by have := h.memLe; rw [e] at this; simpa using this)
    exact (merge_do h hS hne hM).mono fun e w' ⟨h1, h2, h3⟩ => ⟨_, _, _, h1, h2, by simp, h3⟩
end Go.Proofs.Ytnkflmimnpolcaa
