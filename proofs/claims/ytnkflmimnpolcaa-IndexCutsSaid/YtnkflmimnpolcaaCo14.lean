/- All tables of an index, collected: slices.AppendSeq, slices.Collect over the iterator. -/
import Derived.Test.YtnkflmimnpolcaaTs14
namespace Go.Proofs.Ytnkflmimnpolcaa
open Go.RowKit Go.Lib Go.Shelf
set_option maxRecDepth 100000
attribute [local go_sem] Oper.semAt_some

theorem infoTb : (Try.prog.info? TTb).map (fun i => (i.zero, i.size, i.bytes)) = some (some (.slice none 0 0), 1, 24) := by kernel_rfl
theorem prB_lt {n b m k : Nat} (h : prB n b k) (h1 : n ≤ m) (h2 : b < m) : k < m := by
  rcases h with h | h <;> omega
theorem kpP_append {Pr : Nat → Prop} {W w1 : World} {n₀ P n size : Nat} {v u : Value} {e : TypeId} {xs : List Value} {tmp : Obj} (hn : ∀ k, Pr k → k < n₀) (hrow : W.ownsRow n₀ e size v n xs) (hP : n₀ ≤ P)
    (hG : (W.alloc tmp).grownBy w1 v.ownBlock) : KpP Pr W (w1.setCell ⟨P, 0, none⟩ u) := by
  refine ⟨?_, fun k hk hl => ?_⟩
  · have := hG.size
    simp at this
    simp
    omega
  · have h1 := hn k hk
    refine (heap_set_other u (by simp; omega)).trans ((hG.block k (by simp; omega) (fun e => ?_)).trans (Below.heap_alloc W tmp k hl))
    have := (hrow.lt k e.symm).1
    omega
theorem tvals_one (l : List TabV) : ∀ u ∈ l.map TabV.val, u.oneCell' = true := by
  intro u hu
  obtain ⟨t, _, rfl⟩ := List.mem_map.1 hu
  rfl
set_option maxHeartbeats 4000000 in
theorem appendSeq_any (xb room most : Nat) (T : Tr) (L : List LvV) (w0 : World) (hI : IxAt w0 xb room most T L) (ht : ∀ t ∈ tabsL L, t.At w0) (nL : L.length ≤ 1000000) (nT : (tabsL L).length ≤ 1000000) (b : Nat) (w : World) (t0 : Touch [] w0 w) (hb : w.cell? ⟨b, 0, none⟩ = some (.pointer (some ⟨xb, 0, none⟩))) :
    Calls Try.prog 55 #[.slice none 0 0, .func (.func 56) #[] #[.pointer (some ⟨b, 0, none⟩)]] w fun e w' => ∃ u, e = .returned u ∧ w'.ownsRow w.heap.size TTb 1 u (tabsL L).length ((tabsL L).map TabV.val) ∧ Touch [] w w' := by
  obtain ⟨i0, hi, hz0, hz1, hz2⟩ := info_parts infoTb
  have hbl : b < w.heap.size := World.block_lt_of_cell? w _ hb
  refine (callsIn_wide (n := 3)).1 ?_
  refine callsIn_of_wp_marks Try.func55 rfl trivial ?_ rfl
  simp only [Try.ntmps55, List.size_toArray, List.length_cons, List.length_nil, Nat.reduceAdd, Nat.reduceSub, Array.replicate_succ, Array.replicate_zero, List.push_toArray, List.append_toArray, List.nil_append, List.cons_append]
  gi_wp2
  obtain ⟨W0, hW0⟩ : ∃ W0, W0 = w.alloc (.cells #[.slice none 0 0] TTbs) := ⟨_, rfl⟩
  have hB0 : Below w.heap.size w W0 := by rw [hW0]; exact (Below.refl _ w).alloc (Nat.le_refl _) _
  have hsz : W0.heap.size = w.heap.size + 1 := by rw [hW0]; simp
  have e0 : Boxed W0 w.heap.size TTbs (.slice none 0 0) := by rw [hW0]; exact Boxed.new w TTbs (.slice none 0 0)
  have e1 : W0.cell? ⟨b, 0, none⟩ = some (.pointer (some ⟨xb, 0, none⟩)) := (Touch.of_below hB0).cell hb
  rw [← hW0]
  clear hW0
  refine wpIn_rangeFunc_ownH rfl (by decide) (gf := 56) (lb := #[.pointer (some ⟨b, 0, none⟩)]) rfl trivial (enters_of Try.func56 (by kernel_rfl) rfl)
    (tables_stops 2 b xb room most T L w0 hI ht nL nT W0 (t0.trans (Touch.of_below hB0) (by simp)) e1) KpP.trans (fun W l o o' hl1 hl ho _ => KpP.putObj W l o o' hl (fun h => by have := prB_lt h t0.size hbl; omega)) (Below.refl _ _) (fun _ => rfl)
    (fun pre W => (∃ v, Boxed W w.heap.size TTbs v ∧ W.ownsRow w.heap.size TTb 1 v pre.length (pre.map fun g => g.1.val) ∧ (pre.length = 0 → v = .slice none 0 0)) ∧ Below w.heap.size w W)
    (fun _ _ _ => False)
    (OwnFrom.and (Own.from (holdsRow_own w.heap.size w.heap.size TTbs TTb 1 (fun pre : List (TabG w0) => pre.length) (fun pre => pre.map fun g => g.1.val) (fun pre v => pre.length = 0 → v = .slice none 0 0)) _) (ownFrom_below (Nat.le_refl _) (by omega)))
    (fun _ _ _ _ _ hs _ _ => hs)
    ⟨⟨_, e0, World.ownsRow_nil _ _ _ _, fun _ => rfl⟩, hB0⟩
    (fun x a' W => a' = { tmps := #[.slice none 0 0, .func (.func 56) #[] #[.pointer (some ⟨b, 0, none⟩)], .pointer (some ⟨w.heap.size, 0, none⟩), undef, .slice none 0 0, x.1.val, .func (.func 56) #[] #[.pointer (some ⟨b, 0, none⟩)], x.1.val, undef, undef, undef, undef, undef], defers := [] })
    (fun x a' _ X Y row hs hg hr => hs)
    ?assign ?body ?done ?stop
  case assign =>
    rintro l pre x W K ⟨⟨v, hv, hrow, hz⟩, hB⟩ hK
    gi_wp2
    exact hK _ _ (KeepsFrom.refl _ _) (KpP.refl _ _) ⟨⟨_, hv, hrow, hz⟩, hB⟩ rfl
  case body =>
    rintro l pre ⟨⟨tx, tc, tl⟩, tat⟩ a' W hl hlr ⟨⟨v, hv, hrow, hz⟩, hB⟩ ha hlt
    unfold TabV.val at ha
    dsimp only at ha
    subst ha
    have hc := hv.cell
    gi_wp2_with (gi_at_builtin; refine wpListIn_append_full _ rfl _ _ TTbs rfl w.heap.size TTb i0 (.slice none 0 0) 1 24 Try.underlying55 hi hz0 hz1 hz2 rfl (by decide) _ _ _ rfl (hrow.alloc _) ⟨W.heap.size, 0, none⟩ 1 1 [.slice tx tl.length tc] rfl rfl (cell_one_new _ _ _) (by intro u hu; simp at hu; subst hu; rfl) (by omega) (by decide) (by have := hB.size; simp; omega) ?_; intro y c w1 hG; have hgr : World.grownBy (W.alloc (.cells #[.slice tx tl.length tc] TTb)) w1 v.ownBlock := hG.grown; obtain ⟨hv1, hv2, hr2, hk2, hb2⟩ := hv.appended (by decide) hrow hB.size (Nat.le_refl _) hG.own hgr; have hc1 := hv1.cell; have hf1 := hv1.frozen; have hkp := fun u => kpP_append (Pr := prB w0.heap.size b) (u := u) (fun k hk => prB_lt hk t0.size hbl) hrow (Nat.le_refl _) hgr)
    exact ⟨hk2.from _, hkp _, ⟨_, hv2, by simpa [TabV.val] using hr2, by simp⟩, hB.trans hb2⟩
  case done =>
    rintro D ys W hD rfl ⟨⟨v, hv, hrow, hz⟩, hB⟩ hK
    have hc := hv.cell
    have hmap : (gtabs w0 L ht).map (fun g => g.1.val) = (tabsL L).map TabV.val := by
      rw [← gtabs_val w0 L ht, List.map_map]; rfl
    gi_wp2
    refine ⟨by simp, .inl ⟨_, _, rfl, run_takeDeferred hK, ?_⟩⟩
    rw [hmap, gtabs_len] at hrow
    exact ⟨_, results_tmp rfl _ _ _, v, rfl, ownsRow_putObj hrow _ hK rfl, Touch.of_below (hB.trans (belowK_b (w := w) (Nat.le_refl _) W D _ _ (by omega) hK rfl rfl))⟩
  case stop =>
    rintro D c pre W _ _ h _
    exact h.elim
theorem collect_any (xb room most : Nat) (T : Tr) (L : List LvV) (w0 : World) (hI : IxAt w0 xb room most T L) (ht : ∀ t ∈ tabsL L, t.At w0) (nL : L.length ≤ 1000000) (nT : (tabsL L).length ≤ 1000000) (b : Nat) (w : World) (t0 : Touch [] w0 w) (hb : w.cell? ⟨b, 0, none⟩ = some (.pointer (some ⟨xb, 0, none⟩))) :
    Calls Try.prog 34 #[.func (.func 56) #[] #[.pointer (some ⟨b, 0, none⟩)]] w fun e w' => ∃ u, e = .returned u ∧ w'.ownsRow w.heap.size TTb 1 u (tabsL L).length ((tabsL L).map TabV.val) ∧ Touch [] w w' := by
  have C := hid (appendSeq_any xb room most T L w0 hI ht nL nT b w t0 hb)
  generalize (tabsL L).map TabV.val = xs at *
  generalize (tabsL L).length = n at *
  clear hI ht nL nT hb
  go_enter Try.func34, Try.ntmps34
  go_wp2_with (go_at_call 55; refine C.out.mono ?_; rintro e w1 ⟨u, rfl, hu, t1⟩; have HU := hid hu; have T1 := hid t1; clear hu t1)
  go_ret
  exact ⟨_, rfl, HU.out, T1.out⟩
end Go.Proofs.Ytnkflmimnpolcaa
