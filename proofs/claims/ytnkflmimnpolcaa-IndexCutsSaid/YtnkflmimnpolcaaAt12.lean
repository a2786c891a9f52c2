/- All entries of a tab. -/
import Derived.Test.YtnkflmimnpolcaaBk12
import Derived.RangeFuncCalls
import Derived.LoopNIn
import Derived.LoopIn
namespace Go.Proofs.Ytnkflmimnpolcaa
open Go.RowKit Go.Lib Go.Shelf
set_option maxRecDepth 100000
attribute [local go_sem] Oper.semAt_some

abbrev TEn : TypeId := 32
abbrev TEns : TypeId := 22
theorem infoEn : (Try.prog.info? TEn).map (fun i => (i.zero, i.size, i.bytes)) = some (some (.agg #[.int .i64 0, .int .i64 0, .int .i64 0]), 3, 24) := by kernel_rfl
/-- Entries as cells. -/
def enc3 (e : En) : List Value := [.int .i64 e.1, .int .i64 e.2.1, .int .i64 e.2.2]
def envals : List En → List Value
  | [] => []
  | e :: l => enc3 e ++ envals l
theorem envals_append (l m : List En) : envals (l ++ m) = envals l ++ envals m := by
  induction l with
  | nil => rfl
  | cons e l ih => simp [envals, ih]
theorem envals_len (l : List En) : (envals l).length = l.length * 3 := by
  induction l with
  | nil => rfl
  | cons e l ih => simp [envals, enc3, ih]; omega

theorem Grew.grown {w w' : World} {base : Nat} {e : TypeId} {size : Nat} {v v' : Value} {n m : Nat} {xs news : List Value} (h : Grew w w' base e size v v' n m xs news) : w.grownBy w' v.ownBlock := by
  rcases h.at' with ⟨_, hg, _⟩ | ⟨_, hg⟩
  · exact hg
  · exact ⟨hg.os, hg.tape, hg.output, hg.size, fun k hk _ => hg.block k hk (by simp)⟩
/-- What a round that appends keeps. -/
theorem kp_append {W w1 : World} {base n P c : Nat} {v u : Value} {y : Option Addr} {t : TypeId} {xs news : List Value} {tmp : Obj} (hrow : W.ownsRow base TEn 3 v n xs) (h0 : n = 0 → v = .slice none 0 0)
    (hG : Grew (W.alloc tmp) w1 base TEn 3 v (.slice y (n + 1) c) n 1 xs news) (hv : Boxed w1 P t v) (h1 : t ≠ TEn) (h2 : t ≠ 67) : KpE W (w1.setCell ⟨P, 0, none⟩ u) := by
  have k1 : KpE W (W.alloc tmp) := KpE.of_touch ((Touch.refl [] W).alloc tmp)
  have k3 : KpE w1 (w1.setCell ⟨P, 0, none⟩ u) := by
    refine ⟨by simp, fun k o hk ⟨cs, ho⟩ => ?_⟩
    have hne : k ≠ P := by
      rintro rfl
      have hb : w1.heap[k]? = some (.cells #[v] t (0, 0)) := hv
      rw [hb] at hk
      cases hk
      rcases ho with ⟨ho, _⟩ | ho
      · cases ho; exact h1 rfl
      · cases ho; exact h2 rfl
    exact (heap_set_other u hne).trans hk
  refine (k1.trans ?_).trans k3
  rcases hG.at' with ⟨hob, hgr, y', c', hv1, hv2⟩ | ⟨_, hgr⟩
  · refine ⟨hgr.size, fun k o hk ⟨cs, ho⟩ => ?_⟩
    refine (hgr.block k (lt_of_block hk) ?_).trans hk
    intro e
    have hn : n ≠ 0 := fun h => by rw [h0 h] at e; cases e
    have hr2 := (hrow.alloc tmp).2
    rcases hr2 with ⟨_, h⟩ | ⟨g, cap, cur, hvg, _, hg, hnc, _, hcs, _⟩
    · exact hn h
    · rw [hvg] at e hv1
      have e' : k = g := by simpa [Value.ownBlock] using e
      subst e'
      cases hv1
      cases hv2
      rw [hg] at hk
      cases hk
      rcases ho with ⟨ho, h3⟩ | ho
      · cases ho
        rcases hG.own.2 with ⟨h, _⟩ | ⟨g', cap', cur', hv', _, _, hnc', _, _, _⟩
        · cases h
        · cases hv'
          omega
      · cases ho
  · exact ⟨hgr.size, fun k o hk _ => (hgr.block k (lt_of_block hk) (by simp)).trans hk⟩
theorem enc3_cell (W : World) (x : En) : ∀ j u, (enc3 x)[j]? = some u → (W.alloc (.cells #[.int .i64 x.1, .int .i64 x.2.1, .int .i64 x.2.2] TEn)).cell? ((⟨W.heap.size, 0, none⟩ : Addr).add j) = some u := by
  intro j u hj
  have hb := heap_alloc_new W (.cells #[.int .i64 x.1, .int .i64 x.2.1, .int .i64 x.2.2] TEn)
  match j, hj with
  | 0, hj => cases hj; exact cell_of hb 0
  | 1, hj => cases hj; exact cell_of hb 1
  | 2, hj => cases hj; exact cell_of hb 2
  | k + 3, hj => simp [enc3] at hj
set_option maxHeartbeats 2000000 in
theorem all_any (p : Option Addr) (T : Tr) (hT : SortedE T.io) (hlen : T.io.length ≤ 1000000) (w : World) (ht : TabAt w p T) :
    Calls Try.prog 32 #[.pointer p] w fun e w' => ∃ v, e = .returned v ∧ w'.ownsRow w.heap.size TEn 3 v (fromE T.io (0, 0, 0)).length (envals (fromE T.io (0, 0, 0))) ∧ Touch [] w w' := by
  obtain ⟨i0, hi, hz0, hz1, hz2⟩ := info_parts infoEn
  refine (callsIn_wide (n := 3)).1 ?_
  refine callsIn_of_wp_marks Try.func32 rfl trivial ?_ rfl
  simp only [Try.ntmps32, List.size_toArray, List.length_cons, List.length_nil, Nat.reduceAdd, Nat.reduceSub, Array.replicate_succ, Array.replicate_zero, List.push_toArray, List.append_toArray, List.nil_append, List.cons_append]
  gi_wp2_with (refine ⟨trivial, ?_⟩; gi_at_call 44; refine (callsIn_wide.2 (tabfrom_any p (0, 0, 0) _)).mono ?_; rintro e w' ⟨rfl, rfl⟩)
  have bP := Boxed.new w TEns (.slice none 0 0)
  obtain ⟨W0, hW0⟩ : ∃ W0, W0 = ((w.alloc (.cells #[.slice none 0 0] TEns)).alloc (.cells #[.pointer p] 25)).alloc (.cells #[.int .i64 0, .int .i64 0, .int .i64 0] TEn) := ⟨_, rfl⟩
  have hB0 : Below w.heap.size w W0 := by rw [hW0]; exact (((Below.refl _ w).alloc (Nat.le_refl _) _).alloc (by simp) _).alloc (by simp; omega) _
  have hsz : W0.heap.size = w.heap.size + 3 := by rw [hW0]; simp
  have e0 : Boxed W0 w.heap.size TEns (.slice none 0 0) := by rw [hW0]; exact (bP.alloc _).alloc _
  have e1 : W0.cell? ⟨w.heap.size + 1, 0, none⟩ = some (.pointer p) := by
    rw [hW0]
    have := Boxed.new (w.alloc (.cells #[.slice none 0 0] TEns)) 25 (.pointer p)
    rw [World.size_alloc] at this
    exact (this.alloc _).cell
  have e2 : EnB W0 (w.heap.size + 1 + 1) (0, 0, 0) := by rw [hW0]; exact new_at _ _ _ (by simp)
  have ht0 : TabAt W0 p T := ht.t0 (Touch.of_below hB0)
  rw [← hW0]
  clear hW0 bP
  refine wpIn_rangeFunc_ownH rfl (by decide) (gf := 62) (lb := #[.pointer (some ⟨w.heap.size + 1, 0, none⟩), .pointer (some ⟨w.heap.size + 1 + 1, 0, none⟩)]) rfl trivial (enters_of Try.func62 (by kernel_rfl) rfl)
    (tab_stops 2 (0, 0, 0) T hT p W0 (w.heap.size + 1) (w.heap.size + 1 + 1) e1 (by omega) e2 ht0) KpE.trans (fun W l o o' _ hl ho _ => KpE.putObj W l o o' hl ho) (Below.refl _ _) (fun _ => rfl)
    (fun pre W => (∃ v, Boxed W w.heap.size TEns v ∧ W.ownsRow w.heap.size TEn 3 v pre.length (envals pre) ∧ (pre.length = 0 → v = .slice none 0 0)) ∧ Below w.heap.size w W)
    (fun _ _ _ => False)
    (OwnFrom.and (Own.from (holdsRow_own w.heap.size w.heap.size TEns TEn 3 (fun pre => pre.length) (fun pre => envals pre) (fun pre v => pre.length = 0 → v = .slice none 0 0)) _) (ownFrom_below (Nat.le_refl _) (by omega)))
    (fun _ _ _ _ _ hs _ _ => hs)
    ⟨⟨_, e0, World.ownsRow_nil _ _ _ _, fun _ => rfl⟩, hB0⟩
    (fun x a' W => ∃ Bx, EnB W Bx x ∧ a' = { tmps := #[.pointer p, undef, .slice none 0 0, .pointer (some ⟨w.heap.size, 0, none⟩), .pointer (some ⟨Bx, 0, none⟩), .pointer p, enV (0, 0, 0), .func (.func 62) #[] #[.pointer (some ⟨w.heap.size + 1, 0, none⟩), .pointer (some ⟨w.heap.size + 1 + 1, 0, none⟩)], enV x, undef, undef, undef, undef, undef], defers := [] })
    (fun x a' _ X Y row hs hg hr => by
      obtain ⟨Bx, h1, h2⟩ := hs
      refine ⟨Bx, ?_, h2⟩
      refine (hg.block Bx (lt_of_block h1) ?_).trans h1
      intro e
      obtain ⟨_, o, ho, hc⟩ := hr Bx e.symm
      rw [h1] at ho
      cases ho
      cases hc)
    ?assign ?body ?done ?stop
  case assign =>
    rintro l pre x W K ⟨⟨v, hv, hrow, hz⟩, hB⟩ hK
    gi_wp2
    exact hK _ _ ((KeepsOthers.alloc _ _).from _) (KpE.of_touch ((Touch.refl [] W).alloc _)) ⟨⟨_, hv.alloc _, hrow.alloc _, hz⟩, hB.alloc hB.size _⟩ ⟨W.heap.size, heap_alloc_new W _, rfl⟩
  case body =>
    rintro l pre x a' W hl hlr ⟨⟨v, hv, hrow, hz⟩, hB⟩ ⟨Bx, hBx, rfl⟩ hlt
    have hc := hv.cell
    obtain ⟨q0, q1, q2⟩ := hBx.c
    have hfl := from_len T.io (0, 0, 0)
    gi_wp2_with (gi_at_builtin; refine wpListIn_append_full _ rfl _ _ TEns rfl w.heap.size TEn i0 (.agg #[.int .i64 0, .int .i64 0, .int .i64 0]) 3 24 Try.underlying22 hi hz0 hz1 hz2 rfl (by decide) _ _ _ rfl (hrow.alloc _) ⟨W.heap.size, 0, none⟩ 1 1 (enc3 x) rfl rfl (enc3_cell W x) (by intro u hu; simp [enc3] at hu; rcases hu with rfl | rfl | rfl <;> rfl) (by omega) (by decide) (by have := hB.size; simp; omega) ?_; intro y c w1 hG; have hgr : World.grownBy (W.alloc (.cells #[.int .i64 x.1, .int .i64 x.2.1, .int .i64 x.2.2] TEn)) w1 v.ownBlock := hG.grown; obtain ⟨hv1, hv2, hr2, hk2, hb2⟩ := hv.appended (by decide) hrow hB.size (Nat.le_refl _) hG.own hgr; have hc1 := hv1.cell; have hf1 := hv1.frozen; have hkp := fun u => kp_append (u := u) hrow hz hG hv1 (by decide) (by decide))
    exact ⟨hk2.from _, hkp _, ⟨_, hv2, by rw [envals_append]; simpa [envals] using hr2, by simp⟩, hB.trans hb2⟩
  case done =>
    rintro D ys W hD rfl ⟨⟨v, hv, hrow, hz⟩, hB⟩ hK
    have hc := hv.cell
    gi_wp2
    refine ⟨by simp, .inl ⟨_, _, rfl, run_takeDeferred hK, ?_⟩⟩
    exact ⟨_, results_tmp rfl _ _ _, v, rfl, ownsRow_putObj hrow _ hK rfl, Touch.of_below (hB.trans (belowK_b (w := w) (Nat.le_refl _) W D _ _ (by omega) hK rfl rfl))⟩
  case stop =>
    rintro D c pre W _ _ h _
    exact h.elim
end Go.Proofs.Ytnkflmimnpolcaa
