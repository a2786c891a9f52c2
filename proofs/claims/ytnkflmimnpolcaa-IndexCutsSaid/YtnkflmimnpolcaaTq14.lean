/- Is an entry in a table; how many entries there are. -/
import Derived.Test.YtnkflmimnpolcaaCo14
import Derived.Test.YtnkflmimnpolcaaPl14
import Derived.Test.YtnkflmimnpolcaaClm14
namespace Go.Proofs.Ytnkflmimnpolcaa
open Go.RowKit Go.Lib Go.Shelf
set_option maxRecDepth 100000
attribute [local go_sem] Oper.semAt_some

theorem enB_own {β : Type} (b : Nat) (e : En) : Own (fun (_ : β) W => EnB W b e) := fun _ X Y row hs hg hrow =>
  (hg.block b (lt_of_block hs) (fun e' => by
    obtain ⟨o, ho, hc⟩ := hrow b e'.symm
    rw [show X.heap[b]? = _ from hs] at ho
    cases ho
    cases hc)).trans hs
theorem keeps_touch {W W' : World} (t : Touch [] W W') : KeepsOthers W W' := KeepsOthers.of_grownBy t.grownBy (fun _ _ e _ => by cases e)
theorem below_touch {n : Nat} {w W W' : World} (h : Below n w W) (hn : n ≤ W.heap.size) (t : Touch [] W W') : Below n w W' := h.grown t.grownBy hn (fun k e => by cases e)
def inTabs (L : List LvV) (e : En) : Bool := (tabsL L).any fun t => decide (e ∈ t.l)
set_option maxHeartbeats 4000000 in
theorem tabled_any (xb room most : Nat) (T : Tr) (L : List LvV) (e : En) (w : World) (hI : IxAt w xb room most T L) (ht : ∀ t ∈ tabsL L, t.At w) (nL : L.length ≤ 1000000) (nT : (tabsL L).length ≤ 1000000) :
    Calls Try.prog 29 #[.pointer (some ⟨xb, 0, none⟩), enV e] w fun r w' => r = .returned (.bool (inTabs L e)) ∧ Touch [] w w' := by
  have hgm : Hid (∀ g ∈ gtabs w L ht, g.1 ∈ tabsL L) := hid fun g hg => by rw [← gtabs_val w L ht]; exact List.mem_map_of_mem hg
  refine (callsIn_wide (n := 3)).1 ?_
  refine callsIn_of_wp_marks Try.func29 rfl trivial ?_ rfl
  simp only [Try.ntmps29, List.size_toArray, List.length_cons, List.length_nil, Nat.reduceAdd, Nat.reduceSub, Array.replicate_succ, Array.replicate_zero, List.push_toArray, List.append_toArray, List.nil_append, List.cons_append]
  gi_wp2_with (refine ⟨trivial, ?_⟩; gi_at_call 35; refine (callsIn_wide.2 (tables_any xb _)).mono ?_; rintro r w' ⟨rfl, rfl⟩)
  obtain ⟨W0, hW0⟩ : ∃ W0, W0 = ((w.alloc (.cells #[.int .i64 e.1, .int .i64 e.2.1, .int .i64 e.2.2] TEn)).alloc (.cells #[.bool false] 4)).alloc (.cells #[.pointer (some ⟨xb, 0, none⟩)] 28) := ⟨_, rfl⟩
  have hB0 : Below w.heap.size w W0 := by rw [hW0]; exact (((Below.refl _ w).alloc (Nat.le_refl _) _).alloc (by simp) _).alloc (by simp; omega) _
  have hsz : W0.heap.size = w.heap.size + 3 := by rw [hW0]; simp
  have e0 : EnB W0 w.heap.size e := by rw [hW0]; exact heap_alloc_keep (heap_alloc_keep (heap_alloc_new w _) _) _
  have e1 : Boxed W0 (w.heap.size + 1) 4 (.bool false) := by
    rw [hW0]
    have := Boxed.new (w.alloc (.cells #[.int .i64 e.1, .int .i64 e.2.1, .int .i64 e.2.2] TEn)) 4 (.bool false)
    rw [World.size_alloc] at this
    exact this.alloc _
  have e2 : W0.cell? ⟨w.heap.size + 1 + 1, 0, none⟩ = some (.pointer (some ⟨xb, 0, none⟩)) := by
    rw [hW0]
    have := Boxed.new ((w.alloc (.cells #[.int .i64 e.1, .int .i64 e.2.1, .int .i64 e.2.2] TEn)).alloc (.cells #[.bool false] 4)) 28 (.pointer (some ⟨xb, 0, none⟩))
    rw [World.size_alloc, World.size_alloc] at this
    exact this.cell
  rw [← hW0]
  clear hW0
  refine wpIn_rangeFunc_ownH rfl (by decide) (gf := 56) (lb := #[.pointer (some ⟨w.heap.size + 1 + 1, 0, none⟩)]) rfl trivial (enters_of Try.func56 (by kernel_rfl) rfl)
    (tables_stops 2 (w.heap.size + 1 + 1) xb room most T L w hI ht nL nT W0 (Touch.of_below hB0) e2) KpP.trans (fun W l o o' hl1 hl ho _ => KpP.putObj W l o o' hl (fun h => by have := prB_lt (m := W0.heap.size) h (by omega) (by omega); omega)) (Below.refl _ _) (fun _ => rfl)
    (fun pre W => ((EnB W w.heap.size e ∧ Boxed W (w.heap.size + 1) 4 (.bool false)) ∧ ∀ g ∈ pre, e ∉ g.1.l) ∧ Below w.heap.size w W)
    (fun c pre W => ((Boxed W (w.heap.size + 1) 4 (.bool true) ∧ c = .ret) ∧ ∃ g ∈ pre, e ∈ g.1.l) ∧ Below w.heap.size w W)
    (OwnFrom.and (OwnFrom.and (OwnFrom.and (Own.from (enB_own _ _) _) (Own.from (boxed_own _ _ (fun _ => .bool false)) _)) (ownFrom_pure _ _)) (ownFrom_below (Nat.le_refl _) (by omega)))
    (fun c => OwnFrom.and (OwnFrom.and (OwnFrom.and (Own.from (boxed_own _ _ (fun _ => .bool true)) _) (ownFrom_pure _ _)) (ownFrom_pure _ _)) (ownFrom_below (Nat.le_refl _) (by omega)))
    ⟨⟨⟨e0, e1⟩, by simp⟩, hB0⟩
    (fun x a' W => a' = { tmps := #[.pointer (some ⟨xb, 0, none⟩), enV e, undef, .pointer (some ⟨w.heap.size, 0, none⟩), .pointer (some ⟨w.heap.size + 1, 0, none⟩), x.1.val, .pointer (some ⟨xb, 0, none⟩), .func (.func 56) #[] #[.pointer (some ⟨w.heap.size + 1 + 1, 0, none⟩)], x.1.val, undef, undef, undef], defers := [] })
    (fun x a' _ X Y row hs hg hr => hs)
    ?assign ?body ?done ?stop
  case assign =>
    rintro l pre x W K hIp hK
    gi_wp2
    exact hK _ _ (KeepsFrom.refl _ _) (KpP.refl _ _) hIp rfl
  case body =>
    rintro l pre ⟨⟨tx, tc, tl⟩, tat⟩ a' W hl hlr ⟨⟨⟨hE, hv⟩, hpre⟩, hB⟩ ha hlt
    unfold TabV.val at ha
    dsimp only at ha
    subst ha
    obtain ⟨q0, q1, q2⟩ := hE.c
    have hc := hv.cell
    have CH := hid (has_any tx tc tl e W (tat.ent.t0 (Touch.of_below hB)) tat.good.1 (by have := tat.good.2.2.2; dsimp only at this; omega))
    by_cases hin : e ∈ tl
    · rw [decide_eq_true hin] at CH
      gi_wp2_with (refine ⟨trivial, ?_⟩; gi_at_call 51; refine ((callsIn_wide.2 CH.out).inRound l).mono ?_; rintro r w3 ⟨rfl, t3⟩; have hv3 := hv.kept t3.grownBy (by simp); have hc3 := hv3.cell; have hf3 := hv3.frozen)
      exact ⟨((keeps_touch t3).trans (KeepsOthers.setCell _ _ _)).from _, ⟨⟨heap_set hv3 _, rfl⟩, ⟨_, List.mem_append_right _ (List.mem_singleton.2 rfl), hin⟩⟩, (below_touch hB hB.size t3).setCell (by simp) _⟩
    · rw [decide_eq_false hin] at CH
      gi_wp2_with (refine ⟨trivial, ?_⟩; gi_at_call 51; refine ((callsIn_wide.2 CH.out).inRound l).mono ?_; rintro r w3 ⟨rfl, t3⟩)
      refine ⟨(keeps_touch t3).from _, KpP.of_touch t3 (by simp), ⟨⟨hE.t t3, hv.kept t3.grownBy (by simp)⟩, fun g hg => ?_⟩, below_touch hB hB.size t3⟩
      rcases List.mem_append.1 hg with h | h
      · exact hpre g h
      · simp at h
        subst h
        exact hin
  case done =>
    rintro D ys W hD rfl ⟨⟨⟨hE, hv⟩, hpre⟩, hB⟩ hK
    have hc := hv.cell
    have hf := hv.frozen
    gi_wp2
    have hK2 := (heap_set_other (w := W) (p := ⟨w.heap.size + 1, 0, none⟩) (.bool false) (show D ≠ w.heap.size + 1 by omega)).trans hK
    refine ⟨by simp, .inl ⟨_, _, rfl, run_takeDeferred hK2, ?_⟩⟩
    have hcF : ((W.setCell ⟨w.heap.size + 1, 0, none⟩ (.bool false)).putObj D (.deferred none)).cell? ⟨w.heap.size + 1, 0, none⟩ = some (.bool false) := by
      refine cell_of (t := 4) (fz := (0, 0)) (cs := #[.bool false]) ?_ 0
      exact (World.putObj_heap_other (by omega)).trans (heap_set hv (.bool false))
    have hno : inTabs L e = false := by
      unfold inTabs
      rw [List.any_eq_false]
      intro t ht'
      rw [← gtabs_val w L ht] at ht'
      obtain ⟨g, hg, rfl⟩ := List.mem_map.1 ht'
      simpa using hpre g hg
    refine ⟨.bool false, by simp [results, Try.results29, go_sem, hcF], by rw [hno], ?_⟩
    exact Touch.of_below ((hB.setCell (by simp) _).trans (belowK_b (w := w) (Nat.le_refl _) _ D _ _ (by omega) hK2 rfl rfl))
  case stop =>
    rintro D c pre W hD hpre ⟨⟨⟨hv, rfl⟩, hex⟩, hB⟩ hK
    gi_wp2
    refine ⟨by simp, .inl ⟨_, _, rfl, run_takeDeferred hK, ?_⟩⟩
    have hcF : (W.putObj D (.deferred none)).cell? ⟨w.heap.size + 1, 0, none⟩ = some (.bool true) := by
      refine cell_of (t := 4) (fz := (0, 0)) (cs := #[.bool true]) ?_ 0
      exact (World.putObj_heap_other (by omega)).trans hv
    have hyes : inTabs L e = true := by
      unfold inTabs
      rw [List.any_eq_true]
      obtain ⟨g, hg, hin⟩ := hex
      exact ⟨g.1, hgm.out g (hpre.subset hg), by simpa using hin⟩
    refine ⟨.bool true, by simp [results, Try.results29, go_sem, hcF], by rw [hyes], ?_⟩
    exact Touch.of_below (hB.trans (belowK_b (w := w) (Nat.le_refl _) W D _ _ (by omega) hK rfl rfl))
/-- How many entries the tables have. -/
def sumT (l : List TabV) : Nat := (l.map fun t => t.l.length).sum
theorem sumT_snoc (l : List TabV) (t : TabV) : sumT (l ++ [t]) = sumT l + t.l.length := by simp [sumT]
theorem sum_le {w : World} (l : List (TabG w)) : sumT (l.map Subtype.val) ≤ 100000 * l.length := by
  induction l with
  | nil => simp [sumT]
  | cons t l ih =>
    have := t.2.good.2.2.2
    simp only [List.map_cons, sumT, List.sum_cons, List.length_cons] at ih ⊢
    omega
set_option maxHeartbeats 4000000 in
theorem len_any14 (xb room most : Nat) (T : Tr) (L : List LvV) (w : World) (hI : IxAt w xb room most T L) (ht : ∀ t ∈ tabsL L, t.At w) (nL : L.length ≤ 1000000) (nT : (tabsL L).length ≤ 1000000) (nM : T.io.length ≤ 1000000) :
    Calls Try.prog 21 #[.pointer (some ⟨xb, 0, none⟩)] w fun r w' => r = .returned (.int .i64 ((T.io.length + sumT (tabsL L) : Nat) : Int)) ∧ Touch [] w w' := by
  have CM := hid (mem_any hI)
  refine (callsIn_wide (n := 3)).1 ?_
  refine callsIn_of_wp_marks Try.func21 rfl trivial ?_ rfl
  simp only [Try.ntmps21, List.size_toArray, List.length_cons, List.length_nil, Nat.reduceAdd, Nat.reduceSub, Array.replicate_succ, Array.replicate_zero, List.push_toArray, List.append_toArray, List.nil_append, List.cons_append]
  gi_wp2_with (refine ⟨trivial, ?_⟩; first | (gi_at_call 25; refine (callsIn_wide.2 CM.out).mono ?_; rintro r w' ⟨rfl, h⟩; have h := h.symm; subst h) | (gi_at_call 35; refine (callsIn_wide.2 (tables_any xb _)).mono ?_; rintro r w' ⟨rfl, rfl⟩))
  generalize hM : T.io.length = M at *
  obtain ⟨W0, hW0⟩ : ∃ W0, W0 = (w.alloc (.cells #[.int .i64 M] TInt)).alloc (.cells #[.pointer (some ⟨xb, 0, none⟩)] 28) := ⟨_, rfl⟩
  have hB0 : Below w.heap.size w W0 := by rw [hW0]; exact ((Below.refl _ w).alloc (Nat.le_refl _) _).alloc (by simp) _
  have hsz : W0.heap.size = w.heap.size + 2 := by rw [hW0]; simp
  have e1 : Boxed W0 w.heap.size TInt (.int .i64 M) := by rw [hW0]; exact (Boxed.new w TInt _).alloc _
  have e2 : W0.cell? ⟨w.heap.size + 1, 0, none⟩ = some (.pointer (some ⟨xb, 0, none⟩)) := by
    rw [hW0]
    have := Boxed.new (w.alloc (.cells #[.int .i64 M] TInt)) 28 (.pointer (some ⟨xb, 0, none⟩))
    rw [World.size_alloc] at this
    exact this.cell
  rw [← hW0]
  clear hW0
  refine wpIn_rangeFunc_ownH rfl (by decide) (gf := 56) (lb := #[.pointer (some ⟨w.heap.size + 1, 0, none⟩)]) rfl trivial (enters_of Try.func56 (by kernel_rfl) rfl)
    (tables_stops 2 (w.heap.size + 1) xb room most T L w hI ht nL nT W0 (Touch.of_below hB0) e2) KpP.trans (fun W l o o' hl1 hl ho _ => KpP.putObj W l o o' hl (fun h => by have := prB_lt (m := W0.heap.size) h (by omega) (by omega); omega)) (Below.refl _ _) (fun _ => rfl)
    (fun pre W => Boxed W w.heap.size TInt (.int .i64 ((M + sumT (pre.map Subtype.val) : Nat) : Int)) ∧ Below w.heap.size w W)
    (fun _ _ _ => False)
    (OwnFrom.and (Own.from (boxed_own _ _ (fun pre : List (TabG w) => .int .i64 ((M + sumT (pre.map Subtype.val) : Nat) : Int))) _) (ownFrom_below (Nat.le_refl _) (by omega)))
    (fun _ _ _ _ _ hs _ _ => hs)
    ⟨by simpa [sumT] using e1, hB0⟩
    (fun x a' W => a' = { tmps := #[.pointer (some ⟨xb, 0, none⟩), undef, .int .i64 0, .pointer (some ⟨w.heap.size, 0, none⟩), x.1.val, .pointer (some ⟨xb, 0, none⟩), .int .i64 M, .pointer (some ⟨xb, 0, none⟩), .func (.func 56) #[] #[.pointer (some ⟨w.heap.size + 1, 0, none⟩)], x.1.val, undef, undef, undef, undef, undef], defers := [] })
    (fun x a' _ X Y row hs hg hr => hs)
    ?assign ?body ?done ?stop
  case assign =>
    rintro l pre x W K hIp hK
    gi_wp2
    exact hK _ _ (KeepsFrom.refl _ _) (KpP.refl _ _) hIp rfl
  case body =>
    rintro l pre ⟨⟨tx, tc, tl⟩, tat⟩ a' W hl hlr ⟨hv, hB⟩ ha hlt
    unfold TabV.val at ha
    dsimp only at ha
    subst ha
    have hc := hv.cell
    have hf := hv.frozen
    have hb1 := sum_le pre
    have hb2 : tl.length ≤ 100000 := tat.good.2.2.2
    have hw : IntKind.i64.wrap (((M + sumT (pre.map Subtype.val) : Nat) : Int) + (tl.length : Int)) = ((M + sumT (pre.map Subtype.val) : Nat) : Int) + (tl.length : Int) := IntWalk.i64_in _ (by omega)
    have hS : Hid (((M + sumT (pre.map Subtype.val) : Nat) : Int) + (tl.length : Int) = ((M + sumT ((pre ++ [(⟨⟨tx, tc, tl⟩, tat⟩ : TabG w)]).map Subtype.val) : Nat) : Int)) := hid (by
      rw [List.map_append, List.map_singleton, sumT_snoc]; push_cast; omega)
    have hsum : M + sumT (pre.map Subtype.val) ≤ 200000000000 := by omega
    generalize M + sumT (pre.map Subtype.val) = m at *
    clear hb1
    gi_wp2
    refine ⟨(KeepsOthers.setCell _ _ _).from _, KpP.of_touch (F := [w.heap.size]) ((Touch.refl _ W).setCell (p := ⟨w.heap.size, 0, none⟩) (.inl (by simp)) _) (fun k hk hp => ?_), ?_, hB.setCell (by simp) _⟩
    · simp at hk
      subst hk
      rcases hp with h | h <;> omega
    · rw [← hS.out]
      exact heap_set hv _
  case done =>
    rintro D ys W hD rfl ⟨hv, hB⟩ hK
    rw [gtabs_val] at hv
    obtain ⟨m, hm⟩ : ∃ m, m = M + sumT (tabsL L) := ⟨_, rfl⟩
    rw [← hm] at hv
    have HMM := hid hm
    have HM2 := hid hM
    clear hm hM
    have hc := hv.cell
    gi_wp2
    refine ⟨by simp, .inl ⟨_, _, rfl, run_takeDeferred hK, ?_⟩⟩
    exact ⟨_, results_tmp rfl _ _ _, by rw [HM2.out, ← HMM.out]; rfl, Touch.of_below (hB.trans (belowK_b (w := w) (Nat.le_refl _) W D _ _ (by omega) hK rfl rfl))⟩
  case stop =>
    rintro D c pre W _ _ h _
    exact h.elim
end Go.Proofs.Ytnkflmimnpolcaa
