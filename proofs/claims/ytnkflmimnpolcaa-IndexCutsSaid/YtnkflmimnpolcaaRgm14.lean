/- For Range: append at a named slice type; sorting, its footprint. Range. A region that draws its order, in a round. Range of a stretch. Range, by all entries. -/
import Derived.Test.YtnkflmimnpolcaaFg14
import Derived.Deep.RegionHeld3
namespace Go.Proofs.Ytnkflmimnpolcaa
open Go.RowKit Go.Lib Go.Shelf
set_option maxRecDepth 100000

/-- A second argument of another slice type of the same elements changes nothing. -/
theorem append_named {P : Program} {t t2 ty e : TypeId} (h1 : P.underlying t = some (.slice e)) (h2 : P.underlying t2 = some (.slice e)) (vs : Array Value) (w : World) :
    (Builtin.append_ #[t, t2] ty vs).run P w = (Builtin.append_ #[t, t] ty vs).run P w := by
  unfold Builtin.append_
  rcases hs : vs[0]? with _ | s <;> rcases hx : vs[1]? with _ | x
  · simp
  · simp
  · simp
  · cases s
    case slice b n c =>
      simp only [List.getElem?_toArray, List.getElem?_cons_zero, List.getElem?_cons_succ, Sem.run_bind, run_underlying h1, Result.andThen_ok]
      congr 1
      funext size w'
      simp only [run_underlying h2, Result.andThen_ok, Sem.run_pure]
    all_goals simp [Sem.run_bind, run_underlying h1, Result.andThen]
theorem entX_cells2 {w : World} {ad : Addr} {l : List En} (hX : EntX w (some ad) l) : ∀ j u, (envals l)[j]? = some u → w.cell? (ad.add j) = some u := by
  intro j u hj
  have hjl : j < l.length * 3 := by rw [← envals_len]; exact (List.getElem?_eq_some_iff.1 hj).1
  obtain ⟨b, off, hb, c0, c1, c2⟩ := hX (j / 3) (by omega)
  cases hb
  have had : (⟨b, off, none⟩ : Addr).add j = ⟨b, off + j, none⟩ := by unfold Addr.add; split <;> simp_all
  rw [had]
  have key : ∀ (l : List En) (i : Nat) (h : i < l.length), (envals l)[i * 3]? = some (.int .i64 (l[i]'h).1) ∧ (envals l)[i * 3 + 1]? = some (.int .i64 (l[i]'h).2.1) ∧ (envals l)[i * 3 + 2]? = some (.int .i64 (l[i]'h).2.2) := by
    intro l
    induction l with
    | nil => intro i h; simp at h
    | cons e l ih =>
      intro i h
      cases i with
      | zero => simp [envals, enc3]
      | succ i =>
        have := ih i (by simpa using h)
        have e1 : (i + 1) * 3 = i * 3 + 3 := by omega
        rw [e1]
        simpa [envals, enc3] using this
  obtain ⟨k0, k1, k2⟩ := key l (j / 3) (by omega)
  have hm : j % 3 = 0 ∨ j % 3 = 1 ∨ j % 3 = 2 := by omega
  rcases hm with hm | hm | hm
  · have e : j = j / 3 * 3 := by omega
    rw [← e] at k0 c0
    rw [k0] at hj; cases hj; exact c0
  · have e : j = j / 3 * 3 + 1 := by omega
    rw [← e] at k1
    rw [show off + j / 3 * 3 + 1 = off + j by omega] at c1
    rw [k1] at hj; cases hj; exact c1
  · have e : j = j / 3 * 3 + 2 := by omega
    rw [← e] at k2
    rw [show off + j / 3 * 3 + 2 = off + j by omega] at c2
    rw [k2] at hj; cases hj; exact c2
/-- append of entries of a list, nil or not. -/
theorem append_tbl (w : World) (base n : Nat) (v : Value) (xs : List Value) (hown : w.ownsRow base TEn 3 v n xs) (y : Option Addr) (c : Nat) (m : List En) (hX : EntX w y m) (hc : y = none → c = 0 ∧ m = []) (h63 : n + m.length ≤ 1000000000) (hb : base ≤ w.heap.size) :
    ∃ y' cap w', (Builtin.append_ #[TEns, TTb] TEns #[v, .slice y m.length c]).run Try.prog w = .ok (.slice y' (n + m.length) cap) w' ∧ Grew w w' base TEn 3 v (.slice y' (n + m.length) cap) n m.length xs (envals m) := by
  obtain ⟨i0, hi, hz0, hz1, hz2⟩ := info_parts infoEn
  have hN : ∀ vs w, (Builtin.append_ #[TEns, TTb] TEns vs).run Try.prog w = (Builtin.append_ #[TEns, TEns] TEns vs).run Try.prog w := fun vs w => append_named (e := TEn) Try.underlying22 Try.underlying57 vs w
  rw [hN]
  cases y with
  | none =>
    obtain ⟨rfl, rfl⟩ := hc rfl
    obtain ⟨yv, cap, rfl, _, _⟩ := slice_form hown
    exact ⟨yv, cap, w, run_append_owned_none (P := Try.prog) (w := w) base TEns TEns TEn i0 3 Try.underlying22 hi _ n xs hown, by simpa [envals] using grew_none hown⟩
  | some ad =>
    obtain ⟨v', w', hr, hG⟩ := append_full (P := Try.prog) w base TEns TEns TEn i0 (.agg #[.int .i64 0, .int .i64 0, .int .i64 0]) 3 24 Try.underlying22 hi hz0 hz1 hz2 rfl (by decide) v n xs hown ad m.length c (envals m) (envals_len m) (entX_cells2 hX) (envals_one m) h63 (by decide) hb
    obtain ⟨y', cap, rfl, _, _⟩ := slice_form hG.own
    exact ⟨y', cap, w', hr, hG⟩
/-- Sorting tells which block it turns: the row's own. -/
structure SortW (base : Nat) (u : Value) (l : List En) (w w' : World) : Prop where
  ex : ∃ l' : List En, (SortedE l' ∧ (∀ z, z ∈ l' ↔ z ∈ l) ∧ l'.length = l.length) ∧ w'.ownsRow base TEn 3 u l'.length (envals l')
  t : ∃ F : List Nat, Touch F w w' ∧ ∀ k ∈ F, u.ownBlock = some k
theorem sortEns_w (base n : Nat) (u : Value) (l : List En) (w : World) (h : w.ownsRow base TEn 3 u n (envals l)) (hnd : l.Nodup) (hl : l.length ≤ 1000000) :
    Calls Try.prog 42 #[u, .func (.func 43) #[] #[]] w fun e w' => e = .returned (.tuple #[]) ∧ SortW base u l w w' := by
  have hn : n = l.length := by have := h.1; rw [envals_len] at this; omega
  rcases h.2 with ⟨rfl, h0⟩ | ⟨g, cap, cur, rfl, hb, _⟩
  · refine (sortEns_none w).mono ?_
    rintro e w' ⟨rfl, rfl⟩
    obtain rfl : l = [] := List.eq_nil_of_length_eq_zero (by omega)
    exact ⟨rfl, ⟨[], ⟨by simp [SortedE], by simp, rfl⟩, World.ownsRow_nil _ _ _ _⟩, [], Touch.refl _ _, by simp⟩
  · refine (sortEns_some base g n cap l w h hnd hl).mono ?_
    rintro e w' ⟨rfl, ⟨⟨l', h1, h2⟩, t⟩⟩
    exact ⟨rfl, ⟨l', h1, by rw [h1.2.2, ← hn]; exact h2⟩, [g], t, by simp [Value.ownBlock]⟩
end Go.Proofs.Ytnkflmimnpolcaa

namespace Go.Proofs.Ytnkflmimnpolcaa
open Go.RowKit Go.Lib Go.Shelf
set_option maxRecDepth 100000
attribute [local go_sem] Oper.semAt_some
attribute [-go_sem] Builtin.append_

/-- The entries of a stretch in tables, in their order. -/
def enT (h f u : Int) (ts : List TabV) : List En := ts.flatMap fun t => t.l.filter (isV h f u)
theorem enT_snoc (h f u : Int) (ts : List TabV) (t : TabV) : enT h f u (ts ++ [t]) = enT h f u ts ++ t.l.filter (isV h f u) := by simp [enT]
theorem enT_eq (h f u : Int) (ts : List TabV) : enT h f u ts = (flatT ts).filter (isV h f u) := by
  induction ts with
  | nil => simp [enT, flatT]
  | cons t ts ih =>
    have e : enT h f u (t :: ts) = t.l.filter (isV h f u) ++ enT h f u ts := by simp [enT]
    rw [e, ih, flatT_cons, List.filter_append]
theorem enT_len (h f u : Int) (ts : List TabV) : (enT h f u ts).length ≤ (flatT ts).length := by
  rw [enT_eq]
  exact List.length_filter_le _ _
/-- What the loop of Range holds: the entries so far, in a box. -/
def RanJ (w : World) (n₀ P b : Nat) (xp : Value) (zs : List En) (W : World) : Prop :=
  ((∃ u, Boxed W P TEns u ∧ W.ownsRow n₀ TEn 3 u zs.length (envals zs) ∧ True) ∧ Boxed W b 28 xp) ∧ Below n₀ w W
theorem ranJ_own {β : Type} (w : World) (n₀ P b : Nat) (xp : Value) (f : β → List En) (B : Nat) (hn : n₀ ≤ w.heap.size) (hB : n₀ ≤ B) : OwnFrom B (fun (s : β) W => RanJ w n₀ P b xp (f s) W) :=
  OwnFrom.and (OwnFrom.and (Own.from (holdsRow_own n₀ P TEns TEn 3 (fun s => (f s).length) (fun s => envals (f s)) (fun _ _ => True)) _) (Own.from (boxed_own _ _ (fun _ => xp)) _)) (ownFrom_below hn hB)
theorem kpP_ran {W w1 : World} {n₀ P b n m c : Nat} {v : Value} {y : Option Addr} {u xp : Value} {xs news : List Value} {N : Nat} (hN : N ≤ n₀) (hP : n₀ ≤ P) (hPb : P ≠ b) (hrow : W.ownsRow n₀ TEn 3 v n xs) (hb : Boxed W b 28 xp)
    (hG : Grew W w1 n₀ TEn 3 v (.slice y (n + m) c) n m xs news) : KpP (prB N b) W (w1.setCell ⟨P, 0, none⟩ u) := by
  have hgr := hG.grown
  refine ⟨?_, fun k hk hl => ?_⟩
  · have := hgr.size
    simpa using this
  · have hkP : k ≠ P := by
      rcases hk with h | h
      · omega
      · subst h; exact fun e => hPb e.symm
    refine (heap_set_other u hkP).trans (hgr.block k hl (fun e => ?_))
    rcases hk with h | rfl
    · have := (hrow.lt k e.symm).1
      omega
    · exact hb.not_row (by decide) hrow e
theorem RanJ.t0 {w W W' : World} {n₀ P b : Nat} {xp : Value} {zs : List En} (h : RanJ w n₀ P b xp zs W) (hn : n₀ ≤ w.heap.size) (t : Touch [] W W') : RanJ w n₀ P b xp zs W' := by
  obtain ⟨⟨⟨u, h1, h2, -⟩, h3⟩, h4⟩ := h
  exact ⟨⟨⟨u, h1.kept t.grownBy (by simp), owns_touch h2 t, trivial⟩, h3.kept t.grownBy (by simp)⟩, below_touch h4 (Nat.le_trans hn h4.size) t⟩
/-- What the box keeps behind an append, behind its store. -/
theorem ran_next {w1 W w5 w6 : World} {P b n m c : Nat} {xp v : Value} {y : Option Addr} {zs ms : List En} (hB : Below w1.heap.size w1 w5) (hk : KpP (prB w1.heap.size b) W w5) (ho : KeepsOthers W w5) (hP : w1.heap.size ≤ P) (hPb : P ≠ b) (hbb : Boxed w5 b 28 xp) (hv : Boxed w5 P TEns v) (hrow : w5.ownsRow w1.heap.size TEn 3 v n (envals zs)) (hn : n = zs.length) (hm : m = ms.length)
    (hG : Grew w5 w6 w1.heap.size TEn 3 v (.slice y (n + m) c) n m (envals zs) (envals ms)) :
    Boxed w6 P TEns v ∧ (KeepsOthers W (w6.setCell ⟨P, 0, none⟩ (.slice y (n + m) c)) ∧ KpP (prB w1.heap.size b) W (w6.setCell ⟨P, 0, none⟩ (.slice y (n + m) c)) ∧ RanJ w1 w1.heap.size P b xp (zs ++ ms) (w6.setCell ⟨P, 0, none⟩ (.slice y (n + m) c))) := by
  have hgr := hG.grown
  have hPr : ∀ k, v.ownBlock = some k → k ≠ P := fun k hk e => by
    subst e
    exact hv.not_row (by decide) hrow hk.symm
  have hv6 : Boxed w6 P TEns v := hv.kept hgr (hv.not_row (by decide) hrow)
  have hb6 : Boxed w6 b 28 xp := hbb.kept hgr (hbb.not_row (by decide) hrow)
  refine ⟨hv6, ?_, hk.trans (kpP_ran (Nat.le_refl _) hP hPb hrow hbb hG), ⟨⟨⟨_, Boxed.set _ hv6, ?_, trivial⟩, hb6.other (fun e => hPb e.symm) _⟩, ?_⟩⟩
  · exact (ho.trans (KeepsOthers.of_grownBy hgr (fun j o hj hjo => by
      rcases hrow.2 with ⟨e, _⟩ | ⟨g, cap, cur, e, _, hg, _⟩
      · rw [e] at hj; cases hj
      · rw [e] at hj
        cases hj
        rw [hg] at hjo
        cases hjo
        rfl))).trans (KeepsOthers.setCell _ _ _)
  · have := hG.own
    rw [← envals_append] at this
    rw [List.length_append, ← hn, ← hm]
    exact this.kept (grownBy_setCell' w6 P _) (.inr (hv6.not_row (by decide) this).symm)
  · exact (hB.grown hgr hB.size (fun k hk => (hrow.lt k hk).1)).setCell hP _
set_option maxHeartbeats 4000000 in
theorem range14_none (h f t : Int) (hft : t ≤ f) (xb : Nat) (w : World) :
    Calls Try.prog 16 #[.pointer (some ⟨xb, 0, none⟩), .int .i64 h, .int .i64 f, .int .i64 t] w fun r w' => r = .returned (.slice none 0 0) ∧ Touch [] w w' := by
  obtain ⟨W0, hW0⟩ : ∃ W0, W0 = ((w.alloc (.cells #[.int .i64 h] TInt)).alloc (.cells #[.int .i64 f] TInt)).alloc (.cells #[.int .i64 t] TInt) := ⟨_, rfl⟩
  have T0 : Hid (Touch [] w W0) := hid (by rw [hW0]; exact (((Touch.refl [] w).alloc _).alloc _).alloc _)
  have c1 : W0.cell? ⟨w.heap.size + 1, 0, none⟩ = some (.int .i64 f) := by
    rw [hW0]
    have := cell_of (heap_alloc_keep (heap_alloc_new (w.alloc (.cells #[.int .i64 h] TInt)) (.cells #[.int .i64 f] TInt)) (.cells #[.int .i64 t] TInt)) 0
    rwa [World.size_alloc] at this
  have c2 : W0.cell? ⟨w.heap.size + 1 + 1, 0, none⟩ = some (.int .i64 t) := by
    rw [hW0]
    have := cell_of (heap_alloc_new ((w.alloc (.cells #[.int .i64 h] TInt)).alloc (.cells #[.int .i64 f] TInt)) (.cells #[.int .i64 t] TInt)) 0
    rwa [World.size_alloc, World.size_alloc] at this
  have hd : decide (t ≤ f) = true := by simpa using hft
  clear hft
  refine (callsIn_wide (n := 3)).1 ?_
  refine callsIn_of_wp_marks Try.func16 rfl trivial ?_ rfl
  simp only [Try.ntmps16, List.size_toArray, List.length_cons, List.length_nil, Nat.reduceAdd, Nat.reduceSub, Array.replicate_succ, Array.replicate_zero, List.push_toArray, List.append_toArray, List.nil_append, List.cons_append]
  gi_upto_region 1 with fail
  rw [← hW0]
  clear hW0
  gi_wp2
  exact ⟨_, results_tmp rfl _ _ _, rfl, T0.out⟩
end Go.Proofs.Ytnkflmimnpolcaa

namespace Go.Proofs.Ytnkflmimnpolcaa
open Go.RowKit Go.Lib Go.Shelf
set_option maxRecDepth 100000

theorem wpOp_round {l n i : Nat} {P : Program} {ops : Array Oper} {Q : Exit → Act → World → Prop} {K : Act → World → Prop} {a : Act} {w : World} (hd : ∀ (j : Nat) (o : Oper) c, ops[j]? = some o → o.op ≠ .defer c) (hq : ¬ LetsOut Q)
    (h : wpOp P ops Q i K a w) : wpOpIn (Fence.wide.inRound l) n P ops Q i K a w := by
  unfold wpOp at h
  unfold wpOpIn
  cases ho : ops[i]? with
  | none => simpa [ho] using h
  | some o =>
    simp only [ho] at h ⊢
    split
    · rename_i hw
      simp only [hw, if_true] at h
      rcases h with h | h
      · unfold Oper.wpIn
        unfold Oper.wp at h
        refine ⟨fun _ _ => trivial, ?_⟩
        rw [Oper.semAt_eq _ _ _ (fun c => hd i o c ho)]
        generalize (execOp a.eval o).run P w = r at *
        cases r with
        | ok x w' =>
          cases x <;> simp only [Oper.upon, Oper.uponIn] at h ⊢
          case value => exact h
          case skip => exact h
          case defer => exact h
          case enter f args => exact ⟨fun h => by simp [Fence.wide, Fence.inRound] at h, (callsIn_wide.2 h).inRound l⟩
          case row row args => exact ⟨fun h => by simp [Fence.wide, Fence.inRound] at h, fun c cs _ => let ⟨v, w', r, s⟩ := h c cs; ⟨v, w', r, stepsIn_wide.2 s⟩⟩
        | halt x w' => cases x <;> simp only [Oper.upon, Oper.uponIn] at h ⊢ <;> exact h
      · exact absurd h.2 hq
    · rename_i hw
      simp only [hw] at h
      exact ⟨fun _ _ => trivial, h⟩
theorem wpAny_round {l n : Nat} {P : Program} {md : Region.Mode} {ops : Array Oper} {Q : Exit → Act → World → Prop} (hd : ∀ (j : Nat) (o : Oper) c, ops[j]? = some o → o.op ≠ .defer c) (hq : ¬ LetsOut Q) :
    ∀ (fuel : Nat) (listed : Array Bool) (a : Act) (w : World), wpAny P md ops Q fuel listed a w → wpAnyIn (Fence.wide.inRound l) n P md ops Q fuel listed a w
  | 0, _, _, _, h => h
  | fuel + 1, _, _, _, h => ⟨h.1, fun i hi => wpOp_round hd hq (wpOp_mono (fun a' w' h' => wpAny_round hd hq fuel _ a' w' h') (h.2 i hi))⟩
/-- A region that draws, in a round, under a condition that holds behind every operation. -/
theorem wpIn_round_held {l n id : Nat} {P : Program} {ops : Array Oper} {Q : Exit → Act → World → Prop} {S : World → Prop} {a : Act} {w : World} (hm : P.follows .mixedOrders = true) (hd : ∀ (j : Nat) (o : Oper) c, ops[j]? = some o → o.op ≠ .defer c) (hq : ¬ LetsOut Q)
    (h : wpAnyH P .any ops Q S ops.size (Array.replicate ops.size false) a w.drew) : (Code.region id ops true).wpIn (Fence.wide.inRound l) n P Q a w :=
  wpIn_region_any hm (wpAny_round hd hq _ _ _ _ (wpAny_of_held _ _ _ _ h))
end Go.Proofs.Ytnkflmimnpolcaa

namespace Go.Proofs.Ytnkflmimnpolcaa
open Go.RowKit Go.Lib Go.Shelf
set_option maxRecDepth 100000
attribute [local go_sem] Oper.semAt_some
attribute [-go_sem] Builtin.append_

set_option maxHeartbeats 8000000 in
theorem range14_any (h f t : Int) (hft : f < t) (f0 : -9223372036854775808 ≤ f) (t1 : t ≤ 9223372036854775807) (xb room most : Nat) (T : Tr) (L : List LvV) (w : World) (hI : IxAt w xb room most T L) (hs : SortedE T.io) (ht : ∀ t ∈ tabsL L, t.At w) (nL : L.length ≤ 1000000) (nT : (tabsL L).length ≤ 5000) (nM : T.io.length ≤ 100000) (nF : (flatT (tabsL L)).length ≤ 100000)
    (hnd : ((fromE T.io (h, f, 0)).takeWhile (isHR h t) ++ enT h f (t - 1) (tabsL L)).Nodup) :
    Calls Try.prog 16 #[.pointer (some ⟨xb, 0, none⟩), .int .i64 h, .int .i64 f, .int .i64 t] w fun r w' => ∃ u l', r = .returned u ∧ SortedE l' ∧ (∀ z, z ∈ l' ↔ z ∈ (fromE T.io (h, f, 0)).takeWhile (isHR h t) ++ enT h f (t - 1) (tabsL L)) ∧ w'.ownsRow w.heap.size TEn 3 u l'.length (envals l') ∧ Touch [] w w' := by
  have hF0 : ((fromE T.io (h, f, 0)).takeWhile (isHR h t)).length ≤ 100000 := by
    have h1 := List.Sublist.length_le (List.takeWhile_sublist (isHR h t) (l := fromE T.io (h, f, 0)))
    have h2 := from_len T.io (h, f, 0)
    omega
  have hd : decide (t ≤ f) = false := by rw [decide_eq_false_iff_not]; omega
  refine (callsIn_wide (n := 3)).1 ?_
  refine callsIn_of_wp_marks Try.func16 rfl trivial ?_ rfl
  simp only [Try.ntmps16, List.size_toArray, List.length_cons, List.length_nil, Nat.reduceAdd, Nat.reduceSub, Array.replicate_succ, Array.replicate_zero, List.push_toArray, List.append_toArray, List.nil_append, List.cons_append]
  obtain ⟨w1, hw1⟩ : ∃ w1, w1 = ((w.alloc (.cells #[.int .i64 h] TInt)).alloc (.cells #[.int .i64 f] TInt)).alloc (.cells #[.int .i64 t] TInt) := ⟨_, rfl⟩
  have tw1 : Touch [] w w1 := by rw [hw1]; exact (((Touch.refl [] w).alloc _).alloc _).alloc _
  have c4 : w1.cell? ⟨w.heap.size, 0, none⟩ = some (.int .i64 h) := by rw [hw1]; exact cell_of (heap_alloc_keep (heap_alloc_keep (heap_alloc_new w (.cells #[.int .i64 h] TInt)) _) _) 0
  have c5 : w1.cell? ⟨w.heap.size + 1, 0, none⟩ = some (.int .i64 f) := by
    rw [hw1]
    have := cell_of (heap_alloc_keep (heap_alloc_new (w.alloc (.cells #[.int .i64 h] TInt)) (.cells #[.int .i64 f] TInt)) (.cells #[.int .i64 t] TInt)) 0
    rwa [World.size_alloc] at this
  have c6 : w1.cell? ⟨w.heap.size + 1 + 1, 0, none⟩ = some (.int .i64 t) := by
    rw [hw1]
    have := cell_of (heap_alloc_new ((w.alloc (.cells #[.int .i64 h] TInt)).alloc (.cells #[.int .i64 f] TInt)) (.cells #[.int .i64 t] TInt)) 0
    rwa [World.size_alloc, World.size_alloc] at this
  have HSZ : Hid (w1.heap.size = w.heap.size + 3) := hid (by rw [hw1]; simp)
  have n4 : ¬ w.heap.size = w1.heap.size := by have := HSZ.out; omega
  have n5 : ¬ w.heap.size + 1 = w1.heap.size := by have := HSZ.out; omega
  have n6 : ¬ w.heap.size + 1 + 1 = w1.heap.size := by have := HSZ.out; omega
  have l4 : w.heap.size < w1.heap.size := by have := HSZ.out; omega
  have l5 : w.heap.size + 1 < w1.heap.size := by have := HSZ.out; omega
  have l6 : w.heap.size + 1 + 1 < w1.heap.size := by have := HSZ.out; omega
  have hI1 := hI.t0 tw1
  have ht1 : ∀ t ∈ tabsL L, t.At w1 := fun t h => (ht t h).t0 tw1
  have T1 := hid tw1
  clear tw1 hI ht
  have CF := hid fun W (k : Touch [] w1 W) => range_any h f t (some ⟨xb, 2, none⟩) T hs (by omega) W (hI1.t0 k).mem
  have CM := hid fun W => memory_any xb W
  have HND := hid hnd
  clear hnd
  generalize ((fromE T.io (h, f, 0)).takeWhile (isHR h t)) = F0 at *
  gi_upto_region 1 with fail
  rw [← hw1]
  clear hw1
  gi_upto_region 3 with fail
  gi_cut [9] from 14 (fun p W => ∃ P u, p = .pointer (some ⟨P, 0, none⟩) ∧ w1.heap.size ≤ P ∧ Boxed W P TEns u ∧ W.ownsRow w1.heap.size TEn 3 u F0.length (envals F0) ∧ Below w1.heap.size w1 W)
  case first =>
    clear hI1 ht1 HND
    obtain ⟨j4, j5, j6⟩ : (w1.alloc (.cells #[.slice none 0 0] TEns)).drew.cell? ⟨w.heap.size, 0, none⟩ = some (.int .i64 h) ∧ (w1.alloc (.cells #[.slice none 0 0] TEns)).drew.cell? ⟨w.heap.size + 1, 0, none⟩ = some (.int .i64 f) ∧ (w1.alloc (.cells #[.slice none 0 0] TEns)).drew.cell? ⟨w.heap.size + 1 + 1, 0, none⟩ = some (.int .i64 t) :=
      ⟨((Touch.refl [] w1).alloc _).drew.cell c4, ((Touch.refl [] w1).alloc _).drew.cell c5, ((Touch.refl [] w1).alloc _).drew.cell c6⟩
    refine wpIn_wide.2 ?_
    have KS : Hid (∀ w', Touch [] w1 w' → w'.cell? ⟨w.heap.size, 0, none⟩ = some (.int .i64 h) ∧ w'.cell? ⟨w.heap.size + 1, 0, none⟩ = some (.int .i64 f) ∧ w'.cell? ⟨w.heap.size + 1 + 1, 0, none⟩ = some (.int .i64 t)) := hid fun w' t => ⟨t.cell c4, t.cell c5, t.cell c6⟩
    go_region_held3 (fun w' => w'.cell? ⟨w.heap.size, 0, none⟩ = some (.int .i64 h) ∧ w'.cell? ⟨w.heap.size + 1, 0, none⟩ = some (.int .i64 f) ∧ w'.cell? ⟨w.heap.size + 1 + 1, 0, none⟩ = some (.int .i64 t)) (first | go_keep | exact KS.out _ (by assumption) | exact KS.out _ (TT3.alloc _) | exact KS.out _ (TT3.setCell (.inr (Nat.le_refl _)) _) | assumption) (first
      | (go_at_call 37; refine (CM.out _).mono ?_; rintro e w2 ⟨rfl, hh⟩; have hh := hh.symm; subst hh)
      | (go_at_call 17; refine (CF.out _ (by first | exact (Touch.refl [] w1).drew | exact ((Touch.refl [] w1).drew.alloc _) | exact ((Touch.refl [] w1).alloc _).drew)).mono ?_; rintro e w3 ⟨u0, rfl, o3, t3⟩; obtain ⟨y3, k3, rfl, -, -⟩ := slice_form o3; (first | (have hb3 : w3.heap[w1.heap.size]? = some (.cells #[.slice none 0 0] TEns) := touch_other t3 (heap_alloc_new w1 _) (by simp); have b3 : w3.cell? ⟨w1.heap.size, 0, none⟩ = some (.slice none 0 0) := cell_of hb3 0; have f3 : w3.frozen? ⟨w1.heap.size, 0, none⟩ = false := free_of hb3 0; have HB3 := hid hb3; clear hb3) | skip); have TT3 : Touch [] w1 w3 := (by first | exact (Touch.refl [] w1).drew.trans t3 (by simp) | exact ((Touch.refl [] w1).drew.alloc _).trans t3 (by simp) | exact ((Touch.refl [] w1).alloc _).drew.trans t3 (by simp)); have O3 := hid o3; have T3 := hid t3; clear o3 t3))
    all_goals (try gi_wp2)
    all_goals gi_meet
    all_goals first
      | exact ⟨w3.heap.size, _, rfl, TT3.size, Boxed.new _ _ _, (row_base O3.out (by simp)).alloc _, (TT3.below (Nat.le_refl _) (by simp)).alloc TT3.size _⟩
      | (have hB3 : Boxed w3 w1.heap.size TEns (.slice none 0 0) := HB3.out
         exact ⟨w1.heap.size, _, rfl, Nat.le_refl _, Boxed.set _ hB3, (row_base O3.out (by simp)).kept (grownBy_setCell' w3 w1.heap.size _) (.inr (hB3.not_row (by decide) O3.out).symm), (TT3.below (Nat.le_refl _) (by simp)).setCell (Nat.le_refl _) _⟩)
  case rest =>
    obtain ⟨P, u, rfl, hP, hbx, hrow0, hBel⟩ := hcut
    gi_wp2_with (refine ⟨trivial, ?_⟩; gi_at_call 35; refine (callsIn_wide.2 (tables_any xb _)).mono ?_; rintro r w' ⟨rfl, rfl⟩)
    obtain ⟨W0, hW0⟩ : ∃ W0, W0 = wc.alloc (.cells #[.pointer (some ⟨xb, 0, none⟩)] 28) := ⟨_, rfl⟩
    obtain ⟨b, hb⟩ : ∃ b, b = wc.heap.size := ⟨_, rfl⟩
    have hPlt := hbx.lt
    have hwc := hBel.size
    have hB0 : Below w1.heap.size w1 W0 := by rw [hW0]; exact hBel.alloc hBel.size _
    have hsz : W0.heap.size = b + 1 := by rw [hW0, hb]; simp
    have e0 : Boxed W0 P TEns u := by rw [hW0]; exact hbx.alloc _
    have e2 : Boxed W0 b 28 (.pointer (some ⟨xb, 0, none⟩)) := by rw [hW0, hb]; exact Boxed.new _ _ _
    have r0 : W0.ownsRow w1.heap.size TEn 3 u F0.length (envals F0) := by rw [hW0]; exact hrow0.alloc _
    have hPb : P ≠ b := by omega
    have hwb : w1.heap.size ≤ b := by omega
    rw [← hW0]
    rw [← hb]
    clear hW0 hbx hrow0 hBel hPlt hwc hb
    refine wpIn_rangeFunc_ownH rfl (by decide) (gf := 56) (lb := #[.pointer (some ⟨b, 0, none⟩)]) rfl trivial (enters_of Try.func56 (by kernel_rfl) rfl)
      (tables_stops 2 b xb room most T L w1 hI1 ht1 nL (by omega) W0 (Touch.of_below hB0) e2.cell) KpP.trans (fun W l o o' hl1 hl ho _ => KpP.putObj W l o o' hl (fun h => by have := prB_lt (m := W0.heap.size) h (by omega) (by omega); omega)) (Below.refl _ _) (fun _ => rfl)
      (fun pre W => RanJ w1 w1.heap.size P b (.pointer (some ⟨xb, 0, none⟩)) (F0 ++ enT h f (t - 1) (pre.map Subtype.val)) W)
      (fun _ _ _ => False)
      (ranJ_own w1 w1.heap.size P b _ (fun pre : List (TabG w1) => F0 ++ enT h f (t - 1) (pre.map Subtype.val)) _ (Nat.le_refl _) (by omega))
      (fun _ _ _ _ _ hs _ _ => hs)
      ⟨⟨⟨u, e0, by simpa [enT] using r0, trivial⟩, e2⟩, hB0⟩
      (fun x a' W => a' = { tmps := #[.pointer (some ⟨xb, 0, none⟩), .int .i64 h, .int .i64 f, .int .i64 t, undef, .pointer (some ⟨w.heap.size, 0, none⟩), .pointer (some ⟨w.heap.size + 1, 0, none⟩), .pointer (some ⟨w.heap.size + 1 + 1, 0, none⟩), .slice none 0 0, .pointer (some ⟨P, 0, none⟩), x.1.val, .int .i64 f, .int .i64 t, .bool false, u14, u15, u16, u17, u18, u19, .pointer (some ⟨xb, 0, none⟩), .func (.func 56) #[] #[.pointer (some ⟨b, 0, none⟩)], x.1.val, u23, u24, u25, u26, u27, u28, u29, u30, u31, u32, u33], defers := [] })
      (fun x a' _ X Y row hs hg hr => hs)
      ?assign ?body ?done ?stop
    case assign =>
      rintro l pre x W K hIp hK
      gi_wp2
      exact hK _ _ (KeepsFrom.refl _ _) (KpP.refl _ _) hIp rfl
    case body =>
      rintro l pre ⟨⟨tx, tc, tl⟩, tat⟩ a' W hl hlr ⟨⟨⟨uu, hv, hrow, -⟩, hbb⟩, hB⟩ ha hlt
      unfold TabV.val at ha
      dsimp only at ha
      subst ha
      obtain ⟨x', c', ⟨hcc, hzz, hEX⟩, HV⟩ := versions_any ⟨tx, tc, tl⟩ h f (t - 1) (by omega) w1 tat
      have TB := Touch.of_below hB
      have CV := HV
      clear HV
      obtain ⟨d4, d5, d6⟩ := (⟨TB.cell c4, TB.cell c5, TB.cell c6⟩ : W.cell? ⟨w.heap.size, 0, none⟩ = some (.int .i64 h) ∧ W.cell? ⟨w.heap.size + 1, 0, none⟩ = some (.int .i64 f) ∧ W.cell? ⟨w.heap.size + 1 + 1, 0, none⟩ = some (.int .i64 t))
      have hwr : IntKind.i64.wrap (t - 1) = t - 1 := IntWalk.i64_in _ (by omega)
      have hb1 := sum_le pre
      rw [sum_flat] at hb1
      have hb2 := enT_len h f (t - 1) (pre.map Subtype.val)
      have hb3 : tl.length ≤ 100000 := tat.good.2.2.2
      have hb4 := List.length_filter_le (isV h f (t - 1)) tl
      have hZ : Hid (F0 ++ enT h f (t - 1) ((pre ++ [(⟨⟨tx, tc, tl⟩, tat⟩ : TabG w1)]).map Subtype.val) = (F0 ++ enT h f (t - 1) (pre.map Subtype.val)) ++ tl.filter (isV h f (t - 1))) := hid (by rw [List.map_append, List.map_singleton, enT_snoc, List.append_assoc])
      have hzl : (F0 ++ enT h f (t - 1) (pre.map Subtype.val)).length ≤ 600000000 := by
        rw [List.length_append]
        have : pre.length ≤ 5000 := by have := gtabs_len w1 L ht1; omega
        omega
      generalize F0 ++ enT h f (t - 1) (pre.map Subtype.val) = zs at *
      dsimp only at hEX hcc hzz CV hZ
      generalize tl.filter (isV h f (t - 1)) = fl at *
      have hflen : fl.length ≤ 100000 := by omega
      have HN : Hid (∀ w5, Touch [] W w5 → ∃ y cap w6, (Builtin.append_ #[TEns, TTb] TEns #[uu, .slice x' fl.length c']).run Try.prog w5 = .ok (.slice y (zs.length + fl.length) cap) w6 ∧ w5.cell? ⟨P, 0, none⟩ = some uu ∧ Boxed w6 P TEns uu ∧ Below w1.heap.size w1 w6 ∧ (KeepsOthers W (w6.setCell ⟨P, 0, none⟩ (.slice y (zs.length + fl.length) cap)) ∧ KpP (prB w1.heap.size b) W (w6.setCell ⟨P, 0, none⟩ (.slice y (zs.length + fl.length) cap)) ∧ RanJ w1 w1.heap.size P b (.pointer (some ⟨xb, 0, none⟩)) (zs ++ fl) (w6.setCell ⟨P, 0, none⟩ (.slice y (zs.length + fl.length) cap)))) := hid fun w5 t5 => by
        have hrow5 := owns_touch hrow t5
        have hB5 := below_touch hB hB.size t5
        obtain ⟨y, cap, w6, hrun, hG⟩ := append_tbl w5 w1.heap.size zs.length uu (envals zs) hrow5 x' c' fl ((hEX.t0 TB).t0 t5) (fun hx => ⟨hzz hx, List.eq_nil_of_length_eq_zero (by have := hzz hx; omega)⟩) (by omega) hB5.size
        have hv5 := hv.kept t5.grownBy (by simp)
        obtain ⟨hv6, hk⟩ := ran_next hB5 (KpP.of_touch t5 (by simp)) (keeps_touch t5) hP hPb (hbb.kept t5.grownBy (by simp)) hv5 hrow5 rfl rfl hG
        exact ⟨y, cap, w6, hrun, hv5.cell, hv6, hB5.grown hG.grown hB5.size (fun k hk => (hrow5.lt k hk).1), hk⟩
      have HSb : Hid (∀ w', Below w1.heap.size w1 w' → w'.cell? ⟨w.heap.size, 0, none⟩ = some (.int .i64 h) ∧ w'.cell? ⟨w.heap.size + 1, 0, none⟩ = some (.int .i64 f) ∧ w'.cell? ⟨w.heap.size + 1 + 1, 0, none⟩ = some (.int .i64 t)) := hid fun w' hb => ⟨(Touch.of_below hb).cell c4, (Touch.of_below hb).cell c5, (Touch.of_below hb).cell c6⟩
      have hvc := hv.cell
      have HB := hid hB
      have HTB := hid TB
      clear hv hbb hrow hEX hB TB hzz hcc
      clear hb1 hb2 hb4
      refine wpIn_block ?_
      refine wpIn_round_held (S := fun w' => w'.cell? ⟨w.heap.size, 0, none⟩ = some (.int .i64 h) ∧ w'.cell? ⟨w.heap.size + 1, 0, none⟩ = some (.int .i64 f) ∧ w'.cell? ⟨w.heap.size + 1 + 1, 0, none⟩ = some (.int .i64 t)) (by kernel_rfl) ?nodef ?noout ?walk
      case nodef =>
        intro j o c hj
        match j, hj with
        | 0, hj | 1, hj | 2, hj | 3, hj | 4, hj | 5, hj | 6, hj | 7, hj | 8, hj => simp at hj; subst hj; simp
        | j + 9, hj => simp at hj
      case noout => exact fun ⟨_, _, h⟩ => h
      case walk =>
        have hS : (fun w' : World => w'.cell? ⟨w.heap.size, 0, none⟩ = some (.int .i64 h) ∧ w'.cell? ⟨w.heap.size + 1, 0, none⟩ = some (.int .i64 f) ∧ w'.cell? ⟨w.heap.size + 1 + 1, 0, none⟩ = some (.int .i64 t)) W.drew := ⟨d4, d5, d6⟩
        refine wpAnyH_take (i := 1) (v := ?v1) rfl (by kernel_rfl) (by kernel_rfl) (by kernel_rfl) (fun _ _ _ h => h) (Or.inl ⟨by rfl, ?_⟩) hS ?_
        rotate_left
        · (intro w hSw; (try dsimp only at hSw); go_simp; try with_reducible rfl)
        try simp only [Act.put, List.setIfInBounds_toArray]
        refine wpAnyH_take (i := 2) (v := ?v2) rfl (by kernel_rfl) (by kernel_rfl) (by kernel_rfl) (fun _ _ _ h => h) (Or.inl ⟨by rfl, ?_⟩) hS ?_
        rotate_left
        · (intro w hSw; (try dsimp only at hSw); go_simp; try with_reducible rfl)
        try simp only [Act.put]
        refine wpAnyH_take (i := 3) (v := ?v3) rfl (by kernel_rfl) (by kernel_rfl) (by kernel_rfl) (fun _ _ _ h => h) (Or.inl ⟨by rfl, ?_⟩) hS ?_
        rotate_left
        · (intro w hSw; (try dsimp only at hSw); go_simp; try with_reducible rfl)
        try simp only [Act.put]
        refine wpAnyH_take (i := 4) (v := ?v4) rfl (by kernel_rfl) (by kernel_rfl) (by kernel_rfl) (fun _ _ _ h => h) (Or.inl ⟨by rfl, ?_⟩) hS ?_
        rotate_left
        · (intro w hSw; (try dsimp only at hSw); go_simp; try with_reducible rfl)
        try simp only [Act.put]
        refine wpAnyH_take (i := 5) (v := ?v5) rfl (by kernel_rfl) (by kernel_rfl) (by kernel_rfl) (fun _ _ _ h => h) (Or.inl ⟨by rfl, ?_⟩) hS ?_
        rotate_left
        · (intro w hSw; (try dsimp only at hSw); go_simp; try with_reducible rfl)
        try simp only [Act.put]
        refine wpAnyH_ready (rs := [0, 6]) (by kernel_rfl) (by simp) ?_
        refine AllReadyH.cons rfl (fun K hK => ?_) (AllReadyH.cons rfl (fun K hK => ?_) AllReadyH.nil)
        all_goals clear d4 d5 d6
        · have hvd : W.drew.cell? ⟨P, 0, none⟩ = some uu := hvc
          go_simp
          refine hK.out _ _ hS (fun _ => ?_)
          clear hK K hvd
          (try simp only [Act.put, List.setIfInBounds_toArray, List.set_cons_zero, List.set_cons_succ])
          refine wpAnyH_ready (rs := [6]) (by kernel_rfl) (by simp) ?_
          refine AllReadyH.cons rfl (fun K hK => ?_) AllReadyH.nil
          go_simp
          go_at_call 41
          refine (CV.out W.drew HTB.out.drew).mono ?_
          rintro e w5 ⟨rfl, t5⟩
          have T5 : Touch [] W w5 := ((Touch.refl [] W).drew).trans t5 (by simp)
          refine hK.out _ _ (HSb.out _ (below_touch HB.out HB.out.size T5)) (fun _ => ?_)
          clear hK K
          (try simp only [Act.put, List.setIfInBounds_toArray, List.set_cons_zero, List.set_cons_succ])
          obtain ⟨y, cap, w6, hrun, -, hv6, hB6, hk6⟩ := HN.out w5 T5
          refine wpAnyH_ready (rs := [7]) (by kernel_rfl) (by simp) ?_
          refine AllReadyH.cons rfl (fun K hK => ?_) AllReadyH.nil
          go_simp
          refine hK.out _ _ (HSb.out _ hB6) (fun _ => ?_)
          clear hK K
          (try simp only [Act.put, List.setIfInBounds_toArray, List.set_cons_zero, List.set_cons_succ])
          have v6 := hv6.cell
          have g6 := hv6.frozen
          refine wpAnyH_ready (rs := [8]) (by kernel_rfl) (by simp) ?_
          refine AllReadyH.cons rfl (fun K hK => ?_) AllReadyH.nil
          go_simp
          refine hK.out _ _ (HSb.out _ hk6.2.2.2) (fun _ => ?_)
          clear hK K
          (try simp only [Act.put, List.setIfInBounds_toArray, List.set_cons_zero, List.set_cons_succ])
          refine wpAnyH_done (by kernel_rfl) ?_ _
          exact ⟨hk6.1.from _, hk6.2.1, by dsimp only; rw [hZ.out]; exact hk6.2.2⟩
        · go_simp
          go_at_call 41
          refine (CV.out W.drew HTB.out.drew).mono ?_
          rintro e w5 ⟨rfl, t5⟩
          have T5 : Touch [] W w5 := ((Touch.refl [] W).drew).trans t5 (by simp)
          refine hK.out _ _ (HSb.out _ (below_touch HB.out HB.out.size T5)) (fun _ => ?_)
          clear hK K
          (try simp only [Act.put, List.setIfInBounds_toArray, List.set_cons_zero, List.set_cons_succ])
          obtain ⟨y, cap, w6, hrun, v5, hv6, hB6, hk6⟩ := HN.out w5 T5
          refine wpAnyH_ready (rs := [0]) (by kernel_rfl) (by simp) ?_
          refine AllReadyH.cons rfl (fun K hK => ?_) AllReadyH.nil
          go_simp
          refine hK.out _ _ (HSb.out _ (below_touch HB.out HB.out.size T5)) (fun _ => ?_)
          clear hK K
          (try simp only [Act.put, List.setIfInBounds_toArray, List.set_cons_zero, List.set_cons_succ])
          refine wpAnyH_ready (rs := [7]) (by kernel_rfl) (by simp) ?_
          refine AllReadyH.cons rfl (fun K hK => ?_) AllReadyH.nil
          go_simp
          refine hK.out _ _ (HSb.out _ hB6) (fun _ => ?_)
          clear hK K
          (try simp only [Act.put, List.setIfInBounds_toArray, List.set_cons_zero, List.set_cons_succ])
          have v6 := hv6.cell
          have g6 := hv6.frozen
          refine wpAnyH_ready (rs := [8]) (by kernel_rfl) (by simp) ?_
          refine AllReadyH.cons rfl (fun K hK => ?_) AllReadyH.nil
          go_simp
          refine hK.out _ _ (HSb.out _ hk6.2.2.2) (fun _ => ?_)
          clear hK K
          (try simp only [Act.put, List.setIfInBounds_toArray, List.set_cons_zero, List.set_cons_succ])
          refine wpAnyH_done (by kernel_rfl) ?_ _
          exact ⟨hk6.1.from _, hk6.2.1, by dsimp only; rw [hZ.out]; exact hk6.2.2⟩
    case done =>
      rintro D ys W hD rfl ⟨⟨⟨uu, hv, hrow, -⟩, hbb⟩, hB⟩ hK
      rw [gtabs_val] at hrow
      have HND' := HND.out
      have hb2 := enT_len h f (t - 1) (tabsL L)
      have hll : (F0 ++ enT h f (t - 1) (tabsL L)).length ≤ 1000000 := by rw [List.length_append]; omega
      clear HND hb2
      obtain ⟨zs, hzs⟩ : ∃ zs, zs = F0 ++ enT h f (t - 1) (tabsL L) := ⟨_, rfl⟩
      rw [← hzs] at hrow HND' hll
      have HZ := hid hzs
      clear hzs
      have SO := hid (sortEns_w w1.heap.size zs.length uu zs W hrow HND' hll)
      have hc := hv.cell
      have HP : Hid (∀ k, uu.ownBlock = some k → k ≠ P ∧ k ≠ D) := hid fun k e => ⟨fun e' => hv.not_row (by decide) hrow (by rw [e, e']), fun e' => by
        rcases hrow.2 with ⟨e2, _⟩ | ⟨g, cap, cur, e2, _, hg, _⟩
        · rw [e2] at e; cases e
        · rw [e2] at e
          cases e
          subst e'
          rw [hK] at hg
          cases hg⟩
      gi_wp2_with (refine ⟨trivial, ?_⟩; gi_at_call 42; refine (callsIn_wide.2 SO.out).mono ?_; rintro e w5 ⟨rfl, ⟨⟨l', hl', hr5⟩, F5, t5, hF5⟩⟩; have hc5 := (show Boxed w5 P TEns uu from touch_other t5 hv (fun hm => (HP.out _ (hF5 _ hm)).1 rfl)).cell; have R5 := hid hr5; have L5 := hid hl'; have T5 := hid t5; have F5' := hid hF5; clear hr5 hl' t5 hF5)
      have hK5 : w5.heap[D]? = _ := touch_other T5.out hK (fun hm => (HP.out _ (F5'.out _ hm)).2 rfl)
      refine ⟨by simp, .inl ⟨_, _, rfl, run_takeDeferred hK5, ?_⟩⟩
      exact ⟨_, results_tmp rfl _ _ _, uu, l', rfl, L5.out.1, fun z => by rw [← HZ.out]; exact L5.out.2.1 z, ownsRow_putObj (row_base R5.out (by have := HSZ.out; omega)) _ hK5 rfl, T1.out.trans (Touch.of_below ((hB.trans (T5.out.below hB.size (fun k hk => (hrow.lt k (F5'.out k hk)).1))).trans (belowK_b (w := w1) (Nat.le_refl _) w5 D _ _ (by omega) hK5 rfl rfl))) (by simp)⟩
    case stop =>
      rintro D c pre W _ _ h _
      exact h.elim
end Go.Proofs.Ytnkflmimnpolcaa

namespace Go.Proofs.Ytnkflmimnpolcaa
open Go.RowKit Go.Lib Go.Shelf
set_option maxRecDepth 100000

theorem isV_rng (a f t : Int) (l : List En) : l.filter (isV a f (t - 1)) = rngL l a f t := by
  unfold rngL
  refine List.filter_congr fun e _ => ?_
  unfold isV
  rw [Bool.eq_iff_iff]
  simp only [Bool.and_eq_true, decide_eq_true_eq]
  omega
theorem rng_none {S : List En} {a f t : Int} (h : t ≤ f) : rngL S a f t = [] := by
  unfold rngL
  rw [List.filter_eq_nil_iff]
  intro e _ h2
  simp only [Bool.and_eq_true, decide_eq_true_eq] at h2
  omega
theorem ixs_range {w : World} {xb room most : Nat} {S : List En} {M : Nat} {C : List Nat} (h : IxS w xb room most S M C) (hS : OkS S C) (h5 : S.length ≤ 5000) (a f t : Int) (f0 : -9223372036854775808 ≤ f) (t1 : t ≤ 9223372036854775807) :
    Calls Try.prog 16 #[.pointer (some ⟨xb, 0, none⟩), .int .i64 a, .int .i64 f, .int .i64 t] w fun r w' => ∃ u, r = .returned u ∧ w'.ownsRow w.heap.size TEn 3 u (rngL S a f t).length (envals (rngL S a f t)) ∧ Touch [] w w' := by
  by_cases hft : t ≤ f
  · refine (range14_none a f t hft xb w).mono ?_
    rintro r w' ⟨rfl, tt⟩
    rw [rng_none hft]
    exact ⟨_, rfl, World.ownsRow_nil _ _ _ _, tt⟩
  obtain ⟨T, L, h1, h2, h3, h4, h5'⟩ := h.ex
  obtain ⟨g1, g2, g3, g4, g5⟩ := ixs_tabs h1 hS h3 h5'
  have hl := h3.length_eq
  rw [List.length_append] at hl
  have g6 := tabs_le (tabsL L) fun t ht => (g1 t ht).good.2.2.1
  have hok : OkL T.io := fun e he => (hS.ok e (h3.subset (List.mem_append_left _ he))).1
  have hall : (fromE T.io (a, f, 0)).takeWhile (isHR a t) ++ enT a f (t - 1) (tabsL L) = (T.io ++ flatT (tabsL L)).filter (isV a f (t - 1)) := by
    rw [tab_range h2 hok, enT_eq, List.filter_append, isV_rng, isV_rng]
  have hp : ((T.io ++ flatT (tabsL L)).filter (isV a f (t - 1))).Perm (rngL S a f t) := by
    rw [← isV_rng]
    exact h3.filter _
  have hsr : SortedE (rngL S a f t) := hS.s.filter _
  have := range14_any a f t (by omega) f0 t1 xb room most T L w h1 h2 g1 (by omega) (by omega) g4 g5 (by rw [hall]; exact hp.nodup_iff.2 (sorted_nodup hsr))
  refine this.mono ?_
  rintro r w' ⟨u, l', rfl, hs', hm, hr, tt⟩
  have e : l' = rngL S a f t := sorted_ext hs' hsr fun x => by rw [hm x, hall]; exact hp.mem_iff
  subst e
  exact ⟨u, rfl, hr, tt⟩
end Go.Proofs.Ytnkflmimnpolcaa
