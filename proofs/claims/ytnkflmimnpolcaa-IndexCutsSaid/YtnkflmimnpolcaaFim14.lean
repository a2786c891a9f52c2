/- Numbers that are sorted: slices.Sort of a row of one's own. Where a version stands. -/
import Derived.Test.YtnkflmimnpolcaaSo14
import Derived.Test.YtnkflmimnpolcaaSt14
import Derived.Stop.RegionWithIn
import Derived.Sort.CutIn
namespace Go.Proofs.Ytnkflmimnpolcaa
open Go.RowKit Go.Lib Go.Shelf Go.Sort
set_option maxRecDepth 100000

def srtI (zs : List Int) : List Int := zs.mergeSort fun x y => decide (x ≤ y)
theorem srtI_len (zs : List Int) : (srtI zs).length = zs.length := List.length_mergeSort ..
theorem intV_ln (zs : List Int) : (intV zs).length = zs.length := by simp [intV]
theorem holds_ints {w : World} {base b n c : Nat} {zs : List Int} (h : w.ownsRow base TInt 1 (.slice (some ⟨b, 0, none⟩) n c) n (intV zs)) : Holds (Value.int .i64) w b 0 zs.toArray := by
  intro j hj
  have hj' : j < zs.length := by simpa using hj
  have := row_cell h (i := j) (by rw [intV_ln]; exact hj')
  rw [Nat.zero_add]
  refine ⟨?_, this.2⟩
  rw [this.1, getElem!_pos zs.toArray j hj]
  simp [intV]
theorem sort_ints_row {w : World} {base b n c : Nat} {zs : List Int} (h : w.ownsRow base TInt 1 (.slice (some ⟨b, 0, none⟩) n c) n (intV zs)) (ys : List Int) (hd : ys.length = zs.length) (m : Nat) (os : Array Obj) :
    (grow (putRow (Value.int .i64) (Sort.ahead w m) b 0 ys.toArray) os).ownsRow base TInt 1 (.slice (some ⟨b, 0, none⟩) n c) n (intV ys) ∧ Touch [b] w (grow (putRow (Value.int .i64) (Sort.ahead w m) b 0 ys.toArray) os) := by
  obtain ⟨hlen, h2⟩ := h
  rcases h2 with ⟨e, _⟩ | ⟨g, cap, cur, e, hb, hg, hnc, hcm, hcs, htake⟩
  · cases e
  · cases e
    have hlt := lt_of_block hg
    have hn : n = zs.length := by rw [intV_ln] at hlen; omega
    have hh : ∀ k, k < w.heap.size → (grow (putRow (Value.int .i64) (Sort.ahead w m) b 0 ys.toArray) os).heap[k]? = (w.heap.modify b (onCells (putCells (Value.int .i64) 0 ys.toArray)))[k]? := fun k hk => by
      show ((mapBlock (Sort.ahead w m) b _).heap ++ os)[k]? = _
      rw [Array.getElem?_append_left (by simpa [mapBlock, Sort.ahead] using hk)]
      rfl
    have hbk : (grow (putRow (Value.int .i64) (Sort.ahead w m) b 0 ys.toArray) os).heap[b]? = some (.cells (putCells (Value.int .i64) 0 ys.toArray cur) TInt (0, 0)) := by
      rw [hh b hlt, Array.getElem?_modify, if_pos rfl, hg]
      rfl
    refine ⟨⟨by rw [intV_ln]; omega, .inr ⟨b, c, _, rfl, hb, hbk, hnc, hcm, by simpa [putCells] using hcs, ?_⟩⟩, rfl, rfl, rfl, ?_, ?_⟩
    · apply List.ext_getElem
      · simp [putCells, hcs, intV]; omega
      · intro t k1 k2
        have hF : t < ys.length := by simpa [intV] using k2
        rw [List.getElem_take]
        simp only [putCells, Array.getElem_toList, Array.getElem_mapIdx]
        rw [if_pos (by simp; omega), Nat.sub_zero, getElem!_pos _ t (by simpa using hF)]
        simp [intV]
    · show _ ≤ ((mapBlock (Sort.ahead w m) b _).heap ++ os).size
      simp [mapBlock, Sort.ahead]
    · intro k hk hkb
      rw [hh k hk, Array.getElem?_modify, if_neg (fun e => hkb (by simp [e]))]
structure SortI (base : Nat) (u : Value) (zs : List Int) (w w' : World) : Prop where
  own : w'.ownsRow base TInt 1 u zs.length (intV (srtI zs))
  t : ∀ w0, Touch [] w0 w → w0.heap.size ≤ base → Touch [] w0 w'
  block : ∀ (k : Nat) (o : Obj), w.heap[k]? = some o → (∀ cs fz, o ≠ .cells cs TInt fz) → w'.heap[k]? = some o
theorem sortInts_any (base : Nat) (u : Value) (zs : List Int) (w : World) (h : w.ownsRow base TInt 1 u zs.length (intV zs)) (hl : zs.length ≤ 1000000000) :
    Calls Try.prog 45 #[u] w fun e w' => e = .returned (.tuple #[]) ∧ SortI base u zs w w' := by
  rcases h.2 with ⟨rfl, h0⟩ | ⟨g, cap, cur, rfl, hb, hg, _⟩
  · refine (Try.slices_Sort_int_none none 0 w).mono ?_
    rintro e w' ⟨rfl, rfl⟩
    obtain rfl := List.eq_nil_of_length_eq_zero h0
    exact ⟨rfl, by simpa [srtI, intV] using World.ownsRow_nil w' base TInt 1, fun w0 t _ => t, fun k o h _ => h⟩
  · refine (Try.slices_Sort_int g 0 cap zs w (holds_ints h) (lt_of_block hg) (by omega)).mono ?_
    rintro e w' ⟨rfl, n, os, rfl⟩
    obtain ⟨r1, r2⟩ := sort_ints_row h (srtI zs) (srtI_len zs) n os
    refine ⟨rfl, r1, fun w0 t0 h0 => t0.trans r2 (fun x hx => ?_), fun k o hk ht => touch_other r2 hk ?_⟩
    · simp at hx; subst hx; exact .inr (by omega)
    · intro e
      obtain rfl := List.mem_singleton.1 e
      rw [hg] at hk
      exact ht _ _ (Option.some.inj hk).symm
end Go.Proofs.Ytnkflmimnpolcaa

namespace Go.Proofs.Ytnkflmimnpolcaa
open Go.RowKit Go.Lib Go.Shelf
set_option maxRecDepth 100000
attribute [local go_sem] Oper.semAt_some

/-- The places of a version in tables, in their order. -/
def plT (h v : Int) (ts : List TabV) : List Int := (ts.flatMap fun t => t.l.filter (isV h v v)).map fun e => e.2.2
theorem plT_snoc (h v : Int) (ts : List TabV) (t : TabV) : plT h v (ts ++ [t]) = plT h v ts ++ (t.l.filter (isV h v v)).map fun e => e.2.2 := by simp [plT]
theorem plT_len (h v : Int) (ts : List TabV) : (plT h v ts).length ≤ (flatT ts).length := by
  induction ts with
  | nil => simp [plT]
  | cons t ts ih =>
    rw [flatT_cons, List.length_append]
    have e : plT h v (t :: ts) = (t.l.filter (isV h v v)).map (fun e => e.2.2) ++ plT h v ts := by simp [plT]
    rw [e, List.length_append, List.length_map]
    have := List.length_filter_le (isV h v v) t.l
    omega
/-- What the loop of Find holds: the places so far, in a box. -/
def FindJ (w : World) (n₀ P b : Nat) (xp : Value) (zs : List Int) (W : World) : Prop :=
  ((∃ u, Boxed W P TInts u ∧ W.ownsRow n₀ TInt 1 u zs.length (intV zs) ∧ True) ∧ Boxed W b 28 xp) ∧ Below n₀ w W
theorem findJ_own {β : Type} (w : World) (n₀ P b : Nat) (xp : Value) (f : β → List Int) (B : Nat) (hn : n₀ ≤ w.heap.size) (hB : n₀ ≤ B) : OwnFrom B (fun (s : β) W => FindJ w n₀ P b xp (f s) W) :=
  OwnFrom.and (OwnFrom.and (Own.from (holdsRow_own n₀ P TInts TInt 1 (fun s => (f s).length) (fun s => intV (f s)) (fun _ _ => True)) _) (Own.from (boxed_own _ _ (fun _ => xp)) _)) (ownFrom_below hn hB)
theorem kpP_find {W w1 : World} {n₀ P b n m c : Nat} {v : Value} {y : Option Addr} {u xp : Value} {xs news : List Value} {tmp : Obj} {N : Nat} (hN : N ≤ n₀) (hP : n₀ ≤ P) (hPb : P ≠ b) (hrow : W.ownsRow n₀ TInt 1 v n xs) (hb : Boxed W b 28 xp)
    (hG : Grew (W.alloc tmp) w1 n₀ TInt 1 v (.slice y (n + m) c) n m xs news) : KpP (prB N b) W (w1.setCell ⟨P, 0, none⟩ u) := by
  have hgr := hG.grown
  refine ⟨?_, fun k hk hl => ?_⟩
  · have := hgr.size
    simp at this
    simp
    omega
  · have hkP : k ≠ P := by
      rcases hk with h | h
      · omega
      · subst h; exact fun e => hPb e.symm
    refine (heap_set_other u hkP).trans ((hgr.block k (by simp; omega) (fun e => ?_)).trans (Below.heap_alloc W tmp k hl))
    rcases hk with h | rfl
    · have := (hrow.lt k e.symm).1
      omega
    · exact hb.not_row (by decide) hrow e
theorem FindJ.t0 {w W W' : World} {n₀ P b : Nat} {xp : Value} {zs : List Int} (h : FindJ w n₀ P b xp zs W) (hn : n₀ ≤ w.heap.size) (t : Touch [] W W') : FindJ w n₀ P b xp zs W' := by
  obtain ⟨⟨⟨u, h1, h2, -⟩, h3⟩, h4⟩ := h
  exact ⟨⟨⟨u, h1.kept t.grownBy (by simp), owns_touch h2 t, trivial⟩, h3.kept t.grownBy (by simp)⟩, below_touch h4 (Nat.le_trans hn h4.size) t⟩
/-- What one round of the inner loop keeps. -/
def FindK (w1 : World) (P b : Nat) (xp : Value) (W : World) (zs : List Int) (w4 : World) : Prop := FindJ w1 w1.heap.size P b xp zs w4 ∧ KpP (prB w1.heap.size b) W w4 ∧ KeepsOthers W w4
theorem FindK.t0 {w1 W W' W'' : World} {P b : Nat} {xp : Value} {zs : List Int} (h : FindK w1 P b xp W zs W') (t : Touch [] W' W'') : FindK w1 P b xp W zs W'' :=
  ⟨h.1.t0 (Nat.le_refl _) t, h.2.1.trans (KpP.of_touch t (by simp)), h.2.2.trans (keeps_touch t)⟩
theorem FindK.next {w1 W w5 w6 : World} {P b n c : Nat} {xp v : Value} {y : Option Addr} {zs : List Int} {p : Int} (h : FindK w1 P b xp W zs w5) (hP : w1.heap.size ≤ P) (hPb : P ≠ b) (hv : Boxed w5 P TInts v) (hrow : w5.ownsRow w1.heap.size TInt 1 v n (intV zs))
    (hG : Grew (w5.alloc (.cells #[.int .i64 p] TInt)) w6 w1.heap.size TInt 1 v (.slice y (n + 1) c) n 1 (intV zs) [.int .i64 p]) :
    Boxed w6 P TInts v ∧ FindK w1 P b xp W (zs ++ [p]) (w6.setCell ⟨P, 0, none⟩ (.slice y (n + 1) c)) := by
  obtain ⟨⟨⟨u, -, -, -⟩, hbb⟩, hB⟩ := h.1
  have hgr := hG.grown
  obtain ⟨hv1, hv2, hr2, hk2, hb2⟩ := hv.appended (by decide) hrow hB.size hP hG.own hgr
  have hn : n = zs.length := by have := hrow.1; rw [intV_ln] at this; omega
  refine ⟨hv1, ⟨⟨⟨_, hv2, ?_, trivial⟩, ?_⟩, hB.trans hb2⟩, h.2.1.trans (kpP_find (m := 1) (Nat.le_refl _) hP hPb hrow hbb hG), h.2.2.trans hk2⟩
  · rw [List.length_append, ← hn]
    simpa [intV] using hr2
  · exact (((hbb.alloc _).kept hgr (hbb.not_row (by decide) hrow)).other (fun e => hPb e.symm) _)
set_option maxHeartbeats 8000000 in
theorem find14_any (h v : Int) (xb room most : Nat) (T : Tr) (L : List LvV) (w : World) (hI : IxAt w xb room most T L) (hs : SortedE T.io) (ht : ∀ t ∈ tabsL L, t.At w) (nL : L.length ≤ 1000000) (nT : (tabsL L).length ≤ 5000) (nM : T.io.length ≤ 100000) (nF : (flatT (tabsL L)).length ≤ 100000) :
    Calls Try.prog 19 #[.pointer (some ⟨xb, 0, none⟩), .int .i64 h, .int .i64 v] w fun r w' => ∃ u, r = .returned u ∧ w'.ownsRow w.heap.size TInt 1 u (((fromE T.io (h, v, 0)).takeWhile (isHV h v)).length + (plT h v (tabsL L)).length) (intV (srtI (((fromE T.io (h, v, 0)).takeWhile (isHV h v)).map (fun e => e.2.2) ++ plT h v (tabsL L)))) ∧ Touch [] w w' := by
  have hF0 : ((fromE T.io (h, v, 0)).takeWhile (isHV h v)).length ≤ 100000 := by
    have h1 := List.Sublist.length_le (List.takeWhile_sublist (isHV h v) (l := fromE T.io (h, v, 0)))
    have h2 := from_len T.io (h, v, 0)
    omega
  refine (callsIn_wide (n := 3)).1 ?_
  refine callsIn_of_wp_marks Try.func19 rfl trivial ?_ rfl
  simp only [Try.ntmps19, List.size_toArray, List.length_cons, List.length_nil, Nat.reduceAdd, Nat.reduceSub, Array.replicate_succ, Array.replicate_zero, List.push_toArray, List.append_toArray, List.nil_append, List.cons_append]
  obtain ⟨w1, hw1⟩ : ∃ w1, w1 = (w.alloc (.cells #[.int .i64 h] TInt)).alloc (.cells #[.int .i64 v] TInt) := ⟨_, rfl⟩
  have t1 : Touch [] w w1 := by rw [hw1]; exact ((Touch.refl [] w).alloc _).alloc _
  have c4 : w1.cell? ⟨w.heap.size, 0, none⟩ = some (.int .i64 h) := by rw [hw1]; exact cell_of (heap_alloc_keep (heap_alloc_new w (.cells #[.int .i64 h] TInt)) _) 0
  have c5 : w1.cell? ⟨w.heap.size + 1, 0, none⟩ = some (.int .i64 v) := by
    rw [hw1]
    have := cell_of (heap_alloc_new (w.alloc (.cells #[.int .i64 h] TInt)) (.cells #[.int .i64 v] TInt)) 0
    rwa [World.size_alloc] at this
  have HSZ : Hid (w1.heap.size = w.heap.size + 2) := hid (by rw [hw1]; simp)
  have n4 : ¬ w.heap.size = w1.heap.size := by have := HSZ.out; omega
  have n5 : ¬ w.heap.size + 1 = w1.heap.size := by have := HSZ.out; omega
  have l4 : w.heap.size < w1.heap.size := by have := HSZ.out; omega
  have l5 : w.heap.size + 1 < w1.heap.size := by have := HSZ.out; omega
  have hI1 := hI.t0 t1
  have ht1 : ∀ t ∈ tabsL L, t.At w1 := fun t h => (ht t h).t0 t1
  have T1 := hid t1
  clear t1 hI ht
  have CF := hid fun W (t : Touch [] w1 W) => find_any h v (some ⟨xb, 2, none⟩) T hs (by omega) W (hI1.t0 t).mem
  have CM := hid fun W => memory_any xb W
  generalize ((fromE T.io (h, v, 0)).takeWhile (isHV h v)) = F0 at *
  gi_upto_region 1 with fail
  rw [← hw1]
  clear hw1
  gi_cut [7] from 11 (fun p W => ∃ P u, p = .pointer (some ⟨P, 0, none⟩) ∧ w1.heap.size ≤ P ∧ Boxed W P TInts u ∧ W.ownsRow w1.heap.size TInt 1 u F0.length (posV F0) ∧ Below w1.heap.size w1 W)
  case first =>
    clear hI1 ht1
    first
      | gi_region_with (refine ⟨trivial, ?_⟩; first
          | (gi_at_call 37; refine (callsIn_wide.2 (CM.out _)).mono ?_; rintro e w2 ⟨rfl, h⟩; have h := h.symm; subst h)
          | (gi_at_call 20; refine (callsIn_wide.2 (CF.out _ (by first | exact (Touch.refl [] w1).drew | exact (Touch.refl [] w1).drew.alloc _))).mono ?_; rintro e w3 ⟨u0, rfl, o3, t3⟩; obtain ⟨y3, k3, rfl, -, -⟩ := slice_form o3; (first | (have hb3 : w3.heap[w1.heap.size]? = some (.cells #[.slice none 0 0] TInts) := touch_other t3 (heap_alloc_new w1.drew _) (by simp); have b3 : w3.cell? ⟨w1.heap.size, 0, none⟩ = some (.slice none 0 0) := cell_of hb3 0; have f3 : w3.frozen? ⟨w1.heap.size, 0, none⟩ = false := free_of hb3 0; have HB3 := hid hb3; clear hb3) | skip); have O3 := hid o3; have T3 := hid t3; clear o3 t3))
      | fail
    all_goals (try gi_wp2)
    all_goals gi_meet
    all_goals first
      | exact ⟨w3.heap.size, _, rfl, T3.out.size, Boxed.new _ _ _, (row_base O3.out (by simp)).alloc _, ((Touch.refl [] w1).drew.trans T3.out (by simp)).below (Nat.le_refl _) (by simp) |>.alloc T3.out.size _⟩
      | (have TB : Touch [] w1 w3 := by first | exact ((Touch.refl [] w1).alloc _).drew.trans T3.out (by simp) | exact ((Touch.refl [] w1).drew.alloc _).trans T3.out (by simp)
         have hB3 : Boxed w3 w1.heap.size TInts (.slice none 0 0) := HB3.out
         exact ⟨w1.heap.size, _, rfl, Nat.le_refl _, Boxed.set _ hB3, (row_base O3.out (by simp)).kept (grownBy_setCell' w3 w1.heap.size _) (.inr (hB3.not_row (by decide) O3.out).symm), (TB.below (Nat.le_refl _) (by simp)).setCell (Nat.le_refl _) _⟩)
  case rest =>
    obtain ⟨P, u, rfl, hP, hbx, hrow0, hBel⟩ := hcut
    gi_wp2_with (refine ⟨trivial, ?_⟩; gi_at_call 35; refine (callsIn_wide.2 (tables_any xb _)).mono ?_; rintro r w' ⟨rfl, rfl⟩)
    obtain ⟨W0, hW0⟩ : ∃ W0, W0 = wc.alloc (.cells #[.pointer (some ⟨xb, 0, none⟩)] 28) := ⟨_, rfl⟩
    obtain ⟨b, hb⟩ : ∃ b, b = wc.heap.size := ⟨_, rfl⟩
    have hPlt := hbx.lt
    have hwc := hBel.size
    have hB0 : Below w1.heap.size w1 W0 := by rw [hW0]; exact hBel.alloc hBel.size _
    have hsz : W0.heap.size = b + 1 := by rw [hW0, hb]; simp
    have e0 : Boxed W0 P TInts u := by rw [hW0]; exact hbx.alloc _
    have e2 : Boxed W0 b 28 (.pointer (some ⟨xb, 0, none⟩)) := by rw [hW0, hb]; exact Boxed.new _ _ _
    have r0 : W0.ownsRow w1.heap.size TInt 1 u F0.length (posV F0) := by rw [hW0]; exact hrow0.alloc _
    have hPb : P ≠ b := by omega
    have hwb : w1.heap.size ≤ b := by omega
    rw [← hW0]
    rw [← hb]
    clear hW0 hbx hrow0 hBel hPlt hwc hb
    refine wpIn_rangeFunc_ownH rfl (by decide) (gf := 56) (lb := #[.pointer (some ⟨b, 0, none⟩)]) rfl trivial (enters_of Try.func56 (by kernel_rfl) rfl)
      (tables_stops 2 b xb room most T L w1 hI1 ht1 nL (by omega) W0 (Touch.of_below hB0) e2.cell) KpP.trans (fun W l o o' hl1 hl ho _ => KpP.putObj W l o o' hl (fun h => by have := prB_lt (m := W0.heap.size) h (by omega) (by omega); omega)) (Below.refl _ _) (fun _ => rfl)
      (fun pre W => FindJ w1 w1.heap.size P b (.pointer (some ⟨xb, 0, none⟩)) (F0.map (fun e => e.2.2) ++ plT h v (pre.map Subtype.val)) W)
      (fun _ _ _ => False)
      (findJ_own w1 w1.heap.size P b _ (fun pre : List (TabG w1) => F0.map (fun e => e.2.2) ++ plT h v (pre.map Subtype.val)) _ (Nat.le_refl _) (by omega))
      (fun _ _ _ _ _ hs _ _ => hs)
      ⟨⟨⟨u, e0, by simpa [plT, posV, intV, Function.comp_def] using r0, trivial⟩, e2⟩, hB0⟩
      (fun x a' W => a' = { tmps := #[.pointer (some ⟨xb, 0, none⟩), .int .i64 h, .int .i64 v, undef, .pointer (some ⟨w.heap.size, 0, none⟩), .pointer (some ⟨w.heap.size + 1, 0, none⟩), .slice none 0 0, .pointer (some ⟨P, 0, none⟩), x.1.val, undef, undef, u11, u12, u13, u14, u15, .pointer (some ⟨xb, 0, none⟩), .func (.func 56) #[] #[.pointer (some ⟨b, 0, none⟩)], x.1.val, u19, u20, u21, u22, u23, u24, u25, u26, u27, u28, u29, u30, u31, u32, u33, u34, u35, u36, u37], defers := [] })
      (fun x a' _ X Y row hs hg hr => hs)
      ?assign ?body ?done ?stop
    case assign =>
      rintro l pre x W K hIp hK
      gi_wp2
      exact hK _ _ (KeepsFrom.refl _ _) (KpP.refl _ _) hIp rfl
    case body =>
      rintro l pre ⟨⟨tx, tc, tl⟩, tat⟩ a' W hl hlr ⟨⟨⟨uu, hv, hrow, -⟩, hbb⟩, hB⟩ ha hlt
      unfold TabV.val at ha
      dsimp only at ha
      subst ha
      obtain ⟨i0, hi, hz0, hz1, hz2⟩ := info_parts infoInt
      obtain ⟨x', c', ⟨hcc, hzz, hEX⟩, HV⟩ := versions_any ⟨tx, tc, tl⟩ h v v (Int.le_refl _) w1 tat
      have TB := Touch.of_below hB
      have CV := hid (HV.out W TB)
      have d4 := TB.cell c4
      have d5 := TB.cell c5
      have hb1 := sum_le pre
      rw [sum_flat] at hb1
      have hb2 := plT_len h v (pre.map Subtype.val)
      have hb3 : tl.length ≤ 100000 := tat.good.2.2.2
      have hb4 := List.length_filter_le (isV h v v) tl
      have hZ : Hid (F0.map (fun e => e.2.2) ++ plT h v ((pre ++ [(⟨⟨tx, tc, tl⟩, tat⟩ : TabG w1)]).map Subtype.val) = (F0.map (fun e => e.2.2) ++ plT h v (pre.map Subtype.val)) ++ (tl.filter (isV h v v)).map fun e => e.2.2) := hid (by rw [List.map_append, List.map_singleton, plT_snoc, List.append_assoc])
      have hzl : (F0.map (fun e : En => e.2.2) ++ plT h v (pre.map Subtype.val)).length ≤ 600000000 := by
        rw [List.length_append, List.length_map]
        have : pre.length ≤ 5000 := by have := gtabs_len w1 L ht1; omega
        omega
      obtain ⟨zs, hzs⟩ : ∃ zs, zs = F0.map (fun e : En => e.2.2) ++ plT h v (pre.map Subtype.val) := ⟨_, rfl⟩
      rw [← hzs] at hrow hzl
      have hZ2 : Hid (F0.map (fun e => e.2.2) ++ plT h v ((pre ++ [(⟨⟨tx, tc, tl⟩, tat⟩ : TabG w1)]).map Subtype.val) = zs ++ (tl.filter (isV h v v)).map fun e => e.2.2) := hid (by rw [hZ.out, hzs])
      have K0 : Hid (FindK w1 P b (.pointer (some ⟨xb, 0, none⟩)) W zs W) := hid ⟨⟨⟨⟨uu, hv, hrow, trivial⟩, hbb⟩, hB⟩, KpP.refl _ _, KeepsOthers.refl _⟩
      clear hzs hb1 hb2 hZ HV hv hrow hbb
      dsimp only at hEX hcc CV
      generalize tl.filter (isV h v v) = fl at *
      have hflen : fl.length ≤ 100000 := by omega
      clear hb4
      gi_wp2_with (refine ⟨trivial, ?_⟩; gi_at_call 41; refine ((callsIn_wide.2 CV.out).inRound l).mono ?_; rintro r w3 ⟨rfl, t3⟩; have K3 := hid (K0.out.t0 t3); clear t3)
      gi_loopw [25] (fun iv w4 => ∃ j : Nat, j ≤ fl.length ∧ iv = .int .i64 j ∧ Hid (FindK w1 P b (.pointer (some ⟨xb, 0, none⟩)) W (zs ++ (fl.take j).map fun e => e.2.2) w4)) (fun iv _ => fl.length - (RowKit.intOf iv).toNat)
      case atStart => exact ⟨0, Nat.zero_le _, rfl, hid (by simpa using K3.out)⟩
      case round =>
        obtain ⟨j, hj, rfl, HK⟩ := hrel
        by_cases hlt : j < fl.length
        · have hlt2 : decide (j < fl.length) = true := by simpa using hlt
          have hIj : (j : Int) < fl.length := by omega
          obtain ⟨b', off, rfl, g0, g1, g2⟩ := hEX j hlt
          have TB4 := Touch.of_below HK.out.1.2
          have e0 := TB4.cell g0
          have e1 := TB4.cell g1
          have e2' := TB4.cell g2
          have TK : Hid (zs ++ (fl.take (j + 1)).map (fun e => e.2.2) = (zs ++ (fl.take j).map (fun e => e.2.2)) ++ [fl[j].2.2]) := hid (by rw [List.take_succ_eq_append_getElem hlt, List.map_append, List.append_assoc]; rfl)
          have hzj : (zs ++ (fl.take j).map (fun e : En => e.2.2)).length ≤ 700000000 := by
            rw [List.length_append, List.length_map, List.length_take]
            omega
          generalize zs ++ (fl.take j).map (fun e : En => e.2.2) = zj at *
          generalize fl[j] = a at *
          clear g0 g1 g2 TB4
          obtain ⟨w5, hw5⟩ : ∃ w5, w5 = wr.alloc (.cells #[.int .i64 a.1, .int .i64 a.2.1, .int .i64 a.2.2] TEn) := ⟨_, rfl⟩
          have t5 : Touch [] wr w5 := by rw [hw5]; exact (Touch.refl [] wr).alloc _
          have EB : EnB w5 wr.heap.size a := by rw [hw5]; exact heap_alloc_new wr _
          obtain ⟨l1, l2, l3⟩ := EB.c
          have K5 := HK.out.t0 t5
          obtain ⟨⟨⟨u5, hv5, hrow5, -⟩, hbb5⟩, hB5⟩ := K5.1
          have hc5 := hv5.cell
          have FK := hid fun y c w6 hG => K5.next (p := a.2.2) (y := y) (c := c) (w6 := w6) hP hPb hv5 hrow5 hG
          have hsz5 := hid hB5.size
          have HR5 := hid hrow5
          clear EB t5 K5 hbb5 hB5 HK K3 K0 hrow5 hv5
          gi_upto_region 7 with fail
          rw [← hw5]
          clear hw5
          gi_wp2_with (gi_at_builtin; refine wpListIn_append_full _ rfl _ _ TInts rfl w1.heap.size TInt i0 (.int .i64 0) 1 8 Try.underlying23 hi hz0 hz1 hz2 rfl (by decide) _ _ _ rfl (HR5.out.alloc _) ⟨w5.heap.size, 0, none⟩ 1 1 [.int .i64 a.2.2] rfl rfl (cell_one_new _ _ _) (by intro u hu; simp at hu; subst hu; rfl) (by omega) (by decide) (by have := hsz5.out; simp; omega) ?_; intro y c w6 hG; obtain ⟨hv6, k6⟩ := FK.out y c w6 hG; have c6 := hv6.cell; have f6 := hv6.frozen; have K6 := hid k6; clear hG hv6 k6)
          go_roundw
          case rel => exact ⟨j + 1, by omega, by go_num, hid (by rw [TK.out]; exact K6.out)⟩
          case measure => simp [RowKit.intOf]; omega
        · obtain rfl : j = fl.length := by omega
          have hlt2 : decide (fl.length < fl.length) = false := by simp
          rw [List.take_length] at HK
          gi_wp2
          exact ⟨HK.out.2.2.from _, HK.out.2.1, by dsimp only; rw [hZ2.out]; exact HK.out.1⟩
    case done =>
      rintro D ys W hD rfl ⟨⟨⟨uu, hv, hrow, -⟩, hbb⟩, hB⟩ hK
      rw [gtabs_val] at hrow
      have hlen : (F0.map (fun e : En => e.2.2) ++ plT h v (tabsL L)).length = F0.length + (plT h v (tabsL L)).length := by simp
      have hpl := plT_len h v (tabsL L)
      have SO := hid (sortInts_any w1.heap.size uu _ W hrow (by omega))
      have hc := hv.cell
      gi_wp2_with (refine ⟨trivial, ?_⟩; gi_at_call 45; refine (callsIn_wide.2 SO.out).mono ?_; rintro e w5 ⟨rfl, hs5⟩; have S5 := hid hs5; have hc5 := (show Boxed w5 P TInts uu from hs5.block P _ hv (fun cs fz e => by injection e with _ e; exact absurd e (by decide))).cell; clear hs5)
      have hK5 : w5.heap[D]? = _ := S5.out.block D _ hK (fun cs fz e => by cases e)
      have TB5 := S5.out.t w1 (Touch.of_below hB) (Nat.le_refl _)
      refine ⟨by simp, .inl ⟨_, _, rfl, run_takeDeferred hK5, ?_⟩⟩
      rw [← hlen]
      exact ⟨_, results_tmp rfl _ _ _, uu, rfl, ownsRow_putObj (row_base S5.out.own (by have := HSZ.out; omega)) _ hK5 rfl, T1.out.trans (Touch.of_below ((TB5.below (Nat.le_refl _) (by simp)).trans (belowK_b (w := w1) (Nat.le_refl _) w5 D _ _ (by omega) hK5 rfl rfl))) (by simp)⟩
    case stop =>
      rintro D c pre W _ _ h _
      exact h.elim
end Go.Proofs.Ytnkflmimnpolcaa
