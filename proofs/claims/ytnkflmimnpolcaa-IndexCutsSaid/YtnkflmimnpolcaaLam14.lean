/- The last one: what the loop holds. Last. Last walked. Last, by all entries. -/
import Derived.Test.YtnkflmimnpolcaaRgm14
namespace Go.Proofs.Ytnkflmimnpolcaa
open Go.RowKit Go.Lib Go.Shelf
set_option maxRecDepth 100000
attribute [local go_sem] Oper.semAt_some

/-- The greater one of two, if any. -/
def mxE : Option En → Option En → Option En
  | a, none => a
  | none, some e => some e
  | some x, some e => if ltE x e then some e else some x
/-- The last one of a hash in a list. -/
def IsL (l : List En) (h : Int) : Option En → Prop
  | none => ∀ e ∈ l, e.1 ≠ h
  | some m => m ∈ l ∧ m.1 = h ∧ ∀ e ∈ l, e.1 = h → ¬ ltE m e
theorem isL_nil (h : Int) : IsL [] h none := fun _ h => by cases h
theorem isL_last {l : List En} (hs : SortedE l) (h : Int) : IsL l h ((l.filter fun e => decide (e.1 = h)).getLast?) := by
  have hf : SortedE (l.filter fun e => decide (e.1 = h)) := hs.filter _
  cases hc : (l.filter fun e => decide (e.1 = h)).getLast? with
  | none =>
    have hn := List.getLast?_eq_none_iff.1 hc
    intro e he h2
    have := (List.filter_eq_nil_iff.1 hn) e he
    simp [h2] at this
  | some m =>
    have hm := List.mem_of_getLast? hc
    have hm2 := List.mem_filter.1 hm
    refine ⟨hm2.1, by simpa using hm2.2, fun e he h2 hlt => ?_⟩
    obtain ⟨ys, hys⟩ := List.getLast?_eq_some_iff.1 hc
    have he2 : e ∈ l.filter fun e => decide (e.1 = h) := List.mem_filter.2 ⟨he, by simpa using h2⟩
    rw [hys] at he2 hf
    rcases List.mem_append.1 he2 with h3 | h3
    · have := (List.pairwise_append.1 hf).2.2 e h3 m (by simp)
      exact ltE_asymm this hlt
    · have h4 : e = m := by simpa using h3
      subst h4
      exact ltE_irrefl _ hlt
theorem isL_join {l m : List En} {h : Int} {a b : Option En} (hl : IsL l h a) (hm : IsL m h b) : IsL (l ++ m) h (mxE a b) := by
  cases b with
  | none =>
    cases a with
    | none => exact fun e he => (List.mem_append.1 he).elim (hl e) (hm e)
    | some x => exact ⟨List.mem_append_left _ hl.1, hl.2.1, fun e he h2 => (List.mem_append.1 he).elim (fun h3 => hl.2.2 e h3 h2) (fun h3 => absurd h2 (hm e h3))⟩
  | some y =>
    cases a with
    | none => exact ⟨List.mem_append_right _ hm.1, hm.2.1, fun e he h2 => (List.mem_append.1 he).elim (fun h3 => absurd h2 (hl e h3)) (fun h3 => hm.2.2 e h3 h2)⟩
    | some x =>
      by_cases hxy : ltE x y
      · have ex : mxE (some x) (some y) = some y := by simp [mxE, hxy]
        rw [ex]
        refine ⟨List.mem_append_right _ hm.1, hm.2.1, fun e he h2 => (List.mem_append.1 he).elim (fun h3 h4 => hl.2.2 e h3 h2 (ltE_trans hxy h4)) (fun h3 => hm.2.2 e h3 h2)⟩
      · have ex : mxE (some x) (some y) = some x := by simp [mxE, hxy]
        rw [ex]
        refine ⟨List.mem_append_left _ hl.1, hl.2.1, fun e he h2 => (List.mem_append.1 he).elim (fun h3 => hl.2.2 e h3 h2) (fun h3 h4 => ?_)⟩
        rcases ltE_tri x y with rfl | h5 | h5
        · exact hm.2.2 e h3 h2 h4
        · exact hxy h5
        · exact hm.2.2 e h3 h2 (ltE_trans h5 h4)
theorem isL_one {l m : List En} {h : Int} {a b : Option En} (hl : IsL l h a) (hm : IsL m h b) (he : ∀ e, e ∈ l ↔ e ∈ m) : a = b := by
  cases a with
  | none =>
    cases b with
    | none => rfl
    | some y => exact absurd hm.2.1 (hl y ((he y).2 hm.1))
  | some x =>
    cases b with
    | none => exact absurd hl.2.1 (hm x ((he x).1 hl.1))
    | some y =>
      rcases ltE_tri x y with h5 | h5 | h5
      · rw [h5]
      · exact absurd h5 (hl.2.2 y ((he y).2 hm.1) hm.2.1)
      · exact absurd h5 (hm.2.2 x ((he x).1 hl.1) hl.2.1)
/-- The greatest of the tables' last ones. -/
def lastT (h : Int) (o : Option En) (ts : List TabV) : Option En := ts.foldl (fun a t => mxE a (t.l.filter fun e => decide (e.1 = h)).getLast?) o
theorem lastT_snoc (h : Int) (o : Option En) (ts : List TabV) (t : TabV) : lastT h o (ts ++ [t]) = mxE (lastT h o ts) (t.l.filter fun e => decide (e.1 = h)).getLast? := by simp [lastT]
theorem isL_tabs {h : Int} : ∀ {ts : List TabV} {l : List En} {o : Option En}, (∀ t ∈ ts, SortedE t.l) → IsL l h o → IsL (l ++ flatT ts) h (lastT h o ts)
  | [], l, o, _, hl => by simpa [flatT, lastT] using hl
  | t :: ts, l, o, hs, hl => by
    have h1 := isL_tabs (ts := ts) (fun t ht => hs t (by simp [ht])) (isL_join hl (isL_last (hs t (by simp)) h))
    rw [flatT_cons, ← List.append_assoc]
    exact h1
/-- What the loop of Last holds. -/
def LastJ (w : World) (n₀ L B b : Nat) (xp : Value) (o : Option En) (W : World) : Prop :=
  (EnB W L (o.getD (0, 0, 0)) ∧ Boxed W B 4 (.bool o.isSome) ∧ Boxed W b 28 xp) ∧ Below n₀ w W
theorem enBs_own {β : Type} (L : Nat) (f : β → En) : Own (fun s W => EnB W L (f s)) := fun s X Y row hs hg hrow => by
  have hlt : L < X.heap.size := (Array.getElem?_eq_some_iff.1 hs).1
  exact (hg.block L hlt (fun e' => by obtain ⟨o, ho, hc⟩ := hrow L e'.symm; rw [show X.heap[L]? = _ from hs] at ho; cases ho; cases hc)).trans hs
theorem lastJ_own {β : Type} (w : World) (n₀ L B b : Nat) (xp : Value) (f : β → Option En) (N : Nat) (hn : n₀ ≤ w.heap.size) (hB : n₀ ≤ N) : OwnFrom N (fun (s : β) W => LastJ w n₀ L B b xp (f s) W) :=
  OwnFrom.and (OwnFrom.and (Own.from (enBs_own L (fun s => (f s).getD (0, 0, 0))) _) (OwnFrom.and (Own.from (boxed_own B 4 (fun s => Value.bool (f s).isSome)) _) (Own.from (boxed_own b _ (fun _ => xp)) _))) (ownFrom_below hn hB)
end Go.Proofs.Ytnkflmimnpolcaa

namespace Go.Proofs.Ytnkflmimnpolcaa
open Go.RowKit Go.Lib Go.Shelf
set_option maxRecDepth 100000
attribute [local go_sem] Oper.semAt_some

theorem last_init {w1 X : World} {E B : Nat} {e0 : En} (e : En) {u : Value} (v : Value) (hE : EnB X E e0) (hB : Boxed X B 4 u) (hne : E ≠ B) (hEl : w1.heap.size ≤ E) (hBl : w1.heap.size ≤ B) (hx : Below w1.heap.size w1 X) (W : World)
    (hW : W = (((X.setCell ⟨E, 0, none⟩ (.int .i64 e.1)).setCell ⟨E, 1, none⟩ (.int .i64 e.2.1)).setCell ⟨E, 2, none⟩ (.int .i64 e.2.2)).setCell ⟨B, 0, none⟩ v) : EnB W E e ∧ Boxed W B 4 v ∧ Below w1.heap.size w1 W := by
  have h1 := en_set hE e
  have hB1 : Boxed (X.setCell ⟨E, 0, none⟩ (.int .i64 e.1)) B 4 u := hB.other (fun h => hne h.symm) _
  have hB2 : Boxed ((X.setCell ⟨E, 0, none⟩ (.int .i64 e.1)).setCell ⟨E, 1, none⟩ (.int .i64 e.2.1)) B 4 u := (heap_set_other _ hne.symm).trans hB1
  have hB3 : Boxed (((X.setCell ⟨E, 0, none⟩ (.int .i64 e.1)).setCell ⟨E, 1, none⟩ (.int .i64 e.2.1)).setCell ⟨E, 2, none⟩ (.int .i64 e.2.2)) B 4 u := (heap_set_other _ hne.symm).trans hB2
  have hb : Below w1.heap.size w1 (((X.setCell ⟨E, 0, none⟩ (.int .i64 e.1)).setCell ⟨E, 1, none⟩ (.int .i64 e.2.1)).setCell ⟨E, 2, none⟩ (.int .i64 e.2.2)) := ((hx.setCell hEl _).setCell hEl _).setCell hEl _
  subst hW
  exact ⟨(heap_set_other v hne).trans h1, Boxed.set _ hB3, hb.setCell hBl _⟩
/-- What lies there behind the call of the table in memory. -/
def LastC (w1 : World) (a : En) (s : Bool) (p q : Value) (W : World) : Prop :=
  ∃ E B, p = .pointer (some ⟨E, 0, none⟩) ∧ q = .pointer (some ⟨B, 0, none⟩) ∧ E ≠ B ∧ w1.heap.size ≤ E ∧ w1.heap.size ≤ B ∧ EnB W E a ∧ Boxed W B 4 (.bool s) ∧ Below w1.heap.size w1 W
section
variable {w1 w3 : World} {a : En} {s : Bool} (T : Touch [] w1 w3)
include T
theorem lc1 : LastC w1 a s (.pointer (some ⟨w3.heap.size, 0, none⟩)) (.pointer (some ⟨(w3.heap.size + 1), 0, none⟩)) ((w3.alloc (.cells #[.int .i64 a.1, .int .i64 a.2.1, .int .i64 a.2.2] TEn)).alloc (.cells #[.bool s] 4)) := by
  refine ⟨_, _, rfl, rfl, by omega, T.size, by have := T.size; omega, heap_alloc_keep (heap_alloc_new w3 _) _, ?_, ((T.below (Nat.le_refl _) (by simp)).alloc T.size _).alloc (by have := T.size; simp; omega) _⟩
  have := Boxed.new (w3.alloc (.cells #[.int .i64 a.1, .int .i64 a.2.1, .int .i64 a.2.2] TEn)) 4 (.bool s)
  rwa [World.size_alloc] at this
theorem lc2 : LastC w1 a s (.pointer (some ⟨(w3.heap.size + 1), 0, none⟩)) (.pointer (some ⟨w3.heap.size, 0, none⟩)) ((w3.alloc (.cells #[.bool s] 4)).alloc (.cells #[.int .i64 a.1, .int .i64 a.2.1, .int .i64 a.2.2] TEn)) := by
  refine ⟨_, _, rfl, rfl, by omega, by have := T.size; omega, T.size, ?_, (Boxed.new w3 _ _).alloc _, ((T.below (Nat.le_refl _) (by simp)).alloc T.size _).alloc (by have := T.size; simp; omega) _⟩
  have := heap_alloc_new (w3.alloc (.cells #[.bool s] 4)) (.cells #[.int .i64 a.1, .int .i64 a.2.1, .int .i64 a.2.2] TEn)
  rwa [World.size_alloc] at this
theorem lc3 {e0 : En} (hE : EnB w3 w1.heap.size e0) (hn : w1.heap.size < w3.heap.size) : LastC w1 a s (.pointer (some ⟨w1.heap.size, 0, none⟩)) (.pointer (some ⟨w3.heap.size, 0, none⟩)) ((((w3.setCell ⟨w1.heap.size, 0, none⟩ (.int .i64 a.1)).setCell ⟨w1.heap.size, 1, none⟩ (.int .i64 a.2.1)).setCell ⟨w1.heap.size, 2, none⟩ (.int .i64 a.2.2)).alloc (.cells #[.bool s] 4)) := by
  have h1 := en_set hE a
  have hb : Below w1.heap.size w1 (((w3.setCell ⟨w1.heap.size, 0, none⟩ (.int .i64 a.1)).setCell ⟨w1.heap.size, 1, none⟩ (.int .i64 a.2.1)).setCell ⟨w1.heap.size, 2, none⟩ (.int .i64 a.2.2)) := (((T.below (Nat.le_refl _) (by simp)).setCell (Nat.le_refl _) _).setCell (Nat.le_refl _) _).setCell (Nat.le_refl _) _
  have hs : (((w3.setCell ⟨w1.heap.size, 0, none⟩ (.int .i64 a.1)).setCell ⟨w1.heap.size, 1, none⟩ (.int .i64 a.2.1)).setCell ⟨w1.heap.size, 2, none⟩ (.int .i64 a.2.2)).heap.size = w3.heap.size := by simp
  refine ⟨_, _, rfl, rfl, by omega, Nat.le_refl _, by omega, heap_alloc_keep h1 _, ?_, hb.alloc (by omega) _⟩
  have := Boxed.new (((w3.setCell ⟨w1.heap.size, 0, none⟩ (.int .i64 a.1)).setCell ⟨w1.heap.size, 1, none⟩ (.int .i64 a.2.1)).setCell ⟨w1.heap.size, 2, none⟩ (.int .i64 a.2.2)) 4 (.bool s)
  rwa [hs] at this
theorem lc4 {e0 : En} {u : Value} (hE : EnB w3 w1.heap.size e0) (hB : Boxed w3 (w1.heap.size + 1) 4 u) : LastC w1 a s (.pointer (some ⟨w1.heap.size, 0, none⟩)) (.pointer (some ⟨(w1.heap.size + 1), 0, none⟩)) ((((w3.setCell ⟨w1.heap.size, 0, none⟩ (.int .i64 a.1)).setCell ⟨w1.heap.size, 1, none⟩ (.int .i64 a.2.1)).setCell ⟨w1.heap.size, 2, none⟩ (.int .i64 a.2.2)).setCell ⟨(w1.heap.size + 1), 0, none⟩ (.bool s)) :=
  ⟨_, _, rfl, rfl, by omega, Nat.le_refl _, by omega, last_init a (.bool s) hE hB (by omega) (Nat.le_refl _) (by omega) (T.below (Nat.le_refl _) (by simp)) _ rfl⟩
theorem lc5 {u : Value} (hB : Boxed w3 w1.heap.size 4 u) (hn : w1.heap.size < w3.heap.size) : LastC w1 a s (.pointer (some ⟨w3.heap.size, 0, none⟩)) (.pointer (some ⟨w1.heap.size, 0, none⟩)) ((w3.setCell ⟨w1.heap.size, 0, none⟩ (.bool s)).alloc (.cells #[.int .i64 a.1, .int .i64 a.2.1, .int .i64 a.2.2] TEn)) := by
  have hs : (w3.setCell ⟨w1.heap.size, 0, none⟩ (.bool s)).heap.size = w3.heap.size := by simp
  refine ⟨_, _, rfl, rfl, by omega, T.size, Nat.le_refl _, ?_, (Boxed.set _ hB).alloc _, ((T.below (Nat.le_refl _) (by simp)).setCell (Nat.le_refl _) _).alloc (by omega) _⟩
  have := heap_alloc_new (w3.setCell ⟨w1.heap.size, 0, none⟩ (.bool s)) (.cells #[.int .i64 a.1, .int .i64 a.2.1, .int .i64 a.2.2] TEn)
  rwa [hs] at this
theorem lc6 {e0 : En} {u : Value} (hE : EnB w3 (w1.heap.size + 1) e0) (hB : Boxed w3 w1.heap.size 4 u) : LastC w1 a s (.pointer (some ⟨(w1.heap.size + 1), 0, none⟩)) (.pointer (some ⟨w1.heap.size, 0, none⟩)) ((((w3.setCell ⟨(w1.heap.size + 1), 0, none⟩ (.int .i64 a.1)).setCell ⟨(w1.heap.size + 1), 1, none⟩ (.int .i64 a.2.1)).setCell ⟨(w1.heap.size + 1), 2, none⟩ (.int .i64 a.2.2)).setCell ⟨w1.heap.size, 0, none⟩ (.bool s)) :=
  ⟨_, _, rfl, rfl, by omega, by omega, Nat.le_refl _, last_init a (.bool s) hE hB (by omega) (by omega) (Nat.le_refl _) (T.below (Nat.le_refl _) (by simp)) _ rfl⟩
end
/-- What one round keeps. -/
def LastK (w1 : World) (E B b : Nat) (xp : Value) (W : World) (o : Option En) (W' : World) : Prop := LastJ w1 w1.heap.size E B b xp o W' ∧ KpP (prB w1.heap.size b) W W' ∧ KeepsOthers W W'
theorem LastK.t0 {w1 W W' W'' : World} {E B b : Nat} {xp : Value} {o : Option En} (h : LastK w1 E B b xp W o W') (t : Touch [] W' W'') : LastK w1 E B b xp W o W'' :=
  ⟨⟨⟨touch_other t h.1.1.1 (by simp), h.1.1.2.1.kept t.grownBy (by simp), h.1.1.2.2.kept t.grownBy (by simp)⟩, below_touch h.1.2 h.1.2.size t⟩, h.2.1.trans (KpP.of_touch t (by simp)), h.2.2.trans (keeps_touch t)⟩
theorem kpP_set {n b : Nat} (W : World) {k i : Nat} (v : Value) (hk : n ≤ k) (hkb : k ≠ b) : KpP (prB n b) W (W.setCell ⟨k, i, none⟩ v) := by
  refine ⟨by simp, fun j hj _ => heap_set_other v (fun e => ?_)⟩
  subst e
  rcases hj with h | h
  · omega
  · exact hkb h
theorem LastK.put {w1 W W' : World} {E B b : Nat} {xp : Value} {o : Option En} (h : LastK w1 E B b xp W o W') (e : En) (hEB : E ≠ B) (hE : w1.heap.size ≤ E) (hB : w1.heap.size ≤ B) (hEb : E ≠ b) (hBb : B ≠ b) :
    LastK w1 E B b xp W (some e) ((((W'.setCell ⟨E, 0, none⟩ (.int .i64 e.1)).setCell ⟨E, 1, none⟩ (.int .i64 e.2.1)).setCell ⟨E, 2, none⟩ (.int .i64 e.2.2)).setCell ⟨B, 0, none⟩ (.bool true)) := by
  obtain ⟨⟨⟨h1, h2, h3⟩, h4⟩, h5, h6⟩ := h
  obtain ⟨k1, k2, k3⟩ := last_init e (.bool true) h1 h2 hEB hE hB h4 _ rfl
  refine ⟨⟨⟨k1, k2, ?_⟩, k3⟩, ?_, ?_⟩
  · have p1 : Boxed (W'.setCell ⟨E, 0, none⟩ (.int .i64 e.1)) b 28 xp := (heap_set_other _ hEb.symm).trans h3
    have p2 : Boxed ((W'.setCell ⟨E, 0, none⟩ (.int .i64 e.1)).setCell ⟨E, 1, none⟩ (.int .i64 e.2.1)) b 28 xp := (heap_set_other _ hEb.symm).trans p1
    have p3 : Boxed (((W'.setCell ⟨E, 0, none⟩ (.int .i64 e.1)).setCell ⟨E, 1, none⟩ (.int .i64 e.2.1)).setCell ⟨E, 2, none⟩ (.int .i64 e.2.2)) b 28 xp := (heap_set_other _ hEb.symm).trans p2
    exact (heap_set_other _ hBb.symm).trans p3
  · exact (((h5.trans (kpP_set _ _ hE hEb)).trans (kpP_set _ _ hE hEb)).trans (kpP_set _ _ hE hEb)).trans (kpP_set _ _ hB hBb)
  · exact (((h6.trans (KeepsOthers.setCell _ _ _)).trans (KeepsOthers.setCell _ _ _)).trans (KeepsOthers.setCell _ _ _)).trans (KeepsOthers.setCell _ _ _)
end Go.Proofs.Ytnkflmimnpolcaa

namespace Go.Proofs.Ytnkflmimnpolcaa
open Go.RowKit Go.Lib Go.Shelf
set_option maxRecDepth 100000
attribute [local go_sem] Oper.semAt_some

set_option maxHeartbeats 8000000 in
theorem last14_any (h : Int) (xb room most : Nat) (T : Tr) (L : List LvV) (w : World) (hI : IxAt w xb room most T L) (hs : SortedE T.io) (ht : ∀ t ∈ tabsL L, t.At w) (nL : L.length ≤ 1000000) (nT : (tabsL L).length ≤ 5000) :
    Calls Try.prog 13 #[.pointer (some ⟨xb, 0, none⟩), .int .i64 h] w fun r w' => r = .returned (lastV (lastT h (lastE T.io h) (tabsL L))) ∧ Touch [] w w' := by
  refine (callsIn_wide (n := 3)).1 ?_
  refine callsIn_of_wp_marks Try.func13 rfl trivial ?_ rfl
  simp only [Try.ntmps13, List.size_toArray, List.length_cons, List.length_nil, Nat.reduceAdd, Nat.reduceSub, Array.replicate_succ, Array.replicate_zero, List.push_toArray, List.append_toArray, List.nil_append, List.cons_append]
  obtain ⟨w1, hw1⟩ : ∃ w1, w1 = (w.alloc (.cells #[.int .i64 h] TInt)).alloc (.cells #[.int .i64 0, .int .i64 0, .int .i64 0] TEn) := ⟨_, rfl⟩
  have tw1 : Touch [] w w1 := by rw [hw1]; exact ((Touch.refl [] w).alloc _).alloc _
  have c3 : w1.cell? ⟨w.heap.size, 0, none⟩ = some (.int .i64 h) := by rw [hw1]; exact cell_of (heap_alloc_keep (heap_alloc_new w (.cells #[.int .i64 h] TInt)) _) 0
  have b4 : EnB w1 (w.heap.size + 1) (0, 0, 0) := by
    rw [hw1]
    have := heap_alloc_new (w.alloc (.cells #[.int .i64 h] TInt)) (.cells #[.int .i64 0, .int .i64 0, .int .i64 0] TEn)
    rwa [World.size_alloc] at this
  have HSZ : Hid (w1.heap.size = w.heap.size + 2) := hid (by rw [hw1]; simp)
  have hI1 := hI.t0 tw1
  have ht1 : ∀ t ∈ tabsL L, t.At w1 := fun t h => (ht t h).t0 tw1
  have T1 := hid tw1
  clear tw1 hI ht
  have CM := hid fun W => memory_any xb W
  have CL := hid fun W (k : Touch [] w1 W) => last_any h (p := some ⟨xb, 2, none⟩) W (hI1.t0 k).mem hs
  obtain ⟨o0, ho0⟩ : ∃ o0, o0 = lastE T.io h := ⟨_, rfl⟩
  obtain ⟨a0, ha0⟩ : ∃ a0, a0 = o0.getD (0, 0, 0) := ⟨_, rfl⟩
  obtain ⟨s0, hs0⟩ : ∃ s0, s0 = o0.isSome := ⟨_, rfl⟩
  have hV : lastV (lastE T.io h) = .tuple #[.agg #[.int .i64 a0.1, .int .i64 a0.2.1, .int .i64 a0.2.2], .bool s0] := by rw [ha0, hs0, ho0]; rfl
  rw [hV] at CL
  have HO := hid (⟨ho0, ha0, hs0⟩ : o0 = lastE T.io h ∧ a0 = o0.getD (0, 0, 0) ∧ s0 = o0.isSome)
  have HB4 := hid b4
  clear hV ho0 ha0 hs0 b4
  gi_upto_region 1 with fail
  rw [← hw1]
  clear hw1
  gi_cut [6, 7] from 11 (fun p q W => LastC w1 a0 s0 p q W)
  case first =>
    clear hI1 ht1
    refine wpIn_wide.2 ?_
    have TD : Touch [] w1 w1.drew := (Touch.refl [] w1).drew
    have q0 : w.heap.size < w1.heap.size := by have := HSZ.out; omega
    have m0 : ¬ w.heap.size = w1.heap.size := Nat.ne_of_lt q0
    have m0' : ¬ w1.heap.size = w.heap.size := Nat.ne_of_gt q0
    have m1 : ¬ w.heap.size = w1.heap.size + 1 := by omega
    have m1' : ¬ w1.heap.size + 1 = w.heap.size := by omega
    have KS : Hid (∀ w', Touch [] w1 w' → w'.cell? ⟨w.heap.size, 0, none⟩ = some (.int .i64 h)) := hid fun w' t => t.cell c3
    go_region_held3 (fun w' => w'.cell? ⟨w.heap.size, 0, none⟩ = some (.int .i64 h)) (first | go_keep | assumption) (first
      | (go_at_call 37; refine (CM.out _).mono ?_; rintro e w2 ⟨rfl, hh⟩; have hh := hh.symm; subst hh)
      | (go_at_call 14; refine (CL.out _ (by first | exact TD | exact ((Touch.refl [] w1).alloc _).drew | exact (((Touch.refl [] w1).alloc _).alloc _).drew)).mono ?_; rintro e w3 ⟨rfl, t3⟩; have TT3 : Touch [] w1 w3 := (by first | exact TD.trans t3 (by simp) | exact ((Touch.refl [] w1).alloc _).drew.trans t3 (by simp) | exact (((Touch.refl [] w1).alloc _).alloc _).drew.trans t3 (by simp)); have cc3 := TT3.cell c3; (first | (have hE3 : w3.heap[w1.heap.size]? = some (.cells #[.int .i64 0, .int .i64 0, .int .i64 0] TEn) := touch_other t3 (heap_alloc_keep (heap_alloc_new w1 _) _) (by simp); have hB3 : w3.heap[w1.heap.size + 1]? = some (.cells #[.bool false] 4) := touch_other t3 (by have := heap_alloc_new (w1.alloc (.cells #[.int .i64 0, .int .i64 0, .int .i64 0] TEn)) (.cells #[.bool false] 4); rwa [World.size_alloc] at this) (by simp); have cE0 : w3.cell? ⟨w1.heap.size, 0, none⟩ = some (.int .i64 0) := cell_of hE3 0; have fE0 : w3.frozen? ⟨w1.heap.size, 0, none⟩ = false := free_of hE3 0; have cE1 : w3.cell? ⟨w1.heap.size, 1, none⟩ = some (.int .i64 0) := cell_of hE3 1; have fE1 : w3.frozen? ⟨w1.heap.size, 1, none⟩ = false := free_of hE3 1; have cE2 : w3.cell? ⟨w1.heap.size, 2, none⟩ = some (.int .i64 0) := cell_of hE3 2; have fE2 : w3.frozen? ⟨w1.heap.size, 2, none⟩ = false := free_of hE3 2; have HE3 := hid hE3; clear hE3; have cB0 : w3.cell? ⟨w1.heap.size + 1, 0, none⟩ = some (.bool false) := cell_of hB3 0; have fB0 : w3.frozen? ⟨w1.heap.size + 1, 0, none⟩ = false := free_of hB3 0; have HB3 := hid hB3; clear hB3) | (have hB3 : w3.heap[w1.heap.size]? = some (.cells #[.bool false] 4) := touch_other t3 (heap_alloc_keep (heap_alloc_new w1 _) _) (by simp); have hE3 : w3.heap[w1.heap.size + 1]? = some (.cells #[.int .i64 0, .int .i64 0, .int .i64 0] TEn) := touch_other t3 (by have := heap_alloc_new (w1.alloc (.cells #[.bool false] 4)) (.cells #[.int .i64 0, .int .i64 0, .int .i64 0] TEn); rwa [World.size_alloc] at this) (by simp); have cB0 : w3.cell? ⟨w1.heap.size, 0, none⟩ = some (.bool false) := cell_of hB3 0; have fB0 : w3.frozen? ⟨w1.heap.size, 0, none⟩ = false := free_of hB3 0; have HB3 := hid hB3; clear hB3; have cE0 : w3.cell? ⟨w1.heap.size + 1, 0, none⟩ = some (.int .i64 0) := cell_of hE3 0; have fE0 : w3.frozen? ⟨w1.heap.size + 1, 0, none⟩ = false := free_of hE3 0; have cE1 : w3.cell? ⟨w1.heap.size + 1, 1, none⟩ = some (.int .i64 0) := cell_of hE3 1; have fE1 : w3.frozen? ⟨w1.heap.size + 1, 1, none⟩ = false := free_of hE3 1; have cE2 : w3.cell? ⟨w1.heap.size + 1, 2, none⟩ = some (.int .i64 0) := cell_of hE3 2; have fE2 : w3.frozen? ⟨w1.heap.size + 1, 2, none⟩ = false := free_of hE3 2; have HE3 := hid hE3; clear hE3) | (have hE3 : w3.heap[w1.heap.size]? = some (.cells #[.int .i64 0, .int .i64 0, .int .i64 0] TEn) := touch_other t3 (heap_alloc_new w1 _) (by simp); have cE0 : w3.cell? ⟨w1.heap.size, 0, none⟩ = some (.int .i64 0) := cell_of hE3 0; have fE0 : w3.frozen? ⟨w1.heap.size, 0, none⟩ = false := free_of hE3 0; have cE1 : w3.cell? ⟨w1.heap.size, 1, none⟩ = some (.int .i64 0) := cell_of hE3 1; have fE1 : w3.frozen? ⟨w1.heap.size, 1, none⟩ = false := free_of hE3 1; have cE2 : w3.cell? ⟨w1.heap.size, 2, none⟩ = some (.int .i64 0) := cell_of hE3 2; have fE2 : w3.frozen? ⟨w1.heap.size, 2, none⟩ = false := free_of hE3 2; have HE3 := hid hE3; clear hE3) | (have hB3 : w3.heap[w1.heap.size]? = some (.cells #[.bool false] 4) := touch_other t3 (heap_alloc_new w1 _) (by simp); have cB0 : w3.cell? ⟨w1.heap.size, 0, none⟩ = some (.bool false) := cell_of hB3 0; have fB0 : w3.frozen? ⟨w1.heap.size, 0, none⟩ = false := free_of hB3 0; have HB3 := hid hB3; clear hB3) | skip); (have k3 : w1.heap.size ≤ w3.heap.size := TT3.size; have m3 : ¬ w.heap.size = w3.heap.size := Nat.ne_of_lt (Nat.lt_of_lt_of_le q0 k3); have m3' : ¬ w3.heap.size = w.heap.size := Nat.ne_of_gt (Nat.lt_of_lt_of_le q0 k3); have m4 : ¬ w.heap.size = w3.heap.size + 1 := Nat.ne_of_lt (Nat.lt_succ_of_lt (Nat.lt_of_lt_of_le q0 k3))); (first | (have z0 : w1.heap.size < w3.heap.size := (by first | exact (Array.getElem?_eq_some_iff.1 HE3.out).1 | exact (Array.getElem?_eq_some_iff.1 HB3.out).1 | (have := (Array.getElem?_eq_some_iff.1 HE3.out).1; omega) | (have := (Array.getElem?_eq_some_iff.1 HB3.out).1; omega)); have n0 : ¬ w1.heap.size = w3.heap.size := Nat.ne_of_lt z0; have n0b : ¬ w3.heap.size = w1.heap.size := Nat.ne_of_gt z0) | skip); have T3 := hid t3; clear t3))
    all_goals (try gi_wp2)
    all_goals gi_meet
    all_goals first
      | with_reducible exact lc1 (a := a0) (s := s0) TT3
      | with_reducible exact lc2 (a := a0) (s := s0) TT3
      | ((with_reducible refine lc3 (a := a0) (s := s0) TT3 (e0 := (0, 0, 0)) ?_ z0); exact HE3.out)
      | ((with_reducible refine lc4 (a := a0) (s := s0) TT3 (e0 := (0, 0, 0)) (u := .bool false) ?_ ?_); (exact HE3.out); (exact HB3.out))
      | ((with_reducible refine lc5 (a := a0) (s := s0) TT3 (u := .bool false) ?_ z0); exact HB3.out)
      | ((with_reducible refine lc6 (a := a0) (s := s0) TT3 (e0 := (0, 0, 0)) (u := .bool false) ?_ ?_); (exact HE3.out); (exact HB3.out))
  case rest =>
    obtain ⟨E, B, rfl, rfl, hEB, hE, hB, hEc, hBc, hBel⟩ := hcut
    gi_wp2_with (refine ⟨trivial, ?_⟩; gi_at_call 35; refine (callsIn_wide.2 (tables_any xb _)).mono ?_; rintro r w' ⟨rfl, rfl⟩)
    obtain ⟨W0, hW0⟩ : ∃ W0, W0 = wc.alloc (.cells #[.pointer (some ⟨xb, 0, none⟩)] 28) := ⟨_, rfl⟩
    obtain ⟨b, hb⟩ : ∃ b, b = wc.heap.size := ⟨_, rfl⟩
    have hElt : E < wc.heap.size := (Array.getElem?_eq_some_iff.1 hEc).1
    have hBlt := hBc.lt
    have hwc := hBel.size
    have hB0 : Below w1.heap.size w1 W0 := by rw [hW0]; exact hBel.alloc hBel.size _
    have hsz : W0.heap.size = b + 1 := by rw [hW0, hb]; simp
    have e0 : EnB W0 E a0 := by rw [hW0]; exact heap_alloc_keep hEc _
    have e1 : Boxed W0 B 4 (.bool s0) := by rw [hW0]; exact hBc.alloc _
    have e2 : Boxed W0 b 28 (.pointer (some ⟨xb, 0, none⟩)) := by rw [hW0, hb]; exact Boxed.new _ _ _
    have hEb : E ≠ b := by omega
    have hBb : B ≠ b := by omega
    have hwb : w1.heap.size ≤ b := by omega
    rw [← hW0]
    rw [← hb]
    clear hW0 hEc hBc hBel hElt hBlt hwc hb CL CM
    refine wpIn_rangeFunc_ownH rfl (by decide) (gf := 56) (lb := #[.pointer (some ⟨b, 0, none⟩)]) rfl trivial (enters_of Try.func56 (by kernel_rfl) rfl)
      (tables_stops 2 b xb room most T L w1 hI1 ht1 nL (by omega) W0 (Touch.of_below hB0) e2.cell) KpP.trans (fun W l o o' hl1 hl ho _ => KpP.putObj W l o o' hl (fun h => by have := prB_lt (m := W0.heap.size) h (by omega) (by omega); omega)) (Below.refl _ _) (fun _ => rfl)
      (fun pre W => LastJ w1 w1.heap.size E B b (.pointer (some ⟨xb, 0, none⟩)) (lastT h o0 (pre.map Subtype.val)) W)
      (fun _ _ _ => False)
      (lastJ_own w1 w1.heap.size E B b _ (fun pre : List (TabG w1) => lastT h o0 (pre.map Subtype.val)) _ (Nat.le_refl _) (by omega))
      (fun _ _ _ _ _ hs _ _ => hs)
      ⟨⟨by have := HO.out.2.1; subst this; exact e0, by have := HO.out.2.2; subst this; exact e1, e2⟩, hB0⟩
      (fun x a' W => a' = { tmps := #[.pointer (some ⟨xb, 0, none⟩), .int .i64 h, undef, .pointer (some ⟨w.heap.size, 0, none⟩), .pointer (some ⟨w.heap.size + 1, 0, none⟩), .bool false, .pointer (some ⟨E, 0, none⟩), .pointer (some ⟨B, 0, none⟩), x.1.val, undef, undef, u11, u12, u13, u14, u15, u16, u17, .pointer (some ⟨xb, 0, none⟩), .func (.func 56) #[] #[.pointer (some ⟨b, 0, none⟩)], x.1.val, u21, u22, u23, u24, u25, u26, u27, u28, u29, u30, u31, u32, u33, u34, u35, u36, u37, u38, u39], defers := [] })
      (fun x a' _ X Y row hs hg hr => hs)
      ?assign ?body ?done ?stop
    case assign =>
      rintro l pre x W K hIp hK
      gi_wp2
      exact hK _ _ (KeepsFrom.refl _ _) (KpP.refl _ _) hIp rfl
    case body =>
      rintro l pre ⟨⟨tx, tc, tl⟩, tat⟩ a' W hl hlr hJ ha hlt
      unfold TabV.val at ha
      dsimp only at ha
      subst ha
      have TB := Touch.of_below hJ.2
      have CT := hid (tablast_any ⟨tx, tc, tl⟩ h W (tat.t0 TB))
      have c3W := TB.cell c3
      have hZ : Hid (lastT h o0 ((pre ++ [(⟨⟨tx, tc, tl⟩, tat⟩ : TabG w1)]).map Subtype.val) = mxE (lastT h o0 (pre.map Subtype.val)) (tl.filter fun e => decide (e.1 = h)).getLast?) := hid (by rw [List.map_append, List.map_singleton, lastT_snoc])
      have K0 : Hid (LastK w1 E B b (.pointer (some ⟨xb, 0, none⟩)) W (lastT h o0 (pre.map Subtype.val)) W) := hid ⟨hJ, KpP.refl _ _, KeepsOthers.refl _⟩
      clear hJ TB
      unfold TabV.val at CT
      dsimp only at CT
      generalize lastT h o0 (pre.map Subtype.val) = o at *
      generalize (tl.filter fun e => decide (e.1 = h)).getLast? = y at *
      obtain ⟨e, he⟩ : ∃ e, e = y.getD (0, 0, 0) := ⟨_, rfl⟩
      obtain ⟨s, hs1⟩ : ∃ s, s = y.isSome := ⟨_, rfl⟩
      have hV : lastV y = .tuple #[.agg #[.int .i64 e.1, .int .i64 e.2.1, .int .i64 e.2.2], .bool s] := by rw [he, hs1]; rfl
      rw [hV] at CT
      have HY := hid (⟨he, hs1⟩ : e = y.getD (0, 0, 0) ∧ s = y.isSome)
      clear hV he hs1
      refine wpIn_block ?_
      gi_upto_region 5 with (refine ⟨trivial, ?_⟩; gi_at_call 38; refine ((callsIn_wide.2 CT.out).inRound l).mono ?_; rintro r w3 ⟨rfl, t3⟩; have T3 := hid t3; clear t3)
      obtain ⟨w5, hw5⟩ : ∃ w5, w5 = w3.alloc (.cells #[.int .i64 e.1, .int .i64 e.2.1, .int .i64 e.2.2] TEn) := ⟨_, rfl⟩
      obtain ⟨x5, hx5⟩ : ∃ x5, x5 = w3.heap.size := ⟨_, rfl⟩
      have t5 : Touch [] W w5 := by rw [hw5]; exact T3.out.alloc _
      have EB : EnB w5 x5 e := by rw [hw5, hx5]; exact heap_alloc_new w3 _
      have K5 := K0.out.t0 t5
      rw [← hw5]
      rw [← hx5]
      clear hw5 hx5 t5 K0 T3 CT c3W
      obtain ⟨q1, q2, q3⟩ := EB.c
      obtain ⟨⟨k1, k2, -⟩, -⟩ := K5.1
      obtain ⟨l1, l2, l3⟩ := EnB.c k1
      have g1 : w5.frozen? ⟨E, 0, none⟩ = false := free_of k1 0
      have g2 : w5.frozen? ⟨E, 1, none⟩ = false := free_of k1 1
      have g3 : w5.frozen? ⟨E, 2, none⟩ = false := free_of k1 2
      have cB := k2.cell
      have fB := k2.frozen
      have K6 := hid K5
      have HEB := hid EB
      clear K5 EB k1 k2
      rcases y with _ | e'
      · obtain ⟨rfl, rfl⟩ := HY.out
        clear HY
        dsimp only [Option.isSome, Option.getD] at *
        gi_wp2
        all_goals first
          | (exfalso; rename_i h1 h2; exact absurd (Option.some.inj h1) (by simp [undef]))
          | skip
        · refine ⟨trivial, ?_⟩
          gi_wp2
          have e2 : mxE o none = o := by cases o <;> rfl
          exact ⟨K6.out.2.2.from _, K6.out.2.1, by dsimp only; rw [hZ.out, e2]; exact K6.out.1⟩
      · obtain ⟨he, rfl⟩ := HY.out
        obtain rfl : e = e' := he
        clear HY
        rcases o with _ | x
        · dsimp only [Option.isSome, Option.getD] at *
          gi_wp2_with fail
          refine ⟨trivial, ?_⟩
          gi_wp2_with fail
          have KP := K6.out.put e hEB hE hB hEb hBb
          have e2 : mxE none (some e) = some e := rfl
          exact ⟨KP.2.2.from _, KP.2.1, by dsimp only; rw [hZ.out, e2]; exact KP.1⟩
        · dsimp only [Option.isSome, Option.getD] at *
          by_cases hlt : ltE x e
          · have hd : decide (ltE x e) = true := by simpa using hlt
            have CS := hid fun W => less_any x e W
            rw [hd] at CS
            gi_wp2_with (refine ⟨trivial, ?_⟩; gi_at_call 39; refine ((callsIn_wide.2 (CS.out _)).inRound l).mono ?_; rintro r w6 ⟨rfl, t6⟩; obtain ⟨r1, r2, r3⟩ := EnB.c (show EnB w6 x5 e from touch_other t6 HEB.out (by simp)); have K7 := hid (K6.out.t0 t6); have g1' : w6.frozen? ⟨E, 0, none⟩ = false := free_of K7.out.1.1.1 0; have g2' : w6.frozen? ⟨E, 1, none⟩ = false := free_of K7.out.1.1.1 1; have g3' : w6.frozen? ⟨E, 2, none⟩ = false := free_of K7.out.1.1.1 2; obtain ⟨l1', l2', l3'⟩ := EnB.c K7.out.1.1.1; have cB' := K7.out.1.1.2.1.cell; have fB' := K7.out.1.1.2.1.frozen; clear t6)
            have KP := K7.out.put e hEB hE hB hEb hBb
            have e2 : mxE (some x) (some e) = some e := by simp [mxE, hlt]
            exact ⟨KP.2.2.from _, KP.2.1, by dsimp only; rw [hZ.out, e2]; exact KP.1⟩
          · have hd : decide (ltE x e) = false := by simpa using hlt
            have CS := hid fun W => less_any x e W
            rw [hd] at CS
            gi_wp2_with (refine ⟨trivial, ?_⟩; gi_at_call 39; refine ((callsIn_wide.2 (CS.out _)).inRound l).mono ?_; rintro r w6 ⟨rfl, t6⟩; obtain ⟨r1, r2, r3⟩ := EnB.c (show EnB w6 x5 e from touch_other t6 HEB.out (by simp)); have K7 := hid (K6.out.t0 t6); have g1' : w6.frozen? ⟨E, 0, none⟩ = false := free_of K7.out.1.1.1 0; have g2' : w6.frozen? ⟨E, 1, none⟩ = false := free_of K7.out.1.1.1 1; have g3' : w6.frozen? ⟨E, 2, none⟩ = false := free_of K7.out.1.1.1 2; obtain ⟨l1', l2', l3'⟩ := EnB.c K7.out.1.1.1; have cB' := K7.out.1.1.2.1.cell; have fB' := K7.out.1.1.2.1.frozen; clear t6)
            have e2 : mxE (some x) (some e) = some x := by simp [mxE, hlt]
            exact ⟨K7.out.2.2.from _, K7.out.2.1, by dsimp only; rw [hZ.out, e2]; exact K7.out.1⟩
    case done =>
      rintro D ys W hD rfl hJ hK
      rw [gtabs_val] at hJ
      obtain ⟨o, ho⟩ : ∃ o, o = lastT h o0 (tabsL L) := ⟨_, rfl⟩
      rw [← ho] at hJ
      have HOo := hid ho
      clear ho
      obtain ⟨⟨k1, k2, k3⟩, k4⟩ := hJ
      have B4 : EnB W (w.heap.size + 1) (0, 0, 0) := touch_other (Touch.of_below k4) HB4.out (by simp)
      obtain ⟨l1, l2, l3⟩ := EnB.c k1
      obtain ⟨r1, r2, r3⟩ := EnB.c B4
      have g1 : W.frozen? ⟨w.heap.size + 1, 0, none⟩ = false := free_of B4 0
      have g2 : W.frozen? ⟨w.heap.size + 1, 1, none⟩ = false := free_of B4 1
      have g3 : W.frozen? ⟨w.heap.size + 1, 2, none⟩ = false := free_of B4 2
      have cB := k2.cell
      have hsw := HSZ.out
      have n1 : ¬ E = w.heap.size + 1 := by omega
      have n2 : ¬ B = w.heap.size + 1 := by omega
      have n3 : ¬ w.heap.size + 1 = E := by omega
      have n4 : ¬ w.heap.size + 1 = B := by omega
      have KK := hid (⟨B4, k4⟩ : EnB W (w.heap.size + 1) (0, 0, 0) ∧ Below w1.heap.size w1 W)
      clear k1 k2 k3 k4 B4
      obtain ⟨e, he⟩ : ∃ e, e = o.getD (0, 0, 0) := ⟨_, rfl⟩
      obtain ⟨s, hs1⟩ : ∃ s, s = o.isSome := ⟨_, rfl⟩
      rw [← he] at l1 l2 l3
      rw [← hs1] at cB
      have hV : lastV o = .tuple #[.agg #[.int .i64 e.1, .int .i64 e.2.1, .int .i64 e.2.2], .bool s] := by rw [he, hs1]; rfl
      have HV := hid hV
      clear hV he hs1
      gi_upto_region 7 with fail
      refine wpIn_wide.2 ?_
      go_region_held3 (fun w' => (w'.cell? ⟨E, 0, none⟩ = some (.int .i64 e.1) ∧ w'.cell? ⟨E, 1, none⟩ = some (.int .i64 e.2.1) ∧ w'.cell? ⟨E, 2, none⟩ = some (.int .i64 e.2.2)) ∧ w'.cell? ⟨B, 0, none⟩ = some (.bool s)) (first | go_keep | assumption) (fail)
      gi_wp2
      obtain ⟨WW, hWW⟩ : ∃ WW, WW = ((W.setCell ⟨w.heap.size + 1, 0, none⟩ (.int .i64 e.1)).setCell ⟨w.heap.size + 1, 1, none⟩ (.int .i64 e.2.1)).setCell ⟨w.heap.size + 1, 2, none⟩ (.int .i64 e.2.2) := ⟨_, rfl⟩
      have hEW : EnB WW (w.heap.size + 1) e := by rw [hWW]; exact en_set KK.out.1 e
      have hx : w.heap.size ≤ w.heap.size + 1 := by omega
      have hTW : Touch [] w WW := by
        rw [hWW]
        exact (((T1.out.trans (Touch.of_below KK.out.2) (by simp)).setCell (p := ⟨w.heap.size + 1, 0, none⟩) (.inr hx) _).setCell (p := ⟨w.heap.size + 1, 1, none⟩) (.inr hx) _).setCell (p := ⟨w.heap.size + 1, 2, none⟩) (.inr hx) _
      have hDR : D ≠ w.heap.size + 1 := by omega
      have hKW : WW.heap[D]? = W.heap[D]? := by
        rw [hWW]
        exact (heap_set_other _ hDR).trans ((heap_set_other _ hDR).trans (heap_set_other _ hDR))
      rw [hK] at hKW
      rw [← hWW]
      clear hWW l1 l2 l3 r1 r2 r3 g1 g2 g3 cB
      refine ⟨by simp, .inl ⟨_, _, rfl, run_takeDeferred (w := WW.drew) hKW, ?_⟩⟩
      have hE2 : EnB (WW.drew.putObj D (.deferred none)) (w.heap.size + 1) e := (World.putObj_heap_other hDR.symm).trans hEW
      obtain ⟨r0, r1, r2⟩ := hE2.c
      refine ⟨.tuple #[.agg #[.int .i64 e.1, .int .i64 e.2.1, .int .i64 e.2.2], .bool s], ?_, ?_, ?_⟩
      · simp [results, Try.results13, go_sem, r0, r1, r2]
      · rw [← HO.out.1, ← HOo.out, HV.out]
      · exact Touch.of_below ((hTW.drew.below (Nat.le_refl _) (by simp)).trans (belowK_b (w := w) (Nat.le_refl _) WW.drew D _ _ (by omega) hKW rfl rfl))
    case stop =>
      rintro D c pre W _ _ h _
      exact h.elim
end Go.Proofs.Ytnkflmimnpolcaa

namespace Go.Proofs.Ytnkflmimnpolcaa
open Go.RowKit Go.Lib Go.Shelf
set_option maxRecDepth 100000

theorem ixs_last {w : World} {xb room most : Nat} {S : List En} {M : Nat} {C : List Nat} (h : IxS w xb room most S M C) (hS : OkS S C) (h5 : S.length ≤ 5000) (a : Int) :
    Calls Try.prog 13 #[.pointer (some ⟨xb, 0, none⟩), .int .i64 a] w fun r w' => r = .returned (lastV (lastE S a)) ∧ Touch [] w w' := by
  obtain ⟨T, L, h1, h2, h3, h4, h5'⟩ := h.ex
  obtain ⟨g1, g2, g3, g4, g5⟩ := ixs_tabs h1 hS h3 h5'
  have hl := h3.length_eq
  rw [List.length_append] at hl
  have g6 := tabs_le (tabsL L) fun t ht => (g1 t ht).good.2.2.1
  have := last14_any a xb room most T L w h1 h2 g1 (by omega) (by omega)
  have hm : IsL T.io a (lastE T.io a) := by
    rw [last_list h2]
    exact isL_last h2 a
  have hs : IsL S a (lastE S a) := by
    rw [last_list hS.s]
    exact isL_last hS.s a
  rw [isL_one (isL_tabs (fun t ht => (g1 t ht).good.1) hm) hs (fun e => h3.mem_iff)] at this
  exact this
end Go.Proofs.Ytnkflmimnpolcaa
