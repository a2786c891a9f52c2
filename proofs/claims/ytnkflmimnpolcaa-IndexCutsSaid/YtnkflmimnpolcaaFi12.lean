/- Where a version stands. -/
import Derived.Test.YtnkflmimnpolcaaAt12
namespace Go.Proofs.Ytnkflmimnpolcaa
open Go.RowKit Go.Lib Go.Shelf
set_option maxRecDepth 100000
attribute [local go_sem] Oper.semAt_some

abbrev TInt : TypeId := 3
abbrev TInts : TypeId := 23
theorem infoInt : (Try.prog.info? TInt).map (fun i => (i.zero, i.size, i.bytes)) = some (some (.int .i64 0), 1, 8) := by kernel_rfl
def posV (l : List En) : List Value := l.map fun e => .int .i64 e.2.2
def isHV (h v : Int) (e : En) : Bool := decide (e.1 = h) && decide (e.2.1 = v)
theorem takeWhile_all {α : Type} {m : α → Bool} : ∀ {l : List α}, (∀ x ∈ l, m x = true) → l.takeWhile m = l
  | [], _ => rfl
  | x :: l, h => by rw [List.takeWhile_cons, if_pos (h x (by simp)), takeWhile_all fun y hy => h y (by simp [hy])]
theorem takeWhile_stop {α : Type} {m : α → Bool} {l r : List α} {x : α} (h : ∀ y ∈ l, m y = true) (hx : m x = false) : (l ++ x :: r).takeWhile m = l := by
  induction l with
  | nil => simp [hx]
  | cons y l ih => rw [List.cons_append, List.takeWhile_cons, if_pos (h y (by simp)), ih fun z hz => h z (by simp [hz])]

/-- What a round keeps that appends to a row of another kind. -/
theorem kp_append_other {W w1 : World} {base n P c sz : Nat} {v u : Value} {y : Option Addr} {t e : TypeId} {xs news : List Value} {tmp : Obj} (hrow : W.ownsRow base e sz v n xs) (he1 : e ≠ TEn) (he2 : e ≠ 67)
    (hG : Grew (W.alloc tmp) w1 base e sz v (.slice y (n + 1) c) n 1 xs news) (hv : Boxed w1 P t v) (h1 : t ≠ TEn) (h2 : t ≠ 67) : KpE W (w1.setCell ⟨P, 0, none⟩ u) := by
  have k1 : KpE W (W.alloc tmp) := KpE.of_touch ((Touch.refl [] W).alloc tmp)
  have k3 : KpE w1 (w1.setCell ⟨P, 0, none⟩ u) := by
    refine ⟨by simp, fun k o hk ⟨cs, ho⟩ => ?_⟩
    have hne : k ≠ P := by
      rintro rfl
      have hb : w1.heap[k]? = some (.cells #[v] t (0, 0)) := hv
      rw [hb] at hk
      cases hk
      rcases ho with ⟨ho, _⟩ | ho
      · cases ho; exact h1 rfl
      · cases ho; exact h2 rfl
    exact (heap_set_other u hne).trans hk
  refine (k1.trans ?_).trans k3
  rcases hG.at' with ⟨_, hgr, _⟩ | ⟨_, hgr⟩
  · refine ⟨hgr.size, fun k o hk ⟨cs, ho⟩ => ?_⟩
    refine (hgr.block k (lt_of_block hk) ?_).trans hk
    intro e
    rcases (hrow.alloc tmp).2 with ⟨hvn, _⟩ | ⟨g, cap, cur, hvg, _, hg, _⟩
    · rw [hvn] at e; cases e
    · rw [hvg] at e
      have e' : k = g := by simpa [Value.ownBlock] using e
      subst e'
      rw [hg] at hk
      cases hk
      rcases ho with ⟨ho, _⟩ | ho
      · cases ho; exact he1 rfl
      · cases ho; exact he2 rfl
  · exact ⟨hgr.size, fun k o hk _ => (hgr.block k (lt_of_block hk) (by simp)).trans hk⟩
theorem own_mono {w : World} {a b : Nat} {e : TypeId} {size n : Nat} {v : Value} {xs : List Value} (h : w.ownsRow b e size v n xs) (hab : a ≤ b) : w.ownsRow a e size v n xs := by
  refine ⟨h.1, ?_⟩
  rcases h.2 with h | ⟨g, cap, cur, hv, hb, r⟩
  · exact .inl h
  · exact .inr ⟨g, cap, cur, hv, Nat.le_trans hab hb, r⟩
/-- What the loop of Find holds. -/
def FindI (w : World) (h v : Int) (pre : List En) (W : World) : Prop :=
  ((∃ u, Boxed W (w.heap.size + 1 + 1) TInts u ∧ W.ownsRow (w.heap.size + 1 + 1 + 1) TInt 1 u pre.length (posV pre) ∧ (pre.length = 0 → u = .slice none 0 0)) ∧ Boxed W w.heap.size TInt (.int .i64 h) ∧ Boxed W (w.heap.size + 1) TInt (.int .i64 v) ∧ ∀ e ∈ pre, isHV h v e = true) ∧ Below w.heap.size w W
theorem findI_own (w : World) (h v : Int) (B : Nat) (hB : w.heap.size ≤ B) : OwnFrom B (FindI w h v) := by
  refine OwnFrom.and (OwnFrom.and (Own.from (holdsRow_own (w.heap.size + 1 + 1 + 1) (w.heap.size + 1 + 1) TInts TInt 1 (fun pre => pre.length) (fun pre => posV pre) (fun pre u => pre.length = 0 → u = .slice none 0 0)) _) (OwnFrom.and (Own.from (boxed_own _ _ (fun _ => Value.int .i64 h)) _) (OwnFrom.and (Own.from (boxed_own _ _ (fun _ => Value.int .i64 v)) _) (fun s A C row hs _ _ => hs)))) (ownFrom_below (Nat.le_refl _) hB)

set_option maxHeartbeats 2000000 in
theorem find_any (h v : Int) (p : Option Addr) (T : Tr) (hT : SortedE T.io) (hlen : T.io.length ≤ 1000000) (w : World) (ht : TabAt w p T) :
    Calls Try.prog 20 #[.pointer p, .int .i64 h, .int .i64 v] w fun e w' => ∃ u, e = .returned u ∧ w'.ownsRow w.heap.size TInt 1 u ((fromE T.io (h, v, 0)).takeWhile (isHV h v)).length (posV ((fromE T.io (h, v, 0)).takeWhile (isHV h v))) ∧ Touch [] w w' := by
  obtain ⟨i0, hi, hz0, hz1, hz2⟩ := info_parts infoInt
  refine (callsIn_wide (n := 3)).1 ?_
  refine callsIn_of_wp_marks Try.func20 rfl trivial ?_ rfl
  simp only [Try.ntmps20, List.size_toArray, List.length_cons, List.length_nil, Nat.reduceAdd, Nat.reduceSub, Array.replicate_succ, Array.replicate_zero, List.push_toArray, List.append_toArray, List.nil_append, List.cons_append]
  gi_wp2_with (refine ⟨trivial, ?_⟩; gi_at_call 44; refine (callsIn_wide.2 (tabfrom_any p (h, v, 0) _)).mono ?_; rintro e w' ⟨rfl, rfl⟩)
  obtain ⟨W0, hW0⟩ : ∃ W0, W0 = ((((w.alloc (.cells #[.int .i64 h] TInt)).alloc (.cells #[.int .i64 v] TInt)).alloc (.cells #[.slice none 0 0] TInts)).alloc (.cells #[.pointer p] 25)).alloc (.cells #[.int .i64 h, .int .i64 v, .int .i64 0] TEn) := ⟨_, rfl⟩
  have hB0 : Below w.heap.size w W0 := by rw [hW0]; exact (((((Below.refl _ w).alloc (Nat.le_refl _) _).alloc (by simp) _).alloc (by simp; omega) _).alloc (by simp; omega) _).alloc (by simp; omega) _
  have hsz : W0.heap.size = w.heap.size + 5 := by rw [hW0]; simp
  have e0 : Boxed W0 w.heap.size TInt (.int .i64 h) := by rw [hW0]; exact ((((Boxed.new w TInt _).alloc _).alloc _).alloc _).alloc _
  have e1 : Boxed W0 (w.heap.size + 1) TInt (.int .i64 v) := by
    rw [hW0]
    have := Boxed.new (w.alloc (.cells #[.int .i64 h] TInt)) TInt (.int .i64 v)
    rw [World.size_alloc] at this
    exact ((this.alloc _).alloc _).alloc _
  have e2 : Boxed W0 (w.heap.size + 1 + 1) TInts (.slice none 0 0) := by
    rw [hW0]
    have := Boxed.new ((w.alloc (.cells #[.int .i64 h] TInt)).alloc (.cells #[.int .i64 v] TInt)) TInts (.slice none 0 0)
    rw [World.size_alloc, World.size_alloc] at this
    exact (this.alloc _).alloc _
  have e3 : W0.cell? ⟨w.heap.size + 1 + 1 + 1, 0, none⟩ = some (.pointer p) := by
    rw [hW0]
    have := Boxed.new (((w.alloc (.cells #[.int .i64 h] TInt)).alloc (.cells #[.int .i64 v] TInt)).alloc (.cells #[.slice none 0 0] TInts)) 25 (.pointer p)
    rw [World.size_alloc, World.size_alloc, World.size_alloc] at this
    exact (this.alloc _).cell
  have e4 : EnB W0 (w.heap.size + 1 + 1 + 1 + 1) (h, v, 0) := by rw [hW0]; exact new_at _ _ _ (by simp)
  have ht0 : TabAt W0 p T := ht.t0 (Touch.of_below hB0)
  rw [← hW0]
  clear hW0
  refine wpIn_rangeFunc_ownH rfl (by decide) (gf := 62) (lb := #[.pointer (some ⟨w.heap.size + 1 + 1 + 1, 0, none⟩), .pointer (some ⟨w.heap.size + 1 + 1 + 1 + 1, 0, none⟩)]) rfl trivial (enters_of Try.func62 (by kernel_rfl) rfl)
    (tab_stops 2 (h, v, 0) T hT p W0 (w.heap.size + 1 + 1 + 1) (w.heap.size + 1 + 1 + 1 + 1) e3 (by omega) e4 ht0) KpE.trans (fun W l o o' _ hl ho _ => KpE.putObj W l o o' hl ho) (Below.refl _ _) (fun _ => rfl)
    (FindI w h v)
    (fun c pre W => c = .exit 0 ∧ ∃ pre' x, pre = pre' ++ [x] ∧ isHV h v x = false ∧ FindI w h v pre' W)
    (findI_own w h v _ (by omega))
    (fun _ s A C row hs hg hr => by obtain ⟨h0, pre', x, h1, h2, h3⟩ := hs; exact ⟨h0, pre', x, h1, h2, findI_own w h v W0.heap.size (by omega) pre' A C row h3 hg hr⟩)
    ⟨⟨⟨_, e2, World.ownsRow_nil _ _ _ _, fun _ => rfl⟩, e0, e1, by simp⟩, hB0⟩
    (fun x a' W => ∃ Bx, EnB W Bx x ∧ a' = { tmps := #[.pointer p, .int .i64 h, .int .i64 v, undef, .pointer (some ⟨w.heap.size, 0, none⟩), .pointer (some ⟨w.heap.size + 1, 0, none⟩), .slice none 0 0, .pointer (some ⟨w.heap.size + 1 + 1, 0, none⟩), .pointer (some ⟨Bx, 0, none⟩), .pointer p, .int .i64 h, .int .i64 v, enV (h, v, 0), .func (.func 62) #[] #[.pointer (some ⟨w.heap.size + 1 + 1 + 1, 0, none⟩), .pointer (some ⟨w.heap.size + 1 + 1 + 1 + 1, 0, none⟩)], enV x, undef, undef, undef, undef, undef, undef, undef, undef, undef, undef, undef, undef, undef, undef, undef, undef], defers := [] })
    (fun x a' _ X Y row hs hg hr => by
      obtain ⟨Bx, h1, h2⟩ := hs
      refine ⟨Bx, ?_, h2⟩
      refine (hg.block Bx (lt_of_block h1) ?_).trans h1
      intro e
      obtain ⟨_, o, ho, hc⟩ := hr Bx e.symm
      rw [h1] at ho
      cases ho
      cases hc)
    ?assign ?body ?done ?stop
  case assign =>
    rintro l pre x W K ⟨⟨⟨u, hv, hrow, hz⟩, b0, b1, hm⟩, hB⟩ hK
    gi_wp2
    exact hK _ _ ((KeepsOthers.alloc _ _).from _) (KpE.of_touch ((Touch.refl [] W).alloc _)) ⟨⟨⟨_, hv.alloc _, hrow.alloc _, hz⟩, b0.alloc _, b1.alloc _, hm⟩, hB.alloc hB.size _⟩ ⟨W.heap.size, heap_alloc_new W _, rfl⟩
  case body =>
    rintro l pre ⟨xh, xv, xp⟩ a' W hl hlr hI ⟨Bx, hBx, rfl⟩ hlt
    have hI0 := hid hI
    obtain ⟨⟨⟨u, hv, hrow, hz⟩, b0, b1, hm⟩, hB⟩ := hI
    have hc := hv.cell
    have hc0 := b0.cell
    have hc1 := b1.cell
    obtain ⟨q0, q1, q2⟩ := hBx.c
    have hfl := from_len T.io (h, v, 0)
    by_cases h1 : xh = h
    · by_cases h2 : xv = v
      · subst h1 h2
        gi_wp2_with (gi_at_builtin; refine wpListIn_append_full _ rfl _ _ TInts rfl (w.heap.size + 1 + 1 + 1) TInt i0 (.int .i64 0) 1 8 Try.underlying23 hi hz0 hz1 hz2 rfl (by decide) _ _ _ rfl (hrow.alloc _) ⟨W.heap.size, 0, none⟩ 1 1 [.int .i64 xp] rfl rfl (cell_one_new _ _ _) (by intro u hu; simp at hu; rcases hu with rfl; rfl) (by omega) (by decide) (by have := hv.lt; simp; omega) ?_; intro y c w1 hG; have hgr : World.grownBy (W.alloc (.cells #[.int .i64 xp] TInt)) w1 u.ownBlock := hG.grown; obtain ⟨hv1, hv2, hr2, hk2, hb2⟩ := hv.appended (n₀ := w.heap.size) (by decide) (own_mono hrow (by omega)) hB.size (by omega) (own_mono hG.own (by omega)) hgr; have hc1 := hv1.cell; have hf1 := hv1.frozen; have hkp := fun u' => kp_append_other (u := u') hrow (by decide) (by decide) hG hv1 (by decide) (by decide); )
        have b02 : Boxed w1 w.heap.size TInt (.int .i64 xh) := (b0.alloc _).kept hgr (fun e => by have := (hrow.lt _ e.symm).1; omega)
        have b12 : Boxed w1 (w.heap.size + 1) TInt (.int .i64 xv) := (b1.alloc _).kept hgr (fun e => by have := (hrow.lt _ e.symm).1; omega)
        refine ⟨hk2.from _, hkp _, ⟨⟨_, hv2, ?_, by simp⟩, (heap_set_other _ (by simp; omega)).trans b02, (heap_set_other _ (by simp)).trans b12, ?_⟩, hB.trans hb2⟩
        · have := hG.own.kept (grownBy_setCell' w1 (w.heap.size + 1 + 1) (.slice y (pre.length + 1) c)) (.inr (hv1.not_row (by decide) hG.own).symm)
          simpa [posV] using this
        · intro e he
          rcases List.mem_append.1 he with he | he
          · exact hm e he
          · simp at he
            subst he
            simp [isHV]
      · gi_wp2
        exact ⟨KeepsFrom.refl _ _, rfl, pre, _, _, _, rfl, by simp [isHV, h2], hI0.out⟩
    · gi_wp2
      exact ⟨KeepsFrom.refl _ _, rfl, pre, _, _, _, rfl, by simp [isHV, h1], hI0.out⟩
  case done =>
    rintro D ys W hD rfl ⟨⟨⟨u, hv, hrow, hz⟩, b0, b1, hm⟩, hB⟩ hK
    have hc := hv.cell
    gi_wp2
    refine ⟨by simp, .inl ⟨_, _, rfl, run_takeDeferred hK, ?_⟩⟩
    rw [takeWhile_all hm]
    exact ⟨_, results_tmp rfl _ _ _, u, rfl, ownsRow_putObj (own_mono hrow (by omega)) _ hK rfl, Touch.of_below (hB.trans (belowK_b (w := w) (Nat.le_refl _) W D _ _ (by omega) hK rfl rfl))⟩
  case stop =>
    rintro D c pre W hD hpre ⟨rfl, pre', x, rfl, hx, ⟨⟨u, hv, hrow, hz⟩, b0, b1, hm⟩, hB⟩ hK
    obtain ⟨r, hr⟩ := hpre
    have hc := hv.cell
    have htk : (fromE T.io (h, v, 0)).takeWhile (isHV h v) = pre' := by rw [← hr, List.append_assoc]; exact takeWhile_stop hm hx
    gi_wp2
    refine ⟨by simp, .inl ⟨_, _, rfl, run_takeDeferred hK, ?_⟩⟩
    rw [htk]
    exact ⟨_, results_tmp rfl _ _ _, u, rfl, ownsRow_putObj (own_mono hrow (by omega)) _ hK rfl, Touch.of_below (hB.trans (belowK_b (w := w) (Nat.le_refl _) W D _ _ (by omega) hK rfl rfl))⟩
end Go.Proofs.Ytnkflmimnpolcaa
