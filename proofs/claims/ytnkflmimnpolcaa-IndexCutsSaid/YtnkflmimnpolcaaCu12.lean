/- Entries cut off a tab. -/
import Derived.Test.YtnkflmimnpolcaaOs12
import Derived.Test.YtnkflmimnpolcaaPu12
namespace Go.Proofs.Ytnkflmimnpolcaa
open Go.RowKit Go.Lib Go.Shelf
set_option maxRecDepth 100000
attribute [local go_sem] Oper.semAt_some

theorem TabIn.put {W : World} {tb O D : Nat} {cs : Array Value} {ty : TypeId} {T : Tr} {o o' : Obj} (h : TabIn W tb O cs ty T) (hD : W.heap[D]? = some o) (ho : o.isCells = false := by rfl) : TabIn (W.putObj D o') tb O cs ty T := by
  have tD : Touch [D] W (W.putObj D o') := (Touch.refl [D] W).grown (grownBy_putObj' W D o') (fun k e => by cases e; left; simp)
  obtain ⟨h1, h3, r, h4, h2⟩ := h
  refine ⟨touch_other tD h1 ?_, h3, r, h4, h2.touch tD ?_⟩
  · intro hm
    simp at hm
    subst hm
    rw [h1] at hD
    cases hD
    simp [Obj.isCells] at ho
  · intro b hb ⟨cs, hcs⟩
    simp at hb
    subst hb
    rw [hD] at hcs
    cases hcs
    simp [Obj.isCells] at ho
/-- What a cut leaves. -/
def cutL (l : List En) (q : Int) : List En := l.filter fun e => decide (e.2.2 < q)
def CutI (w : World) (q : Int) (pre : List En) (W : World) : Prop :=
  ((∃ u, Boxed W (w.heap.size + 1) TEns u ∧ W.ownsRow (w.heap.size + 1 + 1) TEn 3 u (cutL pre q).length (envals (cutL pre q)) ∧ ((cutL pre q).length = 0 → u = .slice none 0 0)) ∧ Boxed W w.heap.size TInt (.int .i64 q)) ∧ Below w.heap.size w W
theorem cutI_own (w : World) (q : Int) (B : Nat) (hB : w.heap.size ≤ B) : OwnFrom B (CutI w q) := by
  refine OwnFrom.and (OwnFrom.and (Own.from (holdsRow_own (w.heap.size + 1 + 1) (w.heap.size + 1) TEns TEn 3 (fun pre => (cutL pre q).length) (fun pre => envals (cutL pre q)) (fun pre u => (cutL pre q).length = 0 → u = .slice none 0 0)) _) (Own.from (boxed_own _ _ (fun _ => Value.int .i64 q)) _)) (ownFrom_below (Nat.le_refl _) hB)
theorem cutL_len (l : List En) (q : Int) : (cutL l q).length ≤ l.length := List.length_filter_le _ _

set_option maxHeartbeats 4000000 in
theorem cut_any (q : Int) (tb o : Nat) (cs : Array Value) (ty : TypeId) (T : Tr) (hT : SortedE T.io) (hA : fromE T.io (0, 0, 0) = T.io) (hlen : T.io.length ≤ 500000) (w : World) (ht : TabIn w tb o cs ty T) :
    Calls Try.prog 24 #[.pointer (some ⟨tb, o, none⟩), .int .i64 q] w fun e w' => ∃ T' cs', (cs' = cs ∨ ∃ r, cs' = cs.setIfInBounds o (.pointer r)) ∧ e = .returned (.int .i64 ((T.io.length - (cutL T.io q).length : Nat) : Int)) ∧ TabIn w' tb o cs' ty T' ∧ T'.io = cutL T.io q ∧ Touch [tb] w w' := by
  obtain ⟨i0, hi, hz0, hz1, hz2⟩ := info_parts infoEn
  refine (callsIn_wide (n := 3)).1 ?_
  refine callsIn_of_wp_marks Try.func24 rfl trivial ?_ rfl
  simp only [Try.ntmps24, List.size_toArray, List.length_cons, List.length_nil, Nat.reduceAdd, Nat.reduceSub, Array.replicate_succ, Array.replicate_zero, List.push_toArray, List.append_toArray, List.nil_append, List.cons_append]
  gi_wp2_with (refine ⟨trivial, ?_⟩; gi_at_call 44; refine (callsIn_wide.2 (tabfrom_any (some ⟨tb, o, none⟩) (0, 0, 0) _)).mono ?_; rintro e w' ⟨rfl, rfl⟩)
  obtain ⟨W0, hW0⟩ : ∃ W0, W0 = (((w.alloc (.cells #[.int .i64 q] TInt)).alloc (.cells #[.slice none 0 0] TEns)).alloc (.cells #[.pointer (some ⟨tb, o, none⟩)] 25)).alloc (.cells #[.int .i64 0, .int .i64 0, .int .i64 0] TEn) := ⟨_, rfl⟩
  have hB0 : Below w.heap.size w W0 := by rw [hW0]; exact ((((Below.refl _ w).alloc (Nat.le_refl _) _).alloc (by simp) _).alloc (by simp; omega) _).alloc (by simp; omega) _
  have hsz : W0.heap.size = w.heap.size + 4 := by rw [hW0]; simp
  have e0 : Boxed W0 w.heap.size TInt (.int .i64 q) := by rw [hW0]; exact (((Boxed.new w TInt _).alloc _).alloc _).alloc _
  have ht0 : TabAt W0 (some ⟨tb, o, none⟩) T := (ht.t0 (Touch.of_below hB0)).at
  have e2 : Boxed W0 (w.heap.size + 1) TEns (.slice none 0 0) := by
    rw [hW0]
    have := Boxed.new (w.alloc (.cells #[.int .i64 q] TInt)) TEns (.slice none 0 0)
    rw [World.size_alloc] at this
    exact (this.alloc _).alloc _
  have e3 : W0.cell? ⟨w.heap.size + 1 + 1, 0, none⟩ = some (.pointer (some ⟨tb, o, none⟩)) := by
    rw [hW0]
    have := Boxed.new ((w.alloc (.cells #[.int .i64 q] TInt)).alloc (.cells #[.slice none 0 0] TEns)) 25 (.pointer (some ⟨tb, o, none⟩))
    rw [World.size_alloc, World.size_alloc] at this
    exact (this.alloc _).cell
  have e4 : EnB W0 (w.heap.size + 1 + 1 + 1) (0, 0, 0) := by rw [hW0]; exact new_at _ _ _ (by simp)
  rw [← hW0]
  clear hW0
  refine wpIn_rangeFunc_ownH rfl (by decide) (gf := 62) (lb := #[.pointer (some ⟨w.heap.size + 1 + 1, 0, none⟩), .pointer (some ⟨w.heap.size + 1 + 1 + 1, 0, none⟩)]) rfl trivial (enters_of Try.func62 (by kernel_rfl) rfl)
    (tab_stops 2 (0, 0, 0) T hT (some ⟨tb, o, none⟩) W0 (w.heap.size + 1 + 1) (w.heap.size + 1 + 1 + 1) e3 (by omega) e4 ht0) KpE.trans (fun W l o o' _ hl ho _ => KpE.putObj W l o o' hl ho) (Below.refl _ _) (fun _ => rfl)
    (CutI w q)
    (fun _ _ _ => False)
    (cutI_own w q _ (by omega))
    (fun _ _ _ _ _ hs _ _ => hs)
    ⟨⟨⟨_, e2, World.ownsRow_nil _ _ _ _, fun _ => rfl⟩, e0⟩, hB0⟩
    (fun x a' W => ∃ Bx, EnB W Bx x ∧ a' = { tmps := #[.pointer (some ⟨tb, o, none⟩), .int .i64 q, undef, .pointer (some ⟨w.heap.size, 0, none⟩), .int .i64 0, .pointer (some ⟨w.heap.size + 1, 0, none⟩), .pointer (some ⟨Bx, 0, none⟩), undef, .pointer (some ⟨tb, o, none⟩), enV (0, 0, 0), .func (.func 62) #[] #[.pointer (some ⟨w.heap.size + 1 + 1, 0, none⟩), .pointer (some ⟨w.heap.size + 1 + 1 + 1, 0, none⟩)], enV x, undef, undef, undef, undef, undef, undef, undef, undef, undef, undef, undef, undef, undef, undef, undef, undef, undef, undef, undef, undef, undef], defers := [] })
    (fun x a' _ X Y row hs hg hr => by
      obtain ⟨Bx, h1, h2⟩ := hs
      refine ⟨Bx, ?_, h2⟩
      refine (hg.block Bx (lt_of_block h1) ?_).trans h1
      intro e
      obtain ⟨_, o, ho, hc⟩ := hr Bx e.symm
      rw [h1] at ho
      cases ho
      cases hc)
    ?assign ?body ?done ?stop
  case assign =>
    rintro l pre x W K ⟨⟨⟨u, hv, hrow, hz⟩, b0⟩, hB⟩ hK
    gi_wp2
    exact hK _ _ ((KeepsOthers.alloc _ _).from _) (KpE.of_touch ((Touch.refl [] W).alloc _)) ⟨⟨⟨_, hv.alloc _, hrow.alloc _, hz⟩, b0.alloc _⟩, hB.alloc hB.size _⟩ ⟨W.heap.size, heap_alloc_new W _, rfl⟩
  case body =>
    rintro l pre ⟨xh, xv, xp⟩ a' W hl hlr hI ⟨Bx, hBx, rfl⟩ hlt
    have hI0 := hid hI
    obtain ⟨⟨⟨u, hv, hrow, hz⟩, b0⟩, hB⟩ := hI
    have hc := hv.cell
    have hc0 := b0.cell
    obtain ⟨q0, q1, q2⟩ := hBx.c
    have hfl := from_len T.io (0, 0, 0)
    have hcl := cutL_len pre q
    by_cases h1 : xp < q
    · have h3 : decide (xp < q) = true := by rw [decide_eq_true_eq]; omega
      have hsn : cutL (pre ++ [(xh, xv, xp)]) q = cutL pre q ++ [(xh, xv, xp)] := by unfold cutL; rw [List.filter_append]; simp [h1]
      gi_wp2_with (gi_at_builtin; refine wpListIn_append_full _ rfl _ _ TEns rfl (w.heap.size + 1 + 1) TEn i0 (.agg #[.int .i64 0, .int .i64 0, .int .i64 0]) 3 24 Try.underlying22 hi hz0 hz1 hz2 rfl (by decide) _ _ _ rfl (hrow.alloc _) ⟨W.heap.size, 0, none⟩ 1 1 (enc3 (xh, xv, xp)) rfl rfl (enc3_cell W (xh, xv, xp)) (by intro u hu; simp [enc3] at hu; rcases hu with rfl | rfl | rfl <;> rfl) (by omega) (by decide) (by have := hv.lt; simp; omega) ?_; intro y c w1 hG; have hgr : World.grownBy (W.alloc (.cells #[.int .i64 xh, .int .i64 xv, .int .i64 xp] TEn)) w1 u.ownBlock := hG.grown; obtain ⟨hv1, hv2, hr2, hk2, hb2⟩ := hv.appended (n₀ := w.heap.size) (by decide) (own_mono hrow (by omega)) hB.size (by omega) (own_mono hG.own (by omega)) hgr; have hc1 := hv1.cell; have hf1 := hv1.frozen; have hkp := fun u' => kp_append (u := u') hrow hz hG hv1 (by decide) (by decide))
      have b02 : Boxed w1 w.heap.size TInt (.int .i64 q) := (b0.alloc _).kept hgr (fun e => by have := (hrow.lt _ e.symm).1; omega)
      refine ⟨hk2.from _, hkp _, ⟨⟨_, hv2, ?_, by rw [hsn]; simp⟩, (heap_set_other _ (by simp)).trans b02⟩, hB.trans hb2⟩
      have := hG.own.kept (grownBy_setCell' w1 (w.heap.size + 1) (.slice y ((cutL pre q).length + 1) c)) (.inr (hv1.not_row (by decide) hG.own).symm)
      rw [hsn, envals_append]
      simpa [envals] using this
    · have h3 : decide (xp < q) = false := by rw [decide_eq_false_iff_not]; omega
      have hsn : cutL (pre ++ [(xh, xv, xp)]) q = cutL pre q := by unfold cutL; rw [List.filter_append]; simp [h1]
      gi_wp2
      exact ⟨KeepsFrom.refl _ _, KpE.of_touch (Touch.refl _ _), ⟨⟨⟨u, hv, by rw [hsn]; exact hrow, by rw [hsn]; exact hz⟩, b0⟩, hB⟩⟩
  case done =>
    rintro D ys W hD rfl ⟨⟨⟨u, hv, hrow, hz⟩, b0⟩, hB⟩ hK
    rw [hA] at hrow hz
    have hc := hv.cell
    have hcl := cutL_len T.io q
    have hnc : ∀ y n c, u = .slice y n c → (cutL T.io q).length ≤ c := by
      intro y n c e
      rcases hrow.2 with ⟨e2, h0⟩ | ⟨g, cap, cur, e2, _, _, hn, _⟩
      · rw [h0]; exact Nat.zero_le _
      · rw [e2] at e; cases e; exact hn
    obtain ⟨y, c, rfl, -, hx⟩ := entX_own hrow
    have hcc := hnc _ _ _ rfl
    have hW := ht.t0 (Touch.of_below hB)
    obtain ⟨ι, f, ⟨θ0, hθ0⟩, inst, FT, FE⟩ := held_class W
    have F1 : ∀ θ, (f θ).cell? ⟨w.heap.size + 1, 0, none⟩ = some (.slice y (cutL T.io q).length c) := fun θ => (FT.out θ).cell hc
    have KD : ∀ θ, (f θ).heap[D]? = some (.deferred (some [])) := fun θ => touch_other (FT.out θ) hK (by simp)
    have LR : Hid (∀ θ, Calls Try.prog 22 #[.pointer (some ⟨tb, o, none⟩)] (f θ) fun e w'' => e = .returned (.int .i64 T.io.length) ∧ ∃ θ', w'' = f θ') := hid fun θ => by
      have := tablen_any (f θ) (hW.t0 (FT.out θ)).at
      rw [T.ct_io] at this
      exact this.mono fun e w'' ⟨he, h2⟩ => ⟨he, θ, h2⟩
    have TT := hid fun θ => (Touch.of_below hB).trans (FT.out θ) (by simp)
    have XX := hid fun θ => hx.t0 (FT.out θ)
    have HW := hid fun θ => hW.t0 (FT.out θ)
    have hsub : IntKind.i64.wrap ((T.io.length : Int) - ((cutL T.io q).length : Int)) = ((T.io.length - (cutL T.io q).length : Nat) : Int) := by
      rw [Int.ofNat_sub hcl]
      exact IntWalk.i64_in _ (by omega)
    clear hrow hx hnc hz hB hv b0 hW
    have hfull : Hid ((cutL T.io q).length = T.io.length → T.io = cutL T.io q) := hid fun h => by
      unfold cutL at h ⊢
      exact (List.filter_eq_self.2 (List.length_filter_eq_length_iff.1 h)).symm
    generalize hKK : cutL T.io q = K at *
    have HKK := hid hKK
    have htb : Hid (tb < w.heap.size) := hid (lt_of_block ht.hb)
    have hDw : Hid (w.heap.size ≤ D) := hid (by omega)
    clear hKK
    gi_wp2_with fail
    refine (wpIn_wide (n := 3)).2 ?_
    refine wp_region_held f θ0 (by kernel_rfl) (by kernel_rfl) hθ0 ?_
    repeat go_big_quiet_step (exact LR.out _)
    refine wpQuiet_nil ?_
    rintro _ ⟨θ, rfl⟩
    have k1 := F1 θ
    have k2 := KD θ
    have k3 := hid (TT.out θ)
    have k4 := hid (XX.out θ)
    have k5 := hid (HW.out θ)
    generalize f θ = w6 at *
    clear F1 KD TT LR FT FE hθ0 XX HW hK hc
    by_cases hg : K.length < T.io.length
    · have g1 : decide ((0 : Int) < ((T.io.length - K.length : Nat) : Int)) = true := by rw [decide_eq_true_eq]; omega
      have g2 : decide (0 < T.io.length - K.length) = true := by rw [decide_eq_true_eq]; omega
      have OF := hid (ofs_any K.length K y c w6 (Nat.le_refl _) hcc (by omega) k4.out)
      gi_wp2_with (refine ⟨trivial, ?_⟩; gi_at_call 48; refine (callsIn_wide.2 OF.out).mono ?_; clear OF; rintro e w8 ⟨p1, T', rfl, h1, e1, t8⟩; have H8 := hid (k5.out.t0 t8); obtain ⟨rr, z2, -⟩ := (k5.out.t0 t8).cell; have z3 := free_of (k5.out.t0 t8).hb o; have T8 := hid t8; have R8 := hid h1; have E8 := hid e1; have D8 := touch_other t8 k2 (by simp); clear h1 e1 t8)
      have D9 : (w8.setCell ⟨tb, o, none⟩ (.pointer p1)).heap[D]? = some (.deferred (some [])) := (heap_set_other _ (by have := htb.out; have := hDw.out; simp; omega)).trans D8
      refine ⟨by simp, .inl ⟨_, _, rfl, run_takeDeferred D9, ?_⟩⟩
      exact ⟨_, results_tmp rfl _ _ _, T', _, .inr ⟨_, rfl⟩, by rw [HKK.out]; rfl, (H8.out.set R8.out).put D9, E8.out.trans HKK.out.symm, ((((k3.out.trans T8.out (by simp)).mono (G := [tb]) (by simp)).setCell (p := ⟨tb, o, none⟩) (.inl (by simp)) _)).grown (grownBy_putObj' _ D _) (fun k e => by cases e; exact .inr hDw.out)⟩
    · have g1 : decide ((0 : Int) < ((T.io.length - K.length : Nat) : Int)) = false := by rw [decide_eq_false_iff_not]; omega
      have g2 : decide (0 < T.io.length - K.length) = false := by rw [decide_eq_false_iff_not]; omega
      have g3 : T.io.length - K.length = 0 := by omega
      have hio := hid (hfull.out (by omega))
      gi_wp2
      refine ⟨by simp, .inl ⟨_, _, rfl, run_takeDeferred k2, ?_⟩⟩
      exact ⟨_, results_tmp rfl _ _ _, T, cs, .inl rfl, by rw [HKK.out]; rfl, k5.out.put k2, hio.out.trans HKK.out.symm, (k3.out.mono (G := [tb]) (by simp)).grown (grownBy_putObj' _ D _) (fun k e => by cases e; exact .inr hDw.out)⟩
  case stop =>
    rintro D c pre W _ _ h _
    exact h.elim
end Go.Proofs.Ytnkflmimnpolcaa
