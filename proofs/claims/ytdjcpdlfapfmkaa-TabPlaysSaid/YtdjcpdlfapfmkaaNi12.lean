/- Of a nil tab. -/
import Derived.Test.YtdjcpdlfapfmkaaPu12
namespace Go.Proofs.Ytdjcpdlfapfmkaa
open Go.RowKit Go.Lib Go.Shelf
set_option maxRecDepth 100000
attribute [local go_sem] Oper.semAt_some

theorem addnil_any (v : Value) (w : World) : Calls Try.prog 14 #[.pointer none, v] w fun e w' => e = .returned (.int .i64 0) ∧ Touch [] w w' := by
  go_enter Try.func14, Try.ntmps14
  go_wp2
  go_ret
  exact ⟨rfl, Touch.refl _ _⟩
set_option maxHeartbeats 2000000 in
theorem rangenil_any (h f t : Int) (w : World) :
    Calls Try.prog 17 #[.pointer none, .int .i64 h, .int .i64 f, .int .i64 t] w fun e w' => e = .returned (.slice none 0 0) ∧ Touch [] w w' := by
  refine (callsIn_wide (n := 3)).1 ?_
  refine callsIn_of_wp_marks Try.func17 rfl trivial ?_ rfl
  simp only [Try.ntmps17, List.size_toArray, List.length_cons, List.length_nil, Nat.reduceAdd, Nat.reduceSub, Array.replicate_succ, Array.replicate_zero, List.push_toArray, List.append_toArray, List.nil_append, List.cons_append]
  gi_wp2_with (refine ⟨trivial, ?_⟩; gi_at_call 40; refine (callsIn_wide.2 (tabfrom_any none (h, f, 0) _)).mono ?_; rintro e w' ⟨rfl, rfl⟩)
  obtain ⟨W0, hW0⟩ : ∃ W0, W0 = ((((w.alloc (.cells #[.int .i64 h] TInt)).alloc (.cells #[.int .i64 t] TInt)).alloc (.cells #[.slice none 0 0] TEns)).alloc (.cells #[.pointer none] 24)).alloc (.cells #[.int .i64 h, .int .i64 f, .int .i64 0] TEn) := ⟨_, rfl⟩
  have hB0 : Below w.heap.size w W0 := by rw [hW0]; exact (((((Below.refl _ w).alloc (Nat.le_refl _) _).alloc (by simp) _).alloc (by simp; omega) _).alloc (by simp; omega) _).alloc (by simp; omega) _
  have hsz : W0.heap.size = w.heap.size + 5 := by rw [hW0]; simp
  have e2 : Boxed W0 (w.heap.size + 1 + 1) TEns (.slice none 0 0) := by
    rw [hW0]
    have := Boxed.new ((w.alloc (.cells #[.int .i64 h] TInt)).alloc (.cells #[.int .i64 t] TInt)) TEns (.slice none 0 0)
    rw [World.size_alloc, World.size_alloc] at this
    exact (this.alloc _).alloc _
  have e3 : W0.cell? ⟨w.heap.size + 1 + 1 + 1, 0, none⟩ = some (.pointer none) := by
    rw [hW0]
    have := Boxed.new (((w.alloc (.cells #[.int .i64 h] TInt)).alloc (.cells #[.int .i64 t] TInt)).alloc (.cells #[.slice none 0 0] TEns)) 24 (.pointer none)
    rw [World.size_alloc, World.size_alloc, World.size_alloc] at this
    exact (this.alloc _).cell
  have e4 : EnB W0 (w.heap.size + 1 + 1 + 1 + 1) (h, f, 0) := by rw [hW0]; exact new_at _ _ _ (by simp)
  rw [← hW0]
  clear hW0
  refine wpIn_rangeFunc_ownH rfl (by decide) (gf := 90) (lb := #[.pointer (some ⟨w.heap.size + 1 + 1 + 1, 0, none⟩), .pointer (some ⟨w.heap.size + 1 + 1 + 1 + 1, 0, none⟩)]) rfl trivial (enters_of Try.func90 (by kernel_rfl) rfl)
    (tab_stops 2 (h, f, 0) .nil (by simp [Tr.io]) none W0 (w.heap.size + 1 + 1 + 1) (w.heap.size + 1 + 1 + 1 + 1) e3 (by omega) e4 (.inl ⟨rfl, rfl⟩)) KpE.trans (fun W l o o' _ hl ho _ => KpE.putObj W l o o' hl ho) (Below.refl _ _) (fun _ => rfl)
    (fun pre W => Boxed W (w.heap.size + 1 + 1) TEns (.slice none 0 0) ∧ Below w.heap.size w W)
    (fun _ _ _ => False)
    (OwnFrom.and (Own.from (boxed_own _ _ (fun _ => Value.slice none 0 0)) _) (ownFrom_below (Nat.le_refl _) (by omega)))
    (fun _ _ _ _ _ hs _ _ => hs)
    ⟨e2, hB0⟩
    (fun x a' W => True) (fun _ _ _ _ _ _ _ _ _ => trivial)
    ?assign ?body ?done ?stop
  case assign =>
    rintro l pre x W K ⟨b2, hB⟩ hK
    gi_wp2
    exact hK _ _ ((KeepsOthers.alloc _ _).from _) (KpE.of_touch ((Touch.refl [] W).alloc _)) ⟨b2.alloc _, hB.alloc hB.size _⟩ trivial
  case body =>
    rintro l pre x a' W hl hlr hI _ hlt
    simp [Tr.io, fromE] at hlt
  case done =>
    rintro D ys W hD _ ⟨b2, hB⟩ hK
    have hc := b2.cell
    gi_wp2
    refine ⟨by simp, .inl ⟨_, _, rfl, run_takeDeferred hK, ?_⟩⟩
    exact ⟨_, results_tmp rfl _ _ _, rfl, Touch.of_below (hB.trans (belowK_b (w := w) (Nat.le_refl _) W D _ _ (by omega) hK rfl rfl))⟩
  case stop =>
    rintro D c pre W _ _ h _
    exact h.elim
set_option maxHeartbeats 2000000 in
theorem cutnil_any (q : Int) (w : World) :
    Calls Try.prog 10 #[.pointer none, .int .i64 q] w fun e w' => e = .returned (.int .i64 0) ∧ Touch [] w w' := by
  refine (callsIn_wide (n := 3)).1 ?_
  refine callsIn_of_wp_marks Try.func10 rfl trivial ?_ rfl
  simp only [Try.ntmps10, List.size_toArray, List.length_cons, List.length_nil, Nat.reduceAdd, Nat.reduceSub, Array.replicate_succ, Array.replicate_zero, List.push_toArray, List.append_toArray, List.nil_append, List.cons_append]
  gi_wp2_with (refine ⟨trivial, ?_⟩; gi_at_call 40; refine (callsIn_wide.2 (tabfrom_any none (0, 0, 0) _)).mono ?_; rintro e w' ⟨rfl, rfl⟩)
  obtain ⟨W0, hW0⟩ : ∃ W0, W0 = (((w.alloc (.cells #[.int .i64 q] TInt)).alloc (.cells #[.slice none 0 0] TEns)).alloc (.cells #[.pointer none] 24)).alloc (.cells #[.int .i64 0, .int .i64 0, .int .i64 0] TEn) := ⟨_, rfl⟩
  have hB0 : Below w.heap.size w W0 := by rw [hW0]; exact ((((Below.refl _ w).alloc (Nat.le_refl _) _).alloc (by simp) _).alloc (by simp; omega) _).alloc (by simp; omega) _
  have hsz : W0.heap.size = w.heap.size + 4 := by rw [hW0]; simp
  have e2 : Boxed W0 (w.heap.size + 1) TEns (.slice none 0 0) := by
    rw [hW0]
    have := Boxed.new (w.alloc (.cells #[.int .i64 q] TInt)) TEns (.slice none 0 0)
    rw [World.size_alloc] at this
    exact (this.alloc _).alloc _
  have e3 : W0.cell? ⟨w.heap.size + 1 + 1, 0, none⟩ = some (.pointer none) := by
    rw [hW0]
    have := Boxed.new ((w.alloc (.cells #[.int .i64 q] TInt)).alloc (.cells #[.slice none 0 0] TEns)) 24 (.pointer none)
    rw [World.size_alloc, World.size_alloc] at this
    exact (this.alloc _).cell
  have e4 : EnB W0 (w.heap.size + 1 + 1 + 1) (0, 0, 0) := by rw [hW0]; exact new_at _ _ _ (by simp)
  rw [← hW0]
  clear hW0
  refine wpIn_rangeFunc_ownH rfl (by decide) (gf := 90) (lb := #[.pointer (some ⟨w.heap.size + 1 + 1, 0, none⟩), .pointer (some ⟨w.heap.size + 1 + 1 + 1, 0, none⟩)]) rfl trivial (enters_of Try.func90 (by kernel_rfl) rfl)
    (tab_stops 2 (0, 0, 0) .nil (by simp [Tr.io]) none W0 (w.heap.size + 1 + 1) (w.heap.size + 1 + 1 + 1) e3 (by omega) e4 (.inl ⟨rfl, rfl⟩)) KpE.trans (fun W l o o' _ hl ho _ => KpE.putObj W l o o' hl ho) (Below.refl _ _) (fun _ => rfl)
    (fun pre W => Boxed W (w.heap.size + 1) TEns (.slice none 0 0) ∧ Below w.heap.size w W)
    (fun _ _ _ => False)
    (OwnFrom.and (Own.from (boxed_own _ _ (fun _ => Value.slice none 0 0)) _) (ownFrom_below (Nat.le_refl _) (by omega)))
    (fun _ _ _ _ _ hs _ _ => hs)
    ⟨e2, hB0⟩
    (fun x a' W => True) (fun _ _ _ _ _ _ _ _ _ => trivial)
    ?assign ?body ?done ?stop
  case assign =>
    rintro l pre x W K ⟨b2, hB⟩ hK
    gi_wp2
    exact hK _ _ ((KeepsOthers.alloc _ _).from _) (KpE.of_touch ((Touch.refl [] W).alloc _)) ⟨b2.alloc _, hB.alloc hB.size _⟩ trivial
  case body =>
    rintro l pre x a' W hl hlr hI _ hlt
    simp [Tr.io, fromE] at hlt
  case done =>
    rintro D ys W hD _ ⟨b2, hB⟩ hK
    have hc := b2.cell
    obtain ⟨ι, f, ⟨θ0, hθ0⟩, inst, FT, FE⟩ := held_class W
    have F1 : ∀ θ, (f θ).cell? ⟨w.heap.size + 1, 0, none⟩ = some (.slice none 0 0) := fun θ => (FT.out θ).cell hc
    have KD : ∀ θ, (f θ).heap[D]? = some (.deferred (some [])) := fun θ => touch_other (FT.out θ) hK (by simp)
    have LR : Hid (∀ θ, Calls Try.prog 28 #[.pointer none] (f θ) fun e w'' => e = .returned (.int .i64 0) ∧ ∃ θ', w'' = f θ') := hid fun θ => (tablen_any (p := none) (T := .nil) (f θ) (.inl ⟨rfl, rfl⟩)).mono fun e w'' ⟨he, h2⟩ => ⟨he, θ, h2⟩
    have TT := hid fun θ => (Touch.of_below hB).trans (FT.out θ) (by simp)
    gi_wp2_with fail
    refine (wpIn_wide (n := 3)).2 ?_
    refine wp_region_held f θ0 (by kernel_rfl) (by kernel_rfl) hθ0 ?_
    repeat go_big_quiet_step (exact LR.out _)
    refine wpQuiet_nil ?_
    rintro _ ⟨θ, rfl⟩
    have k1 := F1 θ
    have k2 := KD θ
    have k3 := hid (TT.out θ)
    generalize f θ = w6 at *
    clear F1 KD TT LR FT FE hθ0
    gi_wp2
    refine ⟨by simp, .inl ⟨_, _, rfl, run_takeDeferred k2, ?_⟩⟩
    exact ⟨_, results_tmp rfl _ _ _, rfl, k3.out.grown (grownBy_putObj' w6 D _) (fun k e => by cases e; right; omega)⟩
  case stop =>
    rintro D c pre W _ _ h _
    exact h.elim
end Go.Proofs.Ytdjcpdlfapfmkaa
