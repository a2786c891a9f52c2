/- codec.Out, further: 'put' into a zero one, 'fail', 'number'. -/
import Derived.Test.YtmaainnfflapiaaOut
namespace Go.Proofs.Ytmaainnfflapiaa
set_option maxRecDepth 100000
open Go.RowKit Go.Lib

/-- A pool that holds nothing yet: what 'put' lays ahead of the append. -/
def Fresh (o : Nat) (w w2 : World) : Prop := ∃ p g cap, w2.heap[o]? = some (.cells #[.pointer (some ⟨p, 0, none⟩), .int .i64 0, .int .i64 0] tOut (0, 0)) ∧ w2.heap[p]? = some (.cells #[.slice (some ⟨g, 0, none⟩) 0 cap] tPool (0, 0)) ∧
  Bts tByte w2 g cap [] ∧ w.heap.size ≤ p ∧ w.heap.size ≤ g ∧ p ≠ g ∧ Touch [o] w w2

theorem fresh_of {o cap n : Nat} {w W : World} (h : w.heap[o]? = some (.cells #[.pointer none, .int .i64 0, .int .i64 0] tOut (0, 0))) (hW : W = bytesWorld (w.drewN n) tByte ⟨#[]⟩) (hc : cap = grownCap (w.drewN n) 0 0 tByte) :
    Fresh o w ((W.setCell ⟨o, 0, none⟩ (.pointer (some ⟨w.heap.size + 1, 0, none⟩))).alloc (.cells #[.slice (some ⟨w.heap.size, 0, none⟩) 0 cap] tPool)) := by
  subst hc
  have holt := lt_of_block h
  have hs : (w.drewN n).heap.size = w.heap.size := by rw [drewN_heap]
  have hWs : W.heap.size = w.heap.size + 1 := by rw [hW, bytesWorld_size, hs]
  have hWo : W.heap[o]? = some (.cells #[.pointer none, .int .i64 0, .int .i64 0] tOut (0, 0)) := by rw [hW, bytesWorld_at_old _ _ _ o (by rw [hs]; exact holt), drewN_heap]; exact h
  have hB : Bts tByte W w.heap.size (grownCap (w.drewN n) 0 0 tByte) [] := by
    have := bts_bytesWorld tByte (w.drewN n) ⟨#[]⟩ (by decide)
    rw [hs, ← hW] at this
    exact this
  have hss : (W.setCell ⟨o, 0, none⟩ (.pointer (some ⟨w.heap.size + 1, 0, none⟩))).heap.size = w.heap.size + 1 := by rw [World.size_setCell]; exact hWs
  refine ⟨w.heap.size + 1, w.heap.size, grownCap (w.drewN n) 0 0 tByte, ?_, ?_, ?_, by omega, Nat.le_refl _, by omega, ?_⟩
  · rw [Below.heap_alloc _ _ _ (by rw [hss]; omega), heap_set hWo]
    simp
  · have := heap_alloc_new (W.setCell ⟨o, 0, none⟩ (.pointer (some ⟨w.heap.size + 1, 0, none⟩))) (.cells #[.slice (some ⟨w.heap.size, 0, none⟩) 0 (grownCap (w.drewN n) 0 0 tByte)] tPool)
    rw [hss] at this
    exact this
  · exact (hB.of_heap (heap_set_other _ (by simp; omega))).of_heap (Below.heap_alloc _ _ _ (by rw [hss]; omega))
  · refine Touch.alloc (Touch.setCell ?_ (.inl (by simp)) _) _
    rw [hW]
    exact ((Touch.refl [o] w).drewN n).trans (touch_bytes _ _ _) (by simp)

theorem PutPost.up {o : Nat} {F G : List Nat} {bs : List UInt8} {w w2 w' : World} {e : Ending} (h : PutPost o F bs w2 e w') (ht : Touch G w w2) (hF : ∀ f ∈ F, f ∈ G ∨ w.heap.size ≤ f) : PutPost o G bs w e w' := by
  obtain ⟨he, F', h1, h2, h3⟩ := h
  refine ⟨he, F', h1, ht.trans h2 hF, fun f hf => ?_⟩
  rcases h3 f hf with h4 | h4
  · exact hF f h4
  · exact .inr (Nat.le_trans ht.size h4)

theorem put_close0 {o p g g1 cap cap1 m : Nat} {s : ByteArray} {w w1 w0 : World} (h : w.heap[o]? = some (.cells #[.pointer (some ⟨p, 0, none⟩), .int .i64 0, .int .i64 0] tOut (0, 0)))
    (hp : w.heap[p]? = some (.cells #[.slice (some ⟨g, 0, none⟩) 0 cap] tPool (0, 0))) (hg : Bts tByte w g cap []) (hop : o ≠ p) (hog : o ≠ g) (hpg : p ≠ g)
    (hB : Bts tByte w1 g1 cap1 ([] ++ s.data.toList)) (hgr : (w.drewN m).grownBy w1 (some g)) (hl : g1 = g ∨ g1 = (w.drewN m).heap.size) (ht : Touch [o] w0 w) (hpl : w0.heap.size ≤ p) (hgl : w0.heap.size ≤ g) :
    PutPost o [o] s.data.toList w0 (.returned (.pointer (some ⟨o, 0, none⟩))) ((w1.setCell ⟨p, 0, none⟩ (.slice (some ⟨g1, 0, none⟩) s.size cap1)).setCell ⟨o, 1, none⟩ (.int .i64 s.size)) := by
  have := put_close (bs := []) h hp hg hop hog hpg hB hgr hl
  simp only [List.nil_append, List.length_nil, Nat.zero_add, Int.natCast_zero, Int.zero_add] at this
  refine this.up ht fun f hf => ?_
  simp only [List.mem_cons, List.not_mem_nil, or_false] at hf ⊢
  omega

set_option maxHeartbeats 400000 in
theorem put_none (o : Nat) (s : ByteArray) (w : World) (h : w.heap[o]? = some (.cells #[.pointer none, .int .i64 0, .int .i64 0] tOut (0, 0))) (hb : s.size ≤ 140737488355328) :
    Calls Try.prog 92 #[.pointer (some ⟨o, 0, none⟩), .string s] w (PutPost o [o] s.data.toList w) := by
  have c0 : w.cell? ⟨o, 0, none⟩ = some (.pointer none) := cell_of h 0
  have c2 : w.cell? ⟨o, 2, none⟩ = some (.int .i64 0) := cell_of h 2
  have holt : o < w.heap.size := lt_of_block h
  obtain ⟨cp, Wc, HW, HC, hconv⟩ : ∃ (cp : Nat → Nat) (Wc : Nat → World), Hid (∀ n, Wc n = bytesWorld (w.drewN n) tByte ⟨#[]⟩) ∧ Hid (∀ n, cp n = grownCap (w.drewN n) 0 0 tByte) ∧
      ∀ n, (convert 9 52 (.string ⟨#[]⟩)).run Try.prog (w.drewN n) = .ok (.slice (some ⟨w.heap.size, 0, none⟩) 0 (cp n)) (Wc n) :=
    ⟨_, _, fun _ => rfl, fun _ => rfl, fun n => by
      have := Go.Lib.run_convert_string_bytes (P := Try.prog) (w.drewN n) 9 52 tByte ⟨#[]⟩ rfl rfl rfl
      rw [show (w.drewN n).heap.size = w.heap.size by rw [drewN_heap]] at this
      exact this⟩
  have hs : ∀ n, (w.drewN n).heap.size = w.heap.size := fun n => by rw [drewN_heap]
  have hWs : ∀ n, (Wc n).heap.size = w.heap.size + 1 := fun n => by rw [HW.out, bytesWorld_size, hs]
  have g0 : ∀ n, (Wc n).cell? ⟨o, 0, none⟩ = some (.pointer none) := fun n => by rw [HW.out, bytesWorld_old _ _ _ _ (by rw [hs]; exact holt)]; simpa using c0
  have g1 : ∀ n, (Wc n).frozen? ⟨o, 0, none⟩ = false := fun n => by
    have e : (Wc n).heap[o]? = some (.cells #[.pointer none, .int .i64 0, .int .i64 0] tOut (0, 0)) := by rw [HW.out, bytesWorld_at_old _ _ _ o (by rw [hs]; exact holt), drewN_heap]; exact h
    exact free_of e 0
  clear hs
  have H := hid h; clear h
  go_enter Try.func92, Try.ntmps92
  go_wp2
  go_quiet (fail)
  go_upto_region 4 with (fail)
  go_cut [] (fun wx => Fresh o w wx)
  case first =>
    go_wp2_with (go_at_call 82; refine (text_none o _ (by rw [drewN_heap]; exact H.out)).mono ?_; rintro e w' ⟨rfl, rfl⟩)
    go_meet
    exact fresh_of H.out (HW.out _) (HC.out _)
  case rest =>
    obtain ⟨p, g, cap, h2, hp2, hg2, hpl, hgl, hpg, ht2⟩ := hcut
    have hop : o ≠ p := by omega
    have hog : o ≠ g := by omega
    have c0 : wc.cell? ⟨o, 0, none⟩ = some (.pointer (some ⟨p, 0, none⟩)) := cell_of h2 0
    have c1 : wc.cell? ⟨o, 1, none⟩ = some (.int .i64 0) := cell_of h2 1
    have d0 : wc.cell? ⟨p, 0, none⟩ = some (.slice (some ⟨g, 0, none⟩) 0 cap) := cell_of hp2 0
    have f0 : wc.frozen? ⟨p, 0, none⟩ = false := free_of hp2 0
    have f1 : wc.frozen? ⟨o, 1, none⟩ = false := free_of h2 1
    have hplt : p < wc.heap.size := lt_of_block hp2
    have holt2 : o < wc.heap.size := lt_of_block h2
    have H2 := hid h2; clear h2
    have Hp := hid hp2; clear hp2
    have Hg := hid hg2; clear hg2
    obtain ⟨i0, hi, hz0, hz1, hz2⟩ := info_parts Try.infoByte
    go_wp2
    go_region_law ((refine step_append_bts rfl (.tmp 53) (.tmp 54) 52 9 rfl tByte i0 rfl rfl hi hz0 hz1 hz2 g 0 cap [] rfl (by simp [Act.eval]) (Hg.out.of_heap (by first | rfl | simp)) s (by simp [Act.eval]) (by omega) ?_); (intro g1 cap1 w1 hB1 hgr1 hl1); (have e0 : w1.cell? ⟨o, 0, none⟩ = some (.pointer (some ⟨p, 0, none⟩)) := hgr1.cell c0 (by simp; exact hog)); (have e1 : w1.cell? ⟨p, 0, none⟩ = some (.slice (some ⟨g, 0, none⟩) 0 cap) := hgr1.cell d0 (by simp; exact hpg)); (have e2 : w1.frozen? ⟨p, 0, none⟩ = false := (hgr1.frozen_far ⟨p, 0, none⟩ (by simpa using hplt) (by simp; exact hpg)).trans (by simpa using f0)); (have e3 : w1.cell? ⟨o, 1, none⟩ = some (.int .i64 0) := hgr1.cell c1 (by simp; exact hog)); (have e4 : w1.frozen? ⟨o, 1, none⟩ = false := (hgr1.frozen_far ⟨o, 1, none⟩ (by simpa using holt2) (by simp; exact hog)).trans (by simpa using f1)))
    all_goals (go_wp2; go_ret; exact put_close0 H2.out Hp.out Hg.out hop hog hpg hB1 hgr1 hl1 ht2 hpl hgl)

/-- 'put': an Out without an error. -/
theorem put_any (o : Nat) (F : List Nat) (bs : List UInt8) (s : ByteArray) (w : World) (h : IsOut w o F bs) (hb : bs.length + s.size ≤ 140737488355328) :
    Calls Try.prog 92 #[.pointer (some ⟨o, 0, none⟩), .string s] w (PutPost o F (bs ++ s.data.toList) w) := by
  rcases h with ⟨h, rfl, rfl⟩ | ⟨p, g, cap, h, hp, hg, hop, hog, hpg, rfl⟩
  · exact put_none o s w h (by simpa using hb)
  · exact put_some o p g cap bs s w h hp hg hop hog hpg hb

/-- An Out with an error. -/
def IsBad (w : World) (o : Nat) (er : Int) : Prop := er ≠ 0 ∧ ∃ pv u, w.heap[o]? = some (.cells #[pv, u, .int .i64 er] tOut (0, 0))

theorem put_bad (o : Nat) (er : Int) (s : ByteArray) (w : World) (h : IsBad w o er) :
    Calls Try.prog 92 #[.pointer (some ⟨o, 0, none⟩), .string s] w fun e w' => e = .returned (.pointer (some ⟨o, 0, none⟩)) ∧ w = w' := by
  obtain ⟨he, pv, u, h⟩ := h
  have c2 : w.cell? ⟨o, 2, none⟩ = some (.int .i64 er) := cell_of h 2
  have hb : (er == 0) = false := by simpa using he
  have hb2 : (er != 0) = true := by simpa using he
  clear h he
  go_enter Try.func92, Try.ntmps92
  go_wp2
  go_ret
  exact ⟨rfl, rfl⟩
theorem put_nil (s : ByteArray) (w : World) :
    Calls Try.prog 92 #[.pointer none, .string s] w fun e w' => e = .returned (.pointer none) ∧ w = w' := by
  go_enter Try.func92, Try.ntmps92
  go_wp2
  go_ret
  exact ⟨rfl, rfl⟩

theorem fail_bad (o : Nat) (er e2 : Int) (w : World) (h : IsBad w o er) :
    Calls Try.prog 93 #[.pointer (some ⟨o, 0, none⟩), .int .i64 e2] w fun e w' => e = .returned (.pointer (some ⟨o, 0, none⟩)) ∧ w = w' := by
  obtain ⟨he, pv, u, h⟩ := h
  have c2 : w.cell? ⟨o, 2, none⟩ = some (.int .i64 er) := cell_of h 2
  have hb : (er == 0) = false := by simpa using he
  have hb2 : (er != 0) = true := by simpa using he
  clear h he
  go_enter Try.func93, Try.ntmps93
  go_wp2
  go_ret
  exact ⟨rfl, rfl⟩
theorem fail_nil (e2 : Int) (w : World) :
    Calls Try.prog 93 #[.pointer none, .int .i64 e2] w fun e w' => e = .returned (.pointer none) ∧ w = w' := by
  go_enter Try.func93, Try.ntmps93
  go_wp2
  go_ret
  exact ⟨rfl, rfl⟩

/-- What 'fail' leaves of an Out without an error. -/
def FailPost (o : Nat) (e2 : Int) (w : World) (e : Ending) (w' : World) : Prop := e = .returned (.pointer (some ⟨o, 0, none⟩)) ∧ IsBad w' o e2 ∧ Touch [o] w w'

theorem fail_good (o : Nat) (F : List Nat) (bs : List UInt8) (e2 : Int) (w : World) (h : IsOut w o F bs) (he : e2 ≠ 0) :
    Calls Try.prog 93 #[.pointer (some ⟨o, 0, none⟩), .int .i64 e2] w (FailPost o e2 w) := by
  obtain ⟨pv, u, h⟩ : ∃ pv u, w.heap[o]? = some (.cells #[pv, u, .int .i64 0] tOut (0, 0)) := by
    rcases h with ⟨h, _⟩ | ⟨p, g, cap, h, _⟩
    · exact ⟨_, _, h⟩
    · exact ⟨_, _, h⟩
  have c2 : w.cell? ⟨o, 2, none⟩ = some (.int .i64 0) := cell_of h 2
  have f2 : w.frozen? ⟨o, 2, none⟩ = false := free_of h 2
  have H := hid h; clear h
  have He := hid he; clear he
  go_enter Try.func93, Try.ntmps93
  go_wp2
  go_ret
  exact ⟨rfl, ⟨He.out, pv, u, by rw [heap_set H.out]; simp⟩, (Touch.refl _ _).setCell (.inl (by simp)) _⟩
end Go.Proofs.Ytmaainnfflapiaa
