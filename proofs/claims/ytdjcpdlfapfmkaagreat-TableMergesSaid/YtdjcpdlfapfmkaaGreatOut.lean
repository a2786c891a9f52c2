/- What the methods of codec.Out return and leave, at whatever world holds an Out: function by function, the leaves first. codec.Out, further: 'put' into a zero one, 'fail', 'number'. codec.Out, further: 'number' and what leans on it. codec.Out: its exported methods. -/
import Derived.Test.YtdjcpdlfapfmkaaGreatBase
import Derived.Test.YtdjcpdlfapfmkaaGreatProg
namespace Go.Proofs.YtdjcpdlfapfmkaaGreat
set_option maxRecDepth 100000
open Go.RowKit Go.Lib

abbrev tOut : TypeId := 75
abbrev tPool : TypeId := 163
abbrev tByte : TypeId := 5

/-- The Out at block o holds bs and no error; its blocks are F. -/
def IsOut (w : World) (o : Nat) (F : List Nat) (bs : List UInt8) : Prop :=
  (w.heap[o]? = some (.cells #[.pointer none, .int .i64 0, .int .i64 0] tOut (0, 0)) ∧ bs = [] ∧ F = [o]) ∨
  ∃ p g cap, w.heap[o]? = some (.cells #[.pointer (some ⟨p, 0, none⟩), .int .i64 bs.length, .int .i64 0] tOut (0, 0)) ∧ w.heap[p]? = some (.cells #[.slice (some ⟨g, 0, none⟩) bs.length cap] tPool (0, 0)) ∧
    Bts tByte w g cap bs ∧ o ≠ p ∧ o ≠ g ∧ p ≠ g ∧ F = [o, p, g]

theorem Tryz.infoByte : (Tryz.prog.info? 5).map (fun i => (i.zero, i.size, i.bytes)) = some (some (.int .u8 0), 1, 1) := by kernel_rfl

theorem text_none (o : Nat) (w : World) (h : w.heap[o]? = some (.cells #[.pointer none, .int .i64 0, .int .i64 0] tOut (0, 0))) :
    Calls Tryz.prog 83 #[.pointer (some ⟨o, 0, none⟩)] w fun e w' => e = .returned (.string ⟨#[]⟩) ∧ w = w' := by
  have c0 : w.cell? ⟨o, 0, none⟩ = some (.pointer none) := cell_of h 0
  clear h
  go_enter Tryz.func83, Tryz.ntmps83
  go_wp2
  go_ret
  exact ⟨rfl, rfl⟩

theorem text_some (o p g cap : Nat) (bs : List UInt8) (er : Value) (w : World) (h : w.heap[o]? = some (.cells #[.pointer (some ⟨p, 0, none⟩), .int .i64 bs.length, er] tOut (0, 0)))
    (hp : w.heap[p]? = some (.cells #[.slice (some ⟨g, 0, none⟩) bs.length cap] tPool (0, 0))) (hg : Bts tByte w g cap bs) :
    Calls Tryz.prog 83 #[.pointer (some ⟨o, 0, none⟩)] w fun e w' => e = .returned (.string ⟨bs.toArray⟩) ∧ ∃ n, w.drewN n = w' := by
  have c0 : w.cell? ⟨o, 0, none⟩ = some (.pointer (some ⟨p, 0, none⟩)) := cell_of h 0
  have c1 : w.cell? ⟨o, 1, none⟩ = some (.int .i64 bs.length) := cell_of h 1
  have c2 : w.cell? ⟨p, 0, none⟩ = some (.slice (some ⟨g, 0, none⟩) bs.length cap) := cell_of hp 0
  have hle : (bs.length : Int) ≤ (cap : Int) := by obtain ⟨_, _, _, _, h1, _⟩ := hg; omega
  have hconv : ∀ n, (convert 123 9 (.slice (some ⟨g, 0, none⟩) bs.length cap)).run Tryz.prog (w.drewN n) = .ok (.string ⟨bs.toArray⟩) (w.drewN n) := fun n =>
    run_convert_bytes_back (w.drewN n) 123 9 tByte ⟨g, 0, none⟩ cap bs rfl rfl rfl (Bts.cell (hg.of_heap (by rw [drewN_heap])))
  clear h hp
  go_enter Tryz.func83, Tryz.ntmps83
  go_wp2
  go_quiet (fail)
  go_wp2
  go_ret
  exact ⟨rfl, _, rfl⟩

/-- What 'put' leaves. -/
def PutPost (o : Nat) (F : List Nat) (bs : List UInt8) (w : World) (e : Ending) (w' : World) : Prop :=
  e = .returned (.pointer (some ⟨o, 0, none⟩)) ∧ ∃ F', IsOut w' o F' bs ∧ Touch F w w' ∧ ∀ f ∈ F', f ∈ F ∨ w.heap.size ≤ f

theorem put_close {o p g g1 cap cap1 m : Nat} {bs : List UInt8} {s : ByteArray} {w w1 : World} (h : w.heap[o]? = some (.cells #[.pointer (some ⟨p, 0, none⟩), .int .i64 bs.length, .int .i64 0] tOut (0, 0)))
    (hp : w.heap[p]? = some (.cells #[.slice (some ⟨g, 0, none⟩) bs.length cap] tPool (0, 0))) (hg : Bts tByte w g cap bs) (hop : o ≠ p) (hog : o ≠ g) (hpg : p ≠ g)
    (hB : Bts tByte w1 g1 cap1 (bs ++ s.data.toList)) (hgr : (w.drewN m).grownBy w1 (some g)) (hl : g1 = g ∨ g1 = (w.drewN m).heap.size) :
    PutPost o [o, p, g] (bs ++ s.data.toList) w (.returned (.pointer (some ⟨o, 0, none⟩))) ((w1.setCell ⟨p, 0, none⟩ (.slice (some ⟨g1, 0, none⟩) (bs.length + s.size) cap1)).setCell ⟨o, 1, none⟩ (.int .i64 (↑bs.length + ↑s.size))) := by
  have holt := lt_of_block h
  have hplt := lt_of_block hp
  have hglt := hg.lt
  have hs : (w.drewN m).heap.size = w.heap.size := by rw [drewN_heap]
  rw [hs] at hl
  have ho1 : w1.heap[o]? = some (.cells #[.pointer (some ⟨p, 0, none⟩), .int .i64 bs.length, .int .i64 0] tOut (0, 0)) := by rw [hgr.block o (by rw [hs]; exact holt) (by simp; exact hog), drewN_heap]; exact h
  have hp1 : w1.heap[p]? = some (.cells #[.slice (some ⟨g, 0, none⟩) bs.length cap] tPool (0, 0)) := by rw [hgr.block p (by rw [hs]; exact hplt) (by simp; exact hpg), drewN_heap]; exact hp
  have hog1 : o ≠ g1 := by rcases hl with rfl | rfl; exact hog; omega
  have hpg1 : p ≠ g1 := by rcases hl with rfl | rfl; exact hpg; omega
  refine ⟨rfl, [o, p, g1], .inr ⟨p, g1, cap1, ?_, ?_, ?_, hop, hog1, hpg1, rfl⟩, ?_, ?_⟩
  · have := heap_set (i := 1) (w := w1.setCell ⟨p, 0, none⟩ (.slice (some ⟨g1, 0, none⟩) (bs.length + s.size) cap1)) (b := o) (cs := #[.pointer (some ⟨p, 0, none⟩), .int .i64 bs.length, .int .i64 0]) (t := tOut) (fz := (0, 0)) (by rw [heap_set_other _ hop]; exact ho1) (.int .i64 (↑bs.length + ↑s.size))
    rw [this]
    simp
  · rw [heap_set_other _ (fun e => hop e.symm), heap_set hp1]
    simp
  · exact (hB.of_heap (heap_set_other _ (fun e => hpg1 e.symm))).of_heap (heap_set_other _ (fun e => hog1 e.symm))
  · refine Touch.setCell (Touch.setCell (Touch.grown ((Touch.refl _ w).drewN m) hgr ?_) ?_ _) ?_ _
    · intro k hk; obtain rfl := Option.some.inj hk; exact .inl (by simp)
    · exact .inl (by simp)
    · exact .inl (by simp)
  · intro f hf
    simp only [List.mem_cons, List.not_mem_nil, or_false] at hf ⊢
    rcases hf with rfl | rfl | rfl
    · exact .inl (.inl rfl)
    · exact .inl (.inr (.inl rfl))
    · rcases hl with rfl | rfl
      · exact .inl (.inr (.inr rfl))
      · exact .inr (Nat.le_refl _)

theorem put_some (o p g cap : Nat) (bs : List UInt8) (s : ByteArray) (w : World) (h : w.heap[o]? = some (.cells #[.pointer (some ⟨p, 0, none⟩), .int .i64 bs.length, .int .i64 0] tOut (0, 0)))
    (hp : w.heap[p]? = some (.cells #[.slice (some ⟨g, 0, none⟩) bs.length cap] tPool (0, 0))) (hg : Bts tByte w g cap bs) (hop : o ≠ p) (hog : o ≠ g) (hpg : p ≠ g) (hb : bs.length + s.size ≤ 140737488355328) :
    Calls Tryz.prog 112 #[.pointer (some ⟨o, 0, none⟩), .string s] w (PutPost o [o, p, g] (bs ++ s.data.toList) w) := by
  have c0 : w.cell? ⟨o, 0, none⟩ = some (.pointer (some ⟨p, 0, none⟩)) := cell_of h 0
  have c1 : w.cell? ⟨o, 1, none⟩ = some (.int .i64 bs.length) := cell_of h 1
  have c2 : w.cell? ⟨o, 2, none⟩ = some (.int .i64 0) := cell_of h 2
  have d0 : w.cell? ⟨p, 0, none⟩ = some (.slice (some ⟨g, 0, none⟩) bs.length cap) := cell_of hp 0
  have f0 : w.frozen? ⟨p, 0, none⟩ = false := free_of hp 0
  have f1 : w.frozen? ⟨o, 1, none⟩ = false := free_of h 1
  have hplt : p < w.heap.size := lt_of_block hp
  have holt : o < w.heap.size := lt_of_block h
  have H := hid h; clear h
  have Hp := hid hp; clear hp
  have Hg := hid hg; clear hg
  go_enter Tryz.func112, Tryz.ntmps112
  go_wp2
  go_quiet (fail)
  go_wp2
  obtain ⟨i0, hi, hz0, hz1, hz2⟩ := info_parts Tryz.infoByte
  go_region_law ((refine step_append_bts rfl (.tmp 53) (.tmp 54) 123 9 rfl tByte i0 rfl rfl hi hz0 hz1 hz2 g bs.length cap bs rfl (by simp [Act.eval]) (Hg.out.of_heap (by first | rfl | simp)) s (by simp [Act.eval]) hb ?_); (intro g1 cap1 w1 hB1 hgr1 hl1); (have e0 : w1.cell? ⟨o, 0, none⟩ = some (.pointer (some ⟨p, 0, none⟩)) := hgr1.cell c0 (by simp; exact hog)); (have e1 : w1.cell? ⟨p, 0, none⟩ = some (.slice (some ⟨g, 0, none⟩) bs.length cap) := hgr1.cell d0 (by simp; exact hpg)); (have e2 : w1.frozen? ⟨p, 0, none⟩ = false := (hgr1.frozen_far ⟨p, 0, none⟩ (by simpa using hplt) (by simp; exact hpg)).trans (by simpa using f0)); (have e3 : w1.cell? ⟨o, 1, none⟩ = some (.int .i64 bs.length) := hgr1.cell c1 (by simp; exact hog)); (have e4 : w1.frozen? ⟨o, 1, none⟩ = false := (hgr1.frozen_far ⟨o, 1, none⟩ (by simpa using holt) (by simp; exact hog)).trans (by simpa using f1)))
  all_goals (go_wp2; go_ret; exact put_close H.out Hp.out Hg.out hop hog hpg hB1 hgr1 hl1)
end Go.Proofs.YtdjcpdlfapfmkaaGreat

namespace Go.Proofs.YtdjcpdlfapfmkaaGreat
set_option maxRecDepth 100000
open Go.RowKit Go.Lib

/-- A pool that holds nothing yet: what 'put' lays ahead of the append. -/
def Fresh (o : Nat) (w w2 : World) : Prop := ∃ p g cap, w2.heap[o]? = some (.cells #[.pointer (some ⟨p, 0, none⟩), .int .i64 0, .int .i64 0] tOut (0, 0)) ∧ w2.heap[p]? = some (.cells #[.slice (some ⟨g, 0, none⟩) 0 cap] tPool (0, 0)) ∧
  Bts tByte w2 g cap [] ∧ w.heap.size ≤ p ∧ w.heap.size ≤ g ∧ p ≠ g ∧ Touch [o] w w2

theorem fresh_of {o cap n : Nat} {w W : World} (h : w.heap[o]? = some (.cells #[.pointer none, .int .i64 0, .int .i64 0] tOut (0, 0))) (hW : W = bytesWorld (w.drewN n) tByte ⟨#[]⟩) (hc : cap = grownCap (w.drewN n) 0 0 tByte) :
    Fresh o w ((W.setCell ⟨o, 0, none⟩ (.pointer (some ⟨w.heap.size + 1, 0, none⟩))).alloc (.cells #[.slice (some ⟨w.heap.size, 0, none⟩) 0 cap] tPool)) := by
  subst hc
  have holt := lt_of_block h
  have hs : (w.drewN n).heap.size = w.heap.size := by rw [drewN_heap]
  have hWs : W.heap.size = w.heap.size + 1 := by rw [hW, bytesWorld_size, hs]
  have hWo : W.heap[o]? = some (.cells #[.pointer none, .int .i64 0, .int .i64 0] tOut (0, 0)) := by rw [hW, bytesWorld_at_old _ _ _ o (by rw [hs]; exact holt), drewN_heap]; exact h
  have hB : Bts tByte W w.heap.size (grownCap (w.drewN n) 0 0 tByte) [] := by
    have := bts_bytesWorld tByte (w.drewN n) ⟨#[]⟩ (by decide)
    rw [hs, ← hW] at this
    exact this
  have hss : (W.setCell ⟨o, 0, none⟩ (.pointer (some ⟨w.heap.size + 1, 0, none⟩))).heap.size = w.heap.size + 1 := by rw [World.size_setCell]; exact hWs
  refine ⟨w.heap.size + 1, w.heap.size, grownCap (w.drewN n) 0 0 tByte, ?_, ?_, ?_, by omega, Nat.le_refl _, by omega, ?_⟩
  · rw [Below.heap_alloc _ _ _ (by rw [hss]; omega), heap_set hWo]
    simp
  · have := heap_alloc_new (W.setCell ⟨o, 0, none⟩ (.pointer (some ⟨w.heap.size + 1, 0, none⟩))) (.cells #[.slice (some ⟨w.heap.size, 0, none⟩) 0 (grownCap (w.drewN n) 0 0 tByte)] tPool)
    rw [hss] at this
    exact this
  · exact (hB.of_heap (heap_set_other _ (by simp; omega))).of_heap (Below.heap_alloc _ _ _ (by rw [hss]; omega))
  · refine Touch.alloc (Touch.setCell ?_ (.inl (by simp)) _) _
    rw [hW]
    exact ((Touch.refl [o] w).drewN n).trans (touch_bytes _ _ _) (by simp)

theorem PutPost.up {o : Nat} {F G : List Nat} {bs : List UInt8} {w w2 w' : World} {e : Ending} (h : PutPost o F bs w2 e w') (ht : Touch G w w2) (hF : ∀ f ∈ F, f ∈ G ∨ w.heap.size ≤ f) : PutPost o G bs w e w' := by
  obtain ⟨he, F', h1, h2, h3⟩ := h
  refine ⟨he, F', h1, ht.trans h2 hF, fun f hf => ?_⟩
  rcases h3 f hf with h4 | h4
  · exact hF f h4
  · exact .inr (Nat.le_trans ht.size h4)

theorem put_close0 {o p g g1 cap cap1 m : Nat} {s : ByteArray} {w w1 w0 : World} (h : w.heap[o]? = some (.cells #[.pointer (some ⟨p, 0, none⟩), .int .i64 0, .int .i64 0] tOut (0, 0)))
    (hp : w.heap[p]? = some (.cells #[.slice (some ⟨g, 0, none⟩) 0 cap] tPool (0, 0))) (hg : Bts tByte w g cap []) (hop : o ≠ p) (hog : o ≠ g) (hpg : p ≠ g)
    (hB : Bts tByte w1 g1 cap1 ([] ++ s.data.toList)) (hgr : (w.drewN m).grownBy w1 (some g)) (hl : g1 = g ∨ g1 = (w.drewN m).heap.size) (ht : Touch [o] w0 w) (hpl : w0.heap.size ≤ p) (hgl : w0.heap.size ≤ g) :
    PutPost o [o] s.data.toList w0 (.returned (.pointer (some ⟨o, 0, none⟩))) ((w1.setCell ⟨p, 0, none⟩ (.slice (some ⟨g1, 0, none⟩) s.size cap1)).setCell ⟨o, 1, none⟩ (.int .i64 s.size)) := by
  have := put_close (bs := []) h hp hg hop hog hpg hB hgr hl
  simp only [List.nil_append, List.length_nil, Nat.zero_add, Int.natCast_zero, Int.zero_add] at this
  refine this.up ht fun f hf => ?_
  simp only [List.mem_cons, List.not_mem_nil, or_false] at hf ⊢
  omega

set_option maxHeartbeats 400000 in
theorem put_none (o : Nat) (s : ByteArray) (w : World) (h : w.heap[o]? = some (.cells #[.pointer none, .int .i64 0, .int .i64 0] tOut (0, 0))) (hb : s.size ≤ 140737488355328) :
    Calls Tryz.prog 112 #[.pointer (some ⟨o, 0, none⟩), .string s] w (PutPost o [o] s.data.toList w) := by
  have c0 : w.cell? ⟨o, 0, none⟩ = some (.pointer none) := cell_of h 0
  have c2 : w.cell? ⟨o, 2, none⟩ = some (.int .i64 0) := cell_of h 2
  have holt : o < w.heap.size := lt_of_block h
  obtain ⟨cp, Wc, HW, HC, hconv⟩ : ∃ (cp : Nat → Nat) (Wc : Nat → World), Hid (∀ n, Wc n = bytesWorld (w.drewN n) tByte ⟨#[]⟩) ∧ Hid (∀ n, cp n = grownCap (w.drewN n) 0 0 tByte) ∧
      ∀ n, (convert 9 123 (.string ⟨#[]⟩)).run Tryz.prog (w.drewN n) = .ok (.slice (some ⟨w.heap.size, 0, none⟩) 0 (cp n)) (Wc n) :=
    ⟨_, _, fun _ => rfl, fun _ => rfl, fun n => by
      have := Go.Lib.run_convert_string_bytes (P := Tryz.prog) (w.drewN n) 9 123 tByte ⟨#[]⟩ rfl rfl rfl
      rw [show (w.drewN n).heap.size = w.heap.size by rw [drewN_heap]] at this
      exact this⟩
  have hs : ∀ n, (w.drewN n).heap.size = w.heap.size := fun n => by rw [drewN_heap]
  have hWs : ∀ n, (Wc n).heap.size = w.heap.size + 1 := fun n => by rw [HW.out, bytesWorld_size, hs]
  have g0 : ∀ n, (Wc n).cell? ⟨o, 0, none⟩ = some (.pointer none) := fun n => by rw [HW.out, bytesWorld_old _ _ _ _ (by rw [hs]; exact holt)]; simpa using c0
  have g1 : ∀ n, (Wc n).frozen? ⟨o, 0, none⟩ = false := fun n => by
    have e : (Wc n).heap[o]? = some (.cells #[.pointer none, .int .i64 0, .int .i64 0] tOut (0, 0)) := by rw [HW.out, bytesWorld_at_old _ _ _ o (by rw [hs]; exact holt), drewN_heap]; exact h
    exact free_of e 0
  clear hs
  have H := hid h; clear h
  go_enter Tryz.func112, Tryz.ntmps112
  go_wp2
  go_quiet (fail)
  go_upto_region 4 with (fail)
  go_cut [] (fun wx => Fresh o w wx)
  case first =>
    go_wp2_with (go_at_call 83; refine (text_none o _ (by rw [drewN_heap]; exact H.out)).mono ?_; rintro e w' ⟨rfl, rfl⟩)
    go_meet
    exact fresh_of H.out (HW.out _) (HC.out _)
  case rest =>
    obtain ⟨p, g, cap, h2, hp2, hg2, hpl, hgl, hpg, ht2⟩ := hcut
    have hop : o ≠ p := by omega
    have hog : o ≠ g := by omega
    have c0 : wc.cell? ⟨o, 0, none⟩ = some (.pointer (some ⟨p, 0, none⟩)) := cell_of h2 0
    have c1 : wc.cell? ⟨o, 1, none⟩ = some (.int .i64 0) := cell_of h2 1
    have d0 : wc.cell? ⟨p, 0, none⟩ = some (.slice (some ⟨g, 0, none⟩) 0 cap) := cell_of hp2 0
    have f0 : wc.frozen? ⟨p, 0, none⟩ = false := free_of hp2 0
    have f1 : wc.frozen? ⟨o, 1, none⟩ = false := free_of h2 1
    have hplt : p < wc.heap.size := lt_of_block hp2
    have holt2 : o < wc.heap.size := lt_of_block h2
    have H2 := hid h2; clear h2
    have Hp := hid hp2; clear hp2
    have Hg := hid hg2; clear hg2
    obtain ⟨i0, hi, hz0, hz1, hz2⟩ := info_parts Tryz.infoByte
    go_wp2
    go_region_law ((refine step_append_bts rfl (.tmp 53) (.tmp 54) 123 9 rfl tByte i0 rfl rfl hi hz0 hz1 hz2 g 0 cap [] rfl (by simp [Act.eval]) (Hg.out.of_heap (by first | rfl | simp)) s (by simp [Act.eval]) (by omega) ?_); (intro g1 cap1 w1 hB1 hgr1 hl1); (have e0 : w1.cell? ⟨o, 0, none⟩ = some (.pointer (some ⟨p, 0, none⟩)) := hgr1.cell c0 (by simp; exact hog)); (have e1 : w1.cell? ⟨p, 0, none⟩ = some (.slice (some ⟨g, 0, none⟩) 0 cap) := hgr1.cell d0 (by simp; exact hpg)); (have e2 : w1.frozen? ⟨p, 0, none⟩ = false := (hgr1.frozen_far ⟨p, 0, none⟩ (by simpa using hplt) (by simp; exact hpg)).trans (by simpa using f0)); (have e3 : w1.cell? ⟨o, 1, none⟩ = some (.int .i64 0) := hgr1.cell c1 (by simp; exact hog)); (have e4 : w1.frozen? ⟨o, 1, none⟩ = false := (hgr1.frozen_far ⟨o, 1, none⟩ (by simpa using holt2) (by simp; exact hog)).trans (by simpa using f1)))
    all_goals (go_wp2; go_ret; exact put_close0 H2.out Hp.out Hg.out hop hog hpg hB1 hgr1 hl1 ht2 hpl hgl)

/-- 'put': an Out without an error. -/
theorem put_any (o : Nat) (F : List Nat) (bs : List UInt8) (s : ByteArray) (w : World) (h : IsOut w o F bs) (hb : bs.length + s.size ≤ 140737488355328) :
    Calls Tryz.prog 112 #[.pointer (some ⟨o, 0, none⟩), .string s] w (PutPost o F (bs ++ s.data.toList) w) := by
  rcases h with ⟨h, rfl, rfl⟩ | ⟨p, g, cap, h, hp, hg, hop, hog, hpg, rfl⟩
  · exact put_none o s w h (by simpa using hb)
  · exact put_some o p g cap bs s w h hp hg hop hog hpg hb

/-- An Out with an error. -/
def IsBad (w : World) (o : Nat) (er : Int) : Prop := er ≠ 0 ∧ ∃ pv u, w.heap[o]? = some (.cells #[pv, u, .int .i64 er] tOut (0, 0))

theorem put_bad (o : Nat) (er : Int) (s : ByteArray) (w : World) (h : IsBad w o er) :
    Calls Tryz.prog 112 #[.pointer (some ⟨o, 0, none⟩), .string s] w fun e w' => e = .returned (.pointer (some ⟨o, 0, none⟩)) ∧ w = w' := by
  obtain ⟨he, pv, u, h⟩ := h
  have c2 : w.cell? ⟨o, 2, none⟩ = some (.int .i64 er) := cell_of h 2
  have hb : (er == 0) = false := by simpa using he
  have hb2 : (er != 0) = true := by simpa using he
  clear h he
  go_enter Tryz.func112, Tryz.ntmps112
  go_wp2
  go_ret
  exact ⟨rfl, rfl⟩
theorem put_nil (s : ByteArray) (w : World) :
    Calls Tryz.prog 112 #[.pointer none, .string s] w fun e w' => e = .returned (.pointer none) ∧ w = w' := by
  go_enter Tryz.func112, Tryz.ntmps112
  go_wp2
  go_ret
  exact ⟨rfl, rfl⟩

theorem fail_bad (o : Nat) (er e2 : Int) (w : World) (h : IsBad w o er) :
    Calls Tryz.prog 81 #[.pointer (some ⟨o, 0, none⟩), .int .i64 e2] w fun e w' => e = .returned (.pointer (some ⟨o, 0, none⟩)) ∧ w = w' := by
  obtain ⟨he, pv, u, h⟩ := h
  have c2 : w.cell? ⟨o, 2, none⟩ = some (.int .i64 er) := cell_of h 2
  have hb : (er == 0) = false := by simpa using he
  have hb2 : (er != 0) = true := by simpa using he
  clear h he
  go_enter Tryz.func81, Tryz.ntmps81
  go_wp2
  go_ret
  exact ⟨rfl, rfl⟩
theorem fail_nil (e2 : Int) (w : World) :
    Calls Tryz.prog 81 #[.pointer none, .int .i64 e2] w fun e w' => e = .returned (.pointer none) ∧ w = w' := by
  go_enter Tryz.func81, Tryz.ntmps81
  go_wp2
  go_ret
  exact ⟨rfl, rfl⟩

/-- What 'fail' leaves of an Out without an error. -/
def FailPost (o : Nat) (e2 : Int) (w : World) (e : Ending) (w' : World) : Prop := e = .returned (.pointer (some ⟨o, 0, none⟩)) ∧ IsBad w' o e2 ∧ Touch [o] w w'

theorem fail_good (o : Nat) (F : List Nat) (bs : List UInt8) (e2 : Int) (w : World) (h : IsOut w o F bs) (he : e2 ≠ 0) :
    Calls Tryz.prog 81 #[.pointer (some ⟨o, 0, none⟩), .int .i64 e2] w (FailPost o e2 w) := by
  obtain ⟨pv, u, h⟩ : ∃ pv u, w.heap[o]? = some (.cells #[pv, u, .int .i64 0] tOut (0, 0)) := by
    rcases h with ⟨h, _⟩ | ⟨p, g, cap, h, _⟩
    · exact ⟨_, _, h⟩
    · exact ⟨_, _, h⟩
  have c2 : w.cell? ⟨o, 2, none⟩ = some (.int .i64 0) := cell_of h 2
  have f2 : w.frozen? ⟨o, 2, none⟩ = false := free_of h 2
  have H := hid h; clear h
  have He := hid he; clear he
  go_enter Tryz.func81, Tryz.ntmps81
  go_wp2
  go_ret
  exact ⟨rfl, ⟨He.out, pv, u, by rw [heap_set H.out]; simp⟩, (Touch.refl _ _).setCell (.inl (by simp)) _⟩
end Go.Proofs.YtdjcpdlfapfmkaaGreat

namespace Go.Proofs.YtdjcpdlfapfmkaaGreat
set_option maxRecDepth 100000
open Go.RowKit Go.Lib

/-- The lowest n bytes of v, the highest first. -/
def be (n : Nat) (v : Nat) : List UInt8 := (List.range n).map fun k => UInt8.ofNat (v / 2 ^ (8 * (n - 1 - k)))

theorem be_length (n v : Nat) : (be n v).length = n := by simp [be]

/-- The head of the loop: k bytes are laid. -/
def NumRel (n v k : Nat) (w wr : World) : Prop :=
  ∃ cs, wr = w.alloc (.cells cs 160) ∧ cs.size = 8 ∧ ∀ j, j < k → cs[j]? = some (.int .u8 ((v : Int) / 2 ^ (8 * (n - 1 - j)) % 256))

theorem byte_toNat (v m : Nat) : (((UInt8.ofNat (v / 2 ^ m)).toNat : Nat) : Int) = (v : Int) / 2 ^ m % 256 := by
  rw [UInt8.toNat_ofNat']
  simp

set_option maxRecDepth 100000 in
set_option maxHeartbeats 400000 in
theorem number_calls (pv : Value) (R : World → Prop) (n v : Nat) (w : World) (hn : n ≤ 8) (hn1 : 1 ≤ n)
    (hput : ∀ cs, Calls Tryz.prog 112 #[pv, .string ⟨(be n v).toArray⟩] (w.alloc (.cells cs 160)) fun e w' => e = .returned pv ∧ R w') :
    Calls Tryz.prog 82 #[pv, .int .u64 v, .int .i64 n] w fun e w' => e = .returned pv ∧ R w' := by
  have Hput := hid hput; clear hput
  go_enter Tryz.func82, Tryz.ntmps82
  go_wp2
  go_loopw [8, 10] (fun _ kv wr => ∃ k : Nat, k ≤ n ∧ kv = .int .i64 k ∧ NumRel n v k w wr) (fun _ kv _ => n - (intOf kv).toNat)
  case atStart => exact ⟨0, Nat.zero_le _, rfl, _, rfl, rfl, fun j hj => absurd hj (Nat.not_lt_zero j)⟩
  case round =>
    obtain ⟨k, hk, rfl, cs, rfl, hcs, hall⟩ := hrel
    have Hall := hid hall; clear hall
    by_cases hlt : k < n
    · obtain ⟨x, hx⟩ : ∃ x, cs[k]? = some x := ⟨cs[k], by simp⟩
      go_wp2
      go_roundw
      case rel =>
        refine ⟨k + 1, by omega, by go_num, _, rfl, by simpa using hcs, fun j hj => ?_⟩
        by_cases hjk : j = k
        · subst hjk
          rw [Array.getElem?_setIfInBounds_self_of_lt (by omega)]
        · rw [Array.getElem?_setIfInBounds_ne (by omega)]
          exact Hall.out j (by omega)
      case measure => simp [intOf]; omega
    · obtain rfl : k = n := by omega
      have hconv : (convert 123 9 (.slice (some ⟨w.heap.size, 0, none⟩) k 8)).run Tryz.prog (w.alloc (.cells cs 160)) = .ok (.string ⟨(be k v).toArray⟩) (w.alloc (.cells cs 160)) := by
        have := run_convert_bytes_back (P := Tryz.prog) (w.alloc (.cells cs 160)) 123 9 5 ⟨w.heap.size, 0, none⟩ 8 (be k v) rfl rfl rfl (fun j hj => by
          have hadd : (⟨w.heap.size, 0, none⟩ : Addr).add j = ⟨w.heap.size, j, none⟩ := by unfold Addr.add; split <;> simp_all
          rw [hadd, cell_of (heap_alloc_new w (.cells cs 160)) j, Hall.out j (by rw [be_length] at hj; exact hj)]
          simp only [be, List.getElem_map, List.getElem_range, byte_toNat])
        rw [be_length] at this
        exact this
      clear hcs hk
      have hn2 : (k : Int) ≤ 8 := by omega
      have hn3 : (0 : Int) ≤ k := by omega
      go_wp2_with (go_at_call 112; refine (Hput.out _).mono ?_; rintro e w' ⟨rfl, hR⟩)
      go_ret
      exact ⟨rfl, hR⟩

/-! ### The state of an Out: its bytes, its error (0: none). -/
def OutIs (w : World) (o : Nat) (F : List Nat) (st : List UInt8 × Int) : Prop := (st.2 = 0 ∧ IsOut w o F st.1) ∨ (IsBad w o st.2 ∧ o ∈ F)
def pPut (st : List UInt8 × Int) (s : List UInt8) : List UInt8 × Int := if st.2 = 0 then (st.1 ++ s, 0) else st
def pFail (st : List UInt8 × Int) (e : Int) : List UInt8 × Int := if st.2 = 0 then (st.1, e) else st

/-- What a method leaves that answers the Out itself. -/
def StPost (o : Nat) (F : List Nat) (st : List UInt8 × Int) (w : World) (w' : World) : Prop := ∃ F', OutIs w' o F' st ∧ Touch F w w' ∧ ∀ f ∈ F', f ∈ F ∨ w.heap.size ≤ f

theorem IsOut.mem {w : World} {o : Nat} {F : List Nat} {bs : List UInt8} (h : IsOut w o F bs) : o ∈ F := by
  rcases h with ⟨_, _, rfl⟩ | ⟨p, g, cap, _, _, _, _, _, _, rfl⟩ <;> simp
theorem OutIs.mem {w : World} {o : Nat} {F : List Nat} {st : List UInt8 × Int} (h : OutIs w o F st) : o ∈ F := by
  rcases h with ⟨_, h⟩ | ⟨_, h⟩
  · exact h.mem
  · exact h
theorem IsOut.lt {w : World} {o : Nat} {F : List Nat} {bs : List UInt8} (h : IsOut w o F bs) : ∀ f ∈ F, f < w.heap.size := by
  rcases h with ⟨h, _, rfl⟩ | ⟨p, g, cap, h, hp, hg, _, _, _, rfl⟩
  · intro f hf; simp at hf; subst hf; exact lt_of_block h
  · intro f hf
    simp at hf
    rcases hf with rfl | rfl | rfl
    · exact lt_of_block h
    · exact lt_of_block hp
    · exact hg.lt
theorem IsOut.keep {w w' : World} {o : Nat} {F G : List Nat} {bs : List UInt8} (h : IsOut w o F bs) (ht : Touch G w w') (hd : ∀ f ∈ F, f ∉ G) : IsOut w' o F bs := by
  have hh : ∀ f ∈ F, w'.heap[f]? = w.heap[f]? := fun f hf => ht.block f (h.lt f hf) (hd f hf)
  rcases h with ⟨h, hb, rfl⟩ | ⟨p, g, cap, h, hp, hg, h1, h2, h3, rfl⟩
  · exact .inl ⟨(hh o (by simp)).trans h, hb, rfl⟩
  · exact .inr ⟨p, g, cap, (hh o (by simp)).trans h, (hh p (by simp)).trans hp, hg.of_heap (hh g (by simp)), h1, h2, h3, rfl⟩
theorem IsBad.keep {w w' : World} {o : Nat} {G : List Nat} {er : Int} (h : IsBad w o er) (ht : Touch G w w') (hd : o ∉ G) : IsBad w' o er := by
  obtain ⟨he, pv, u, h⟩ := h
  exact ⟨he, pv, u, (ht.block o (lt_of_block h) hd).trans h⟩
theorem OutIs.keep {w w' : World} {o : Nat} {F G : List Nat} {st : List UInt8 × Int} (h : OutIs w o F st) (ht : Touch G w w') (hd : ∀ f ∈ F, f ∉ G) : OutIs w' o F st := by
  rcases h with ⟨h0, h⟩ | ⟨h, hm⟩
  · exact .inl ⟨h0, h.keep ht hd⟩
  · exact .inr ⟨h.keep ht (hd o hm), hm⟩
theorem StPost.up {o : Nat} {F G : List Nat} {st : List UInt8 × Int} {w w2 w' : World} (h : StPost o F st w2 w') (ht : Touch G w w2) (hF : ∀ f ∈ F, f ∈ G ∨ w.heap.size ≤ f) : StPost o G st w w' := by
  obtain ⟨F', h1, h2, h3⟩ := h
  refine ⟨F', h1, ht.trans h2 hF, fun f hf => ?_⟩
  rcases h3 f hf with h4 | h4
  · exact hF f h4
  · exact .inr (Nat.le_trans ht.size h4)
/-- Behind what touches nothing that was there. -/
theorem StPost.up0 {o : Nat} {F : List Nat} {st : List UInt8 × Int} {w w2 w' : World} (h : StPost o F st w2 w') (ht : Touch [] w w2) : StPost o F st w w' :=
  h.up (ht.mono (by simp)) fun _ hf => .inl hf

theorem put_st (o : Nat) (F : List Nat) (st : List UInt8 × Int) (s : ByteArray) (w : World) (h : OutIs w o F st) (hb : st.1.length + s.size ≤ 140737488355328) :
    Calls Tryz.prog 112 #[.pointer (some ⟨o, 0, none⟩), .string s] w fun e w' => e = .returned (.pointer (some ⟨o, 0, none⟩)) ∧ StPost o F (pPut st s.data.toList) w w' := by
  obtain ⟨bs, er⟩ := st
  rcases h with ⟨h0, h⟩ | ⟨h, hm⟩
  · obtain rfl : er = 0 := h0
    refine (put_any o F bs s w h hb).mono fun e w' ⟨he, F', h1, h2, h3⟩ => ⟨he, F', .inl ⟨by simp [pPut], by simpa [pPut] using h1⟩, h2, h3⟩
  · refine (put_bad o er s w h).mono fun e w' ⟨he, hw⟩ => ⟨he, F, ?_, hw ▸ Touch.refl _ _, fun f hf => .inl hf⟩
    subst hw
    have : er ≠ 0 := h.1
    exact .inr ⟨by simpa [pPut, this] using h, hm⟩

theorem fail_st (o : Nat) (F : List Nat) (st : List UInt8 × Int) (e2 : Int) (w : World) (h : OutIs w o F st) (he2 : e2 ≠ 0) :
    Calls Tryz.prog 81 #[.pointer (some ⟨o, 0, none⟩), .int .i64 e2] w fun e w' => e = .returned (.pointer (some ⟨o, 0, none⟩)) ∧ StPost o F (pFail st e2) w w' := by
  have hm := h.mem
  obtain ⟨bs, er⟩ := st
  rcases h with ⟨h0, h⟩ | ⟨h, _⟩
  · obtain rfl : er = 0 := h0
    refine (fail_good o F bs e2 w h he2).mono fun e w' ⟨he, h1, h2⟩ => ⟨he, F, .inr ⟨by simpa [pFail] using h1, hm⟩, h2.mono (by simp [hm]), fun f hf => .inl hf⟩
  · refine (fail_bad o er e2 w h).mono fun e w' ⟨he, hw⟩ => ⟨he, F, ?_, hw ▸ Touch.refl _ _, fun f hf => .inl hf⟩
    subst hw
    have : er ≠ 0 := h.1
    exact .inr ⟨by simpa [pFail, this] using h, hm⟩

theorem number_st (o : Nat) (F : List Nat) (st : List UInt8 × Int) (n v : Nat) (w : World) (h : OutIs w o F st) (hb : st.1.length + n ≤ 140737488355328) (hn : n ≤ 8) (hn1 : 1 ≤ n) :
    Calls Tryz.prog 82 #[.pointer (some ⟨o, 0, none⟩), .int .u64 v, .int .i64 n] w fun e w' => e = .returned (.pointer (some ⟨o, 0, none⟩)) ∧ StPost o F (pPut st (be n v)) w w' := by
  refine number_calls _ _ n v w hn hn1 fun cs => ?_
  have ht : Touch [] w (w.alloc (.cells cs 160)) := (Touch.refl _ _).alloc _
  have hsz : (⟨(be n v).toArray⟩ : ByteArray).size = n := by
    show (be n v).toArray.size = n
    simp [be_length]
  refine (put_st o F st ⟨(be n v).toArray⟩ _ (h.keep ht (by simp)) (by rw [hsz]; exact hb)).mono fun e w' ⟨he, hp⟩ => ⟨he, ?_⟩
  have := hp.up0 ht
  simpa using this

theorem number_nil (n v : Nat) (w : World) (hn : n ≤ 8) (hn1 : 1 ≤ n) :
    Calls Tryz.prog 82 #[.pointer none, .int .u64 v, .int .i64 n] w fun e w' => e = .returned (.pointer none) ∧ Touch [] w w' := by
  refine number_calls _ _ n v w hn hn1 fun cs => (put_nil _ _).mono fun e w' ⟨he, hw⟩ => ⟨he, ?_⟩
  subst hw
  exact (Touch.refl _ _).alloc _
end Go.Proofs.YtdjcpdlfapfmkaaGreat

namespace Go.Proofs.YtdjcpdlfapfmkaaGreat
set_option maxRecDepth 100000
open Go.RowKit Go.Lib

/-- What 'U8', 'U32' of n bytes do to the state. -/
def pSmall (n : Nat) (st : List UInt8 × Int) (v : Int) : List UInt8 × Int := if v < 0 ∨ (2 : Int) ^ (8 * n) ≤ v then pFail st 1 else pPut st (be n v.toNat)

theorem u32_st (o : Nat) (F : List Nat) (st : List UInt8 × Int) (v : Int) (w : World) (h : OutIs w o F st) (hb : st.1.length + 4 ≤ 140737488355328) :
    Calls Tryz.prog 32 #[.pointer (some ⟨o, 0, none⟩), .int .i64 v] w fun e w' => e = .returned (.pointer (some ⟨o, 0, none⟩)) ∧ StPost o F (pSmall 4 st v) w w' := by
  by_cases hv : v < 0 ∨ 4294967296 ≤ v
  · have C := hid (fail_st o F st 1 w h (by decide))
    have hs : pSmall 4 st v = pFail st 1 := by unfold pSmall; rw [if_pos (by simpa using hv)]
    rw [hs]
    clear h hs
    by_cases h0 : v < 0
    · clear hv
      go_enter Tryz.func32, Tryz.ntmps32
      go_wp2_with (go_at_call 81; refine C.out.mono ?_; rintro e w' ⟨rfl, hp⟩)
      go_ret
      exact ⟨rfl, hp⟩
    · have h1 : 4294967295 < v := by omega
      have h2 : 0 ≤ v := by omega
      clear hv h0
      go_enter Tryz.func32, Tryz.ntmps32
      go_wp2_with (go_at_call 81; refine C.out.mono ?_; rintro e w' ⟨rfl, hp⟩)
      go_ret
      exact ⟨rfl, hp⟩
  · obtain ⟨n, rfl⟩ := Int.eq_ofNat_of_zero_le (show 0 ≤ v by omega)
    have C := hid (number_st o F st 4 n w h (by omega) (by decide) (by decide))
    have hs : pSmall 4 st (n : Int) = pPut st (be 4 n) := by unfold pSmall; rw [if_neg (by simpa using hv)]; rfl
    rw [hs]
    have h1 : (n : Int) ≤ 4294967295 := by omega
    have h2 : (0 : Int) ≤ n := by omega
    clear h hs hv
    go_enter Tryz.func32, Tryz.ntmps32
    go_wp2_with (go_at_call 82; refine C.out.mono ?_; rintro e w' ⟨rfl, hp⟩)
    go_ret
    exact ⟨rfl, hp⟩
theorem u32_nil (v : Int) (w : World) :
    Calls Tryz.prog 32 #[.pointer none, .int .i64 v] w fun e w' => e = .returned (.pointer none) ∧ Touch [] w w' := by
  by_cases h0 : v < 0
  · go_enter Tryz.func32, Tryz.ntmps32
    go_wp2_with (go_at_call 81; refine (fail_nil _ _).mono ?_; rintro e w' ⟨rfl, rfl⟩)
    go_ret
    exact ⟨rfl, Touch.refl _ _⟩
  · obtain ⟨n, rfl⟩ := Int.eq_ofNat_of_zero_le (show 0 ≤ v by omega)
    by_cases h1 : (n : Int) ≤ 4294967295
    · have C := hid (number_nil 4 n w (by decide) (by decide))
      have h2 : (0 : Int) ≤ n := by omega
      clear h0
      go_enter Tryz.func32, Tryz.ntmps32
      go_wp2_with (go_at_call 82; refine C.out.mono ?_; rintro e w' ⟨rfl, hp⟩)
      go_ret
      exact ⟨rfl, hp⟩
    · have h1' : 4294967295 < (n : Int) := by omega
      have h2 : (0 : Int) ≤ n := by omega
      clear h0 h1
      go_enter Tryz.func32, Tryz.ntmps32
      go_wp2_with (go_at_call 81; refine (fail_nil _ _).mono ?_; rintro e w' ⟨rfl, rfl⟩)
      go_ret
      exact ⟨rfl, Touch.refl _ _⟩

/-- Text: ErrLong above 65,536. -/
def pText (st : List UInt8 × Int) (s : List UInt8) : List UInt8 × Int := if 65536 < s.length then pFail st 2 else pPut (pPut st (be 4 s.length)) s

end Go.Proofs.YtdjcpdlfapfmkaaGreat
