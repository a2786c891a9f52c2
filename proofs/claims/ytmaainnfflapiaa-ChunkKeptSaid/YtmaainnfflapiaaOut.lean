/- What the methods of codec.Out return and leave, at whatever world holds an Out: function by function, the leaves first. -/
import Derived.Test.YtmaainnfflapiaaBase
import Derived.Test.YtmaainnfflapiaaProg
namespace Go.Proofs.Ytmaainnfflapiaa
set_option maxRecDepth 100000
open Go.RowKit Go.Lib

abbrev tOut : TypeId := 80
abbrev tPool : TypeId := 141
abbrev tByte : TypeId := 5

/-- The Out at block o holds bs and no error; its blocks are F. -/
def IsOut (w : World) (o : Nat) (F : List Nat) (bs : List UInt8) : Prop :=
  (w.heap[o]? = some (.cells #[.pointer none, .int .i64 0, .int .i64 0] tOut (0, 0)) ∧ bs = [] ∧ F = [o]) ∨
  ∃ p g cap, w.heap[o]? = some (.cells #[.pointer (some ⟨p, 0, none⟩), .int .i64 bs.length, .int .i64 0] tOut (0, 0)) ∧ w.heap[p]? = some (.cells #[.slice (some ⟨g, 0, none⟩) bs.length cap] tPool (0, 0)) ∧
    Bts tByte w g cap bs ∧ o ≠ p ∧ o ≠ g ∧ p ≠ g ∧ F = [o, p, g]

theorem Try.infoByte : (Try.prog.info? 5).map (fun i => (i.zero, i.size, i.bytes)) = some (some (.int .u8 0), 1, 1) := by kernel_rfl

theorem text_none (o : Nat) (w : World) (h : w.heap[o]? = some (.cells #[.pointer none, .int .i64 0, .int .i64 0] tOut (0, 0))) :
    Calls Try.prog 82 #[.pointer (some ⟨o, 0, none⟩)] w fun e w' => e = .returned (.string ⟨#[]⟩) ∧ w = w' := by
  have c0 : w.cell? ⟨o, 0, none⟩ = some (.pointer none) := cell_of h 0
  clear h
  go_enter Try.func82, Try.ntmps82
  go_wp2
  go_ret
  exact ⟨rfl, rfl⟩

theorem text_some (o p g cap : Nat) (bs : List UInt8) (er : Value) (w : World) (h : w.heap[o]? = some (.cells #[.pointer (some ⟨p, 0, none⟩), .int .i64 bs.length, er] tOut (0, 0)))
    (hp : w.heap[p]? = some (.cells #[.slice (some ⟨g, 0, none⟩) bs.length cap] tPool (0, 0))) (hg : Bts tByte w g cap bs) :
    Calls Try.prog 82 #[.pointer (some ⟨o, 0, none⟩)] w fun e w' => e = .returned (.string ⟨bs.toArray⟩) ∧ ∃ n, w.drewN n = w' := by
  have c0 : w.cell? ⟨o, 0, none⟩ = some (.pointer (some ⟨p, 0, none⟩)) := cell_of h 0
  have c1 : w.cell? ⟨o, 1, none⟩ = some (.int .i64 bs.length) := cell_of h 1
  have c2 : w.cell? ⟨p, 0, none⟩ = some (.slice (some ⟨g, 0, none⟩) bs.length cap) := cell_of hp 0
  have hle : (bs.length : Int) ≤ (cap : Int) := by obtain ⟨_, _, _, _, h1, _⟩ := hg; omega
  have hconv : ∀ n, (convert 52 9 (.slice (some ⟨g, 0, none⟩) bs.length cap)).run Try.prog (w.drewN n) = .ok (.string ⟨bs.toArray⟩) (w.drewN n) := fun n =>
    run_convert_bytes_back (w.drewN n) 52 9 tByte ⟨g, 0, none⟩ cap bs rfl rfl rfl (Bts.cell (hg.of_heap (by rw [drewN_heap])))
  clear h hp
  go_enter Try.func82, Try.ntmps82
  go_wp2
  go_quiet (fail)
  go_wp2
  go_ret
  exact ⟨rfl, _, rfl⟩

/-- What 'put' leaves. -/
def PutPost (o : Nat) (F : List Nat) (bs : List UInt8) (w : World) (e : Ending) (w' : World) : Prop :=
  e = .returned (.pointer (some ⟨o, 0, none⟩)) ∧ ∃ F', IsOut w' o F' bs ∧ Touch F w w' ∧ ∀ f ∈ F', f ∈ F ∨ w.heap.size ≤ f

theorem put_close {o p g g1 cap cap1 m : Nat} {bs : List UInt8} {s : ByteArray} {w w1 : World} (h : w.heap[o]? = some (.cells #[.pointer (some ⟨p, 0, none⟩), .int .i64 bs.length, .int .i64 0] tOut (0, 0)))
    (hp : w.heap[p]? = some (.cells #[.slice (some ⟨g, 0, none⟩) bs.length cap] tPool (0, 0))) (hg : Bts tByte w g cap bs) (hop : o ≠ p) (hog : o ≠ g) (hpg : p ≠ g)
    (hB : Bts tByte w1 g1 cap1 (bs ++ s.data.toList)) (hgr : (w.drewN m).grownBy w1 (some g)) (hl : g1 = g ∨ g1 = (w.drewN m).heap.size) :
    PutPost o [o, p, g] (bs ++ s.data.toList) w (.returned (.pointer (some ⟨o, 0, none⟩))) ((w1.setCell ⟨p, 0, none⟩ (.slice (some ⟨g1, 0, none⟩) (bs.length + s.size) cap1)).setCell ⟨o, 1, none⟩ (.int .i64 (↑bs.length + ↑s.size))) := by
  have holt := lt_of_block h
  have hplt := lt_of_block hp
  have hglt := hg.lt
  have hs : (w.drewN m).heap.size = w.heap.size := by rw [drewN_heap]
  rw [hs] at hl
  have ho1 : w1.heap[o]? = some (.cells #[.pointer (some ⟨p, 0, none⟩), .int .i64 bs.length, .int .i64 0] tOut (0, 0)) := by rw [hgr.block o (by rw [hs]; exact holt) (by simp; exact hog), drewN_heap]; exact h
  have hp1 : w1.heap[p]? = some (.cells #[.slice (some ⟨g, 0, none⟩) bs.length cap] tPool (0, 0)) := by rw [hgr.block p (by rw [hs]; exact hplt) (by simp; exact hpg), drewN_heap]; exact hp
  have hog1 : o ≠ g1 := by rcases hl with rfl | rfl; exact hog; omega
  have hpg1 : p ≠ g1 := by rcases hl with rfl | rfl; exact hpg; omega
  refine ⟨rfl, [o, p, g1], .inr ⟨p, g1, cap1, ?_, ?_, ?_, hop, hog1, hpg1, rfl⟩, ?_, ?_⟩
  · have := heap_set (i := 1) (w := w1.setCell ⟨p, 0, none⟩ (.slice (some ⟨g1, 0, none⟩) (bs.length + s.size) cap1)) (b := o) (cs := #[.pointer (some ⟨p, 0, none⟩), .int .i64 bs.length, .int .i64 0]) (t := tOut) (fz := (0, 0)) (by rw [heap_set_other _ hop]; exact ho1) (.int .i64 (↑bs.length + ↑s.size))
    rw [this]
    simp
  · rw [heap_set_other _ (fun e => hop e.symm), heap_set hp1]
    simp
  · exact (hB.of_heap (heap_set_other _ (fun e => hpg1 e.symm))).of_heap (heap_set_other _ (fun e => hog1 e.symm))
  · refine Touch.setCell (Touch.setCell (Touch.grown ((Touch.refl _ w).drewN m) hgr ?_) ?_ _) ?_ _
    · intro k hk; obtain rfl := Option.some.inj hk; exact .inl (by simp)
    · exact .inl (by simp)
    · exact .inl (by simp)
  · intro f hf
    simp only [List.mem_cons, List.not_mem_nil, or_false] at hf ⊢
    rcases hf with rfl | rfl | rfl
    · exact .inl (.inl rfl)
    · exact .inl (.inr (.inl rfl))
    · rcases hl with rfl | rfl
      · exact .inl (.inr (.inr rfl))
      · exact .inr (Nat.le_refl _)

theorem put_some (o p g cap : Nat) (bs : List UInt8) (s : ByteArray) (w : World) (h : w.heap[o]? = some (.cells #[.pointer (some ⟨p, 0, none⟩), .int .i64 bs.length, .int .i64 0] tOut (0, 0)))
    (hp : w.heap[p]? = some (.cells #[.slice (some ⟨g, 0, none⟩) bs.length cap] tPool (0, 0))) (hg : Bts tByte w g cap bs) (hop : o ≠ p) (hog : o ≠ g) (hpg : p ≠ g) (hb : bs.length + s.size ≤ 140737488355328) :
    Calls Try.prog 92 #[.pointer (some ⟨o, 0, none⟩), .string s] w (PutPost o [o, p, g] (bs ++ s.data.toList) w) := by
  have c0 : w.cell? ⟨o, 0, none⟩ = some (.pointer (some ⟨p, 0, none⟩)) := cell_of h 0
  have c1 : w.cell? ⟨o, 1, none⟩ = some (.int .i64 bs.length) := cell_of h 1
  have c2 : w.cell? ⟨o, 2, none⟩ = some (.int .i64 0) := cell_of h 2
  have d0 : w.cell? ⟨p, 0, none⟩ = some (.slice (some ⟨g, 0, none⟩) bs.length cap) := cell_of hp 0
  have f0 : w.frozen? ⟨p, 0, none⟩ = false := free_of hp 0
  have f1 : w.frozen? ⟨o, 1, none⟩ = false := free_of h 1
  have hplt : p < w.heap.size := lt_of_block hp
  have holt : o < w.heap.size := lt_of_block h
  have H := hid h; clear h
  have Hp := hid hp; clear hp
  have Hg := hid hg; clear hg
  go_enter Try.func92, Try.ntmps92
  go_wp2
  go_quiet (fail)
  go_wp2
  obtain ⟨i0, hi, hz0, hz1, hz2⟩ := info_parts Try.infoByte
  go_region_law ((refine step_append_bts rfl (.tmp 53) (.tmp 54) 52 9 rfl tByte i0 rfl rfl hi hz0 hz1 hz2 g bs.length cap bs rfl (by simp [Act.eval]) (Hg.out.of_heap (by first | rfl | simp)) s (by simp [Act.eval]) hb ?_); (intro g1 cap1 w1 hB1 hgr1 hl1); (have e0 : w1.cell? ⟨o, 0, none⟩ = some (.pointer (some ⟨p, 0, none⟩)) := hgr1.cell c0 (by simp; exact hog)); (have e1 : w1.cell? ⟨p, 0, none⟩ = some (.slice (some ⟨g, 0, none⟩) bs.length cap) := hgr1.cell d0 (by simp; exact hpg)); (have e2 : w1.frozen? ⟨p, 0, none⟩ = false := (hgr1.frozen_far ⟨p, 0, none⟩ (by simpa using hplt) (by simp; exact hpg)).trans (by simpa using f0)); (have e3 : w1.cell? ⟨o, 1, none⟩ = some (.int .i64 bs.length) := hgr1.cell c1 (by simp; exact hog)); (have e4 : w1.frozen? ⟨o, 1, none⟩ = false := (hgr1.frozen_far ⟨o, 1, none⟩ (by simpa using holt) (by simp; exact hog)).trans (by simpa using f1)))
  all_goals (go_wp2; go_ret; exact put_close H.out Hp.out Hg.out hop hog hpg hB1 hgr1 hl1)
end Go.Proofs.Ytmaainnfflapiaa
