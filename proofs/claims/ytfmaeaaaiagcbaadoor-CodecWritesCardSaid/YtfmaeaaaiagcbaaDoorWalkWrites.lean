/- The walk of CodecWrites, whatever came in. -/
import Derived.Test.YtfmaeaaaiagcbaaDoorWrites
namespace Go.Proofs.YtfmaeaaaiagcbaaDoor
open Go.RowKit Go.Lib Go.ChangeShapes

theorem Touch.cell {w w' : World} (ht : Touch [] w w') {a : Addr} {v : Value} (h : w.cell? a = some v) : w'.cell? a = some v := by
  rw [World.cell?_of_block (w := w) (a := a) (ht.block a.block (World.block_lt_of_cell? w _ h) (by simp))]
  exact h
theorem Steps.touch {w w' : World} {v : Value} {ops : List OpD} (h : Steps w v ops) (ht : Touch [] w w') : Steps w' v ops := by
  rcases h with h | ⟨b, off, cap, h1, h2, h3⟩
  · exact .inl h
  · refine .inr ⟨b, off, cap, h1, h2, fun i hi => ?_⟩
    obtain ⟨a0, a1, a2, a3, a4⟩ := h3 i hi
    exact ⟨ht.cell a0, ht.cell a1, ht.cell a2, ht.cell a3, a4⟩

theorem writes_heavy (v : Value) (w : World) (htab : Tab w) (hL : Calls Tryd.prog 4 #[v] w fun e w' => e = .returned (.bool false) ∧ w = w') :
    Calls Tryd.prog 3 #[v] w fun e w' => e = .returned (.bool true) ∧ Touch [] w w' := by
  have C0 := hid (alive_true w htab)
  have CL := hid hL
  clear htab hL
  go_enter Tryd.func3, Tryd.ntmps3
  go_wp2_with (first | (go_at_call 4; refine CL.out.mono ?_; rintro e w1 ⟨rfl, rfl⟩) | (go_at_call 5; refine C0.out.mono ?_; rintro e w1 ⟨rfl, a1⟩))
  go_ret
  exact ⟨rfl, a1⟩

set_option maxHeartbeats 1000000 in
theorem writes_none (x : Option Addr) (c : Nat) (w : World) (htab : Tab w) :
    Calls Tryd.prog 3 #[.slice x 0 c] w fun e w' => e = .returned (.bool true) ∧ Touch [] w w' := by
  have C0 := hid (alive_true w htab)
  have CL := hid (light_zero x c w)
  have CA := hid fun (w2 : World) (h : Touch [] w w2) => alive_true w2 (htab.touch h)
  clear htab
  go_enter Tryd.func3, Tryd.ntmps3
  go_wp2_with (first | (go_at_call 4; refine CL.out.mono ?_; rintro e w1 ⟨rfl, rfl⟩) | (go_at_call 5; refine C0.out.mono ?_; rintro e w1 ⟨rfl, a1⟩))
  have A2 : Hid (Touch [] w ((w1.alloc (.cells #[.pointer none, .int .i64 0, .int .i64 0] tOut)).alloc (.cells #[.slice none 0 0, .int .i64 0] tROut))) := (a1.alloc _).alloc _
  clear a1
  generalize (w1.alloc (.cells #[.pointer none, .int .i64 0, .int .i64 0] tOut)).alloc (.cells #[.slice none 0 0, .int .i64 0] tROut) = wr at *
  have CB := hid (CA.out _ A2.out)
  generalize w1.heap.size + 1 = X at *
  generalize w1.heap.size = O at *
  refine wp_loop_rounds 1 ?_
  rw [rounds_succ]
  go_wp2_with (go_at_call 5; refine CB.out.mono ?_; rintro e w9 ⟨rfl, a9⟩)
  go_ret
  exact ⟨rfl, A2.out.trans a9 (by simp)⟩

theorem walk_CodecWrites (v : Value) (ops : List OpD) (w : World) (htab : Tab w) (hv : Steps w v ops) :
    Calls Tryd.prog 3 #[v] w fun e w' => e = .returned (.bool true) ∧ Touch [] w w' := by
  by_cases hl : IsLight ops
  · have hd : decide (IsLight ops) = true := by simpa using hl
    have hs := fun w1 (ht : Touch [] w w1) => light_steps v ops w1 (hv.touch ht)
    rw [hd] at hs
    rcases hv with ⟨x, c, rfl, rfl⟩ | ⟨b, off, cap, rfl, hlen, hc⟩
    · exact writes_none x c w htab
    · exact writes_loop b off cap ops w htab hd hs hc
  · have hd : decide (IsLight ops) = false := by simpa using hl
    have hs := light_steps v ops w hv
    rw [hd] at hs
    exact writes_heavy v w htab hs
end Go.Proofs.YtfmaeaaaiagcbaaDoor
