/- The walk of CodecReads, whatever came in. -/
import Derived.Test.YteaogpbbmekinaaDoorReadsn
import Derived.Test.YteaogpbbmekinaaDoorReadsz
import Derived.Test.YteaogpbbmekinaaDoorReadse
import Derived.Test.YteaogpbbmekinaaDoorOps
namespace Go.Proofs.YteaogpbbmekinaaDoor
open Go.RowKit Go.Lib Go.ChangeShapes

theorem Touch.cell {w w' : World} (ht : Touch [] w w') {a : Addr} {v : Value} (h : w.cell? a = some v) : w'.cell? a = some v := by
  rw [World.cell?_of_block (w := w) (a := a) (ht.block a.block (World.block_lt_of_cell? w _ h) (by simp))]
  exact h
theorem Steps.touch {w w' : World} {v : Value} {ops : List OpD} (h : Steps w v ops) (ht : Touch [] w w') : Steps w' v ops := by
  rcases h with h | ⟨b, off, cap, h1, h2, h3⟩
  · exact .inl h
  · refine .inr ⟨b, off, cap, h1, h2, fun i hi => ?_⟩
    obtain ⟨a0, a1, a2, a3, a4⟩ := h3 i hi
    exact ⟨ht.cell a0, ht.cell a1, ht.cell a2, ht.cell a3, a4⟩

theorem walk_CodecReads (b0 : ByteArray) (_wb : b0.size ≤ maxLen) (zero : Bool) (v : Value) (ops : List OpD) (en : Bool) (w : World) (htab : Tab w) (hv : Steps w v ops) :
    Calls Tryd.prog 4 #[.string b0, .bool zero, v, .bool en] w fun e w' => e = .returned (.bool true) ∧ Touch [] w w' := by
  by_cases hb : (6000 : Int) < b0.size
  · exact reads_long en zero b0 v w htab hb
  · have hb : (b0.size : Int) ≤ 6000 := by omega
    by_cases hl : IsLight ops
    · have hd : decide (IsLight ops) = true := by simpa using hl
      have hs := fun w1 (ht : Touch [] w w1) => light_steps v ops w1 (hv.touch ht)
      rw [hd] at hs
      rcases hv with ⟨x, c, rfl, rfl⟩ | ⟨b, off, cap, rfl, hlen, hc⟩
      · cases zero
        · exact reads_none en b0 x c w htab hb
        · exact reads_none_z en b0 x c w htab hb
      · have hc2 := fun i (h : i < ops.length) => And.intro (hc i h).1 (hc i h).2.1
        cases zero
        · exact reads_loop en b0 b off cap ops w htab hb hd hs hc2
        · exact reads_loop_z en b0 b off cap ops w htab hb hd hs hc2
    · have hd : decide (IsLight ops) = false := by simpa using hl
      have hs := light_steps v ops w hv
      rw [hd] at hs
      exact reads_heavy en zero b0 v w htab hb hs
end Go.Proofs.YteaogpbbmekinaaDoor
