/- What real.Text returns. -/
import Derived.Test.YtiglfdefeaddmaaRealb
import Derived.Test.YtiglfdefeaddmaaHex
import Derived.Test.YtiglfdefeaddmaaWhole
import Derived.Test.YtiglfdefeaddmaaInb
import Derived.Lib.ItoaNum
import Derived.Lib.LaidTab
namespace Go.Proofs.Ytiglfdefeaddmaa
open Go.RowKit Go.Lib

abbrev Tab (w : World) : Prop := TabIs Try.prog w "internal/strconv.uint64pow10" .u64 pow10Tab
theorem Tab.touch {w w' : World} (h : Tab w) (ht : Touch [] w w') : Tab w' := by
  unfold Tab TabIs World.var? at *
  cases hg : Program.globalNamed Try.prog "internal/strconv.uint64pow10" with
  | none => rw [hg] at h; simp at h
  | some g =>
    rw [hg] at h
    simp only [Option.bind_some] at h ⊢
    have hlt : g < w.heap.size := by
      rcases Nat.lt_or_ge g w.heap.size with h' | h'
      · exact h'
      · simp [Array.getElem?_eq_none h'] at h
    rw [ht.block g hlt (by simp)]
    exact h

theorem archTrunc_run (b : Nat) (w : World) (hb : Wd b) (hn : isNan b = false) : (callFunc 86 #[.float .f64 b]).run Try.prog w = .ok (.value (.float .f64 (trB b))) w := by
  rw [run_callFunc_extern Try.func86 (by kernel_rfl) (by kernel_rfl) (by kernel_rfl) (e := Extern.MathFloor.toIntegral "math.archTrunc" .zero) (by kernel_rfl)]
  have h : ∃ s m p, FloatKind.f64.decode b = .number s m p ∨ FloatKind.f64.decode b = .infinity s := by
    rw [show FloatKind.f64.decode b = DD.read b from rfl, read_eq b hb.lt]
    unfold isNan at hn
    simp only [decide_eq_false_iff_not] at hn
    by_cases h1 : rung b < 9218868437227405312
    · rw [if_pos h1]; exact ⟨_, _, _, .inl rfl⟩
    · rw [if_neg h1, if_pos (by omega)]; exact ⟨neg b, 0, 0, .inr rfl⟩
  obtain ⟨s, m, p, h⟩ := h
  have e : Extern.MathFloor.toIntegral "math.archTrunc" .zero #[.float .f64 b] = pure (Value.float .f64 (FloatKind.f64.encode ((FloatKind.f64.decode b).integral .zero))) := by
    conv => lhs; whnf
    rcases h with h | h <;> rw [h]
  rw [e]
  rfl
theorem trunc_any (b : Nat) (w : World) (hb : Wd b) (hn : isNan b = false) :
    Calls Try.prog 68 #[.float .f64 b] w fun e w' => e = .returned (.float .f64 (trB b)) ∧ w = w' := by
  have h := fun w => archTrunc_run b w hb hn
  clear hn
  go_enter Try.func68, Try.ntmps68
  go_wp2
  go_ret
  exact ⟨rfl, rfl⟩

/-- What Text tells. -/
noncomputable def textOf (b : Nat) : List UInt8 :=
  if cls b = 0 then [110, 97, 110] else if cls b = 1 then [45, 105, 110, 102] else if cls b = 6 then [105, 110, 102] else if cls b = 3 then [45, 48]
  else if isW b = true then itoa (ival b) else 120 :: hexs (can b)
theorem cls_fin {b : Nat} (hb : Wd b) (h0 : cls b ≠ 0) (h1 : cls b ≠ 1) (h6 : cls b ≠ 6) : rung b < 9218868437227405312 ∧ isNan b = false := by
  have hn : isNan b = false := by
    apply isNan_false
    intro h
    exact h0 (by unfold cls; rw [if_pos h])
  refine ⟨?_, hn⟩
  have q1 : b ≠ 18442240474082181120 := fun h => h1 (by unfold cls; rw [hn, if_neg (by simp), if_pos h])
  have q6 : b ≠ 9218868437227405312 := fun h => h6 (by unfold cls; rw [hn, if_neg (by simp), if_neg (by rw [h]; decide), if_pos h])
  unfold isNan at hn
  have := hb.lt
  unfold rung at *
  simp at hn
  omega

theorem add_x (l : List UInt8) : (⟨#[120]⟩ : ByteArray) ++ ⟨l.toArray⟩ = ⟨(120 :: l).toArray⟩ := by
  apply ByteArray.ext
  rw [ByteArray.data_append]
  simp

end Go.Proofs.Ytiglfdefeaddmaa
