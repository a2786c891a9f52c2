/- 'alive' of the laws of chapter 1: it returns true. -/
import Derived.Test.YtfmaeaaaiagcbaaDoorInb
namespace Go.Proofs.YtfmaeaaaiagcbaaDoor
open Go.RowKit Go.Lib

abbrev Tab (w : World) : Prop := TabIs Tryd.prog w "internal/strconv.uint64pow10" .u64 pow10Tab

theorem Tab.touch {w w' : World} (h : Tab w) (ht : Touch [] w w') : Tab w' := by
  unfold Tab TabIs World.var? at *
  cases hg : Program.globalNamed Tryd.prog "internal/strconv.uint64pow10" with
  | none => rw [hg] at h; simp at h
  | some g =>
    rw [hg] at h
    simp only [Option.bind_some] at h ⊢
    have hlt : g < w.heap.size := by
      rcases Nat.lt_or_ge g w.heap.size with h' | h'
      · exact h'
      · simp [Array.getElem?_eq_none h'] at h
    rw [ht.block g hlt (by simp)]
    exact h

theorem outIs_new (w : World) : OutIs (w.alloc (.cells #[.pointer none, .int .i64 0, .int .i64 0] tOut)) w.heap.size [w.heap.size] ([], 0) :=
  .inl ⟨rfl, .inl ⟨heap_alloc_new _ _, rfl, rfl⟩⟩
/-- A new Out behind what it was given. -/
theorem StPost.new {st : List UInt8 × Int} {w w' : World} (h : StPost w.heap.size [w.heap.size] st (w.alloc (.cells #[.pointer none, .int .i64 0, .int .i64 0] tOut)) w') : ∃ F, OutIs w' w.heap.size F st ∧ Touch [] w w' ∧ ∀ f ∈ F, w.heap.size ≤ f := by
  obtain ⟨F, h1, h2, h3⟩ := h
  refine ⟨F, h1, ((Touch.refl [] w).alloc _).trans h2 (by simp), fun f hf => ?_⟩
  rcases h3 f hf with h4 | h4
  · simp at h4; omega
  · simp at h4; omega

set_option maxRecDepth 100000 in
set_option maxHeartbeats 1000000 in
theorem alive_true (w : World) (htab : Tab w) :
    Calls Tryd.prog 5 #[] w fun e w' => e = .returned (.bool true) ∧ Touch [] w w' := by
  have Ht := hid htab; clear htab
  have C1 := hid (u32_st w.heap.size [w.heap.size] ([], 0) 258 _ (outIs_new w) (by decide))
  go_enter Tryd.func5, Tryd.ntmps5
  go_wp2_with (go_at_call 8; refine C1.out.mono ?_; rintro e w1 ⟨rfl, hp⟩)
  obtain ⟨F1, a1, a2, a3⟩ := StPost.new hp
  have C2 := hid (text_st _ F1 _ ⟨#[97, 98]⟩ _ a1 (by decide))
  have A2 := hid a2; have A3 := hid a3; clear a1 a2 a3 hp
  go_wp2_with (go_at_call 15; refine C2.out.mono ?_; rintro e w2 ⟨rfl, hp⟩)
  obtain ⟨F2, b1, b2, b3⟩ := hp
  have C3 := hid (done_st _ F2 _ _ b1)
  have A4 : Hid (Touch [] w w2) := A2.out.trans b2 (fun f hf => .inr (A3.out f hf))
  clear b1 b2 b3
  have hd : pDone (pText (pSmall 4 ([], 0) 258) [97, 98]) = .tuple #[.string ⟨#[0, 0, 1, 2, 0, 0, 0, 2, 97, 98]⟩, .int .i64 0] := by kernel_rfl
  rw [hd] at C3
  clear hd
  go_wp2_with (go_at_call 17; refine C3.out.mono ?_; rintro e w3 ⟨rfl, n, rfl⟩)
  have A5 : Hid (Touch [] w (w2.drewN n)) := A4.out.drewN n
  generalize w2.drewN n = w4 at *
  have C4 := hid (newIn_any ⟨#[0, 0, 1, 2, 7]⟩ w4)
  go_wp2_with (go_at_call 20; refine C4.out.mono ?_; rintro e w5 ⟨rfl, c1, c2⟩)
  have C5 := hid (inU32_st _ _ _ c1)
  have A6 : Hid (Touch [] w w5) := A5.out.trans c2 (by simp)
  have A7 : Hid (w.heap.size ≤ w4.heap.size) := A5.out.size
  clear c1 c2
  have hv : val (iTake ([0, 0, 1, 2, 7], 0) 4).1 = 258 ∧ (iTake ([0, 0, 1, 2, 7], 0) 4).2 = ([7], 0) := by decide
  rw [hv.1, hv.2] at C5
  clear hv
  go_wp2_with (go_at_call 21; refine C5.out.mono ?_; rintro e w6 ⟨rfl, d1, d2⟩)
  have C6 := hid (left_st _ _ _ d1)
  have A8 : Hid (Touch [] w w6) := A6.out.trans d2 (fun x hx => by simp at hx; subst hx; exact .inr A7.out)
  clear d1 d2
  go_wp2_with (go_at_call 22; refine C6.out.mono ?_; rintro e w7 ⟨rfl, rfl⟩)
  have C7 := hid (digits_any (-7) w6 (by decide) (by decide) (Ht.out.touch A8.out))
  have hd7 : (⟨(itoa (-7)).toArray⟩ : ByteArray) = ⟨#[45, 55]⟩ := by decide +kernel
  rw [hd7] at C7
  clear hd7
  go_wp2_with (go_at_call 23; refine C7.out.mono ?_; rintro e w8 ⟨rfl, e1⟩)
  have A9 : Hid (Touch [] w w8) := A8.out.trans e1 (by simp)
  clear e1
  go_ret
  exact ⟨rfl, A9.out⟩
end Go.Proofs.YtfmaeaaaiagcbaaDoor
