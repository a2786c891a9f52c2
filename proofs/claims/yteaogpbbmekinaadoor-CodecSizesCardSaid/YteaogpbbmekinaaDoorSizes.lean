/- The walk of CodecSizes. -/
import Derived.Test.YteaogpbbmekinaaDoorAlive
namespace Go.Proofs.YteaogpbbmekinaaDoor
open Go.RowKit Go.Lib

abbrev newOut : Obj := .cells #[.pointer none, .int .i64 0, .int .i64 0] tOut

theorem two_outs (w : World) : OutIs ((w.alloc newOut).alloc newOut) w.heap.size [w.heap.size] ([], 0) ∧ OutIs ((w.alloc newOut).alloc newOut) (w.heap.size + 1) [w.heap.size + 1] ([], 0) := by
  refine ⟨(outIs_new w).keep ((Touch.refl [] _).alloc _) (by simp), ?_⟩
  have := outIs_new (w.alloc newOut)
  rw [World.size_alloc] at this
  exact this

set_option maxRecDepth 100000 in
set_option maxHeartbeats 1000000 in
theorem sizes_walk (v : Int) (s t : ByteArray) (e f : Int) (w : World) (htab : Tab w)
    (hs : pDone (pSmall 1 ([], 0) v) = .tuple #[.string s, .int .i64 e]) (ht : pDone (pSmall 4 ([], 0) v) = .tuple #[.string t, .int .i64 f])
    (hg : (0 ≤ v ∧ v ≤ 255 ∧ 0 ≤ v ∧ v ≤ 4294967295 ∧ e = 0 ∧ f = 0 ∧ s.size = 1 ∧ t.size = 4) ∨ (v < 0 ∧ e = 1 ∧ f = 1 ∧ s = ⟨#[]⟩ ∧ t = ⟨#[]⟩) ∨
      (0 ≤ v ∧ 255 < v ∧ v ≤ 4294967295 ∧ e = 1 ∧ f = 0 ∧ s = ⟨#[]⟩ ∧ t.size = 4) ∨ (0 ≤ v ∧ 255 < v ∧ 4294967295 < v ∧ e = 1 ∧ f = 1 ∧ s = ⟨#[]⟩ ∧ t = ⟨#[]⟩)) :
    Calls Tryd.prog 9 #[.int .i64 v] w fun e w' => e = .returned (.bool true) ∧ Touch [] w w' := by
  have C0 := hid (alive_true w htab)
  have Hs := hid hs; have Ht := hid ht; have Hg := hid hg
  clear htab hs ht hg
  go_enter Tryd.func9, Tryd.ntmps9
  go_wp2_with (go_at_call 14; refine C0.out.mono ?_; rintro e w1 ⟨rfl, a1⟩)
  have A1 := hid a1; clear a1
  have C1 := hid (u8_st _ _ _ v _ (two_outs w1).1 (by decide))
  go_wp2_with (go_at_call 15; refine C1.out.mono ?_; rintro e w2 ⟨rfl, hp⟩)
  obtain ⟨F1, b1, b2, b3⟩ := hp
  have C2 := hid (done_st _ _ _ _ b1)
  rw [Hs.out] at C2
  have B2 := hid b2; have B3 := hid b3
  clear b1 b2 b3
  go_wp2_with (go_at_call 26; refine C2.out.mono ?_; rintro e w3 ⟨rfl, n, rfl⟩)
  have D2 : Hid (Touch [w1.heap.size] ((w1.alloc newOut).alloc newOut) (w2.drewN n)) := B2.out.drewN n
  generalize w2.drewN n = w3 at *
  have C3 := hid (u32_st _ _ _ v w3 ((two_outs w1).2.keep D2.out (by simp)) (by decide))
  have D3 : Hid (Touch [] w w3) := A1.out.trans ((((Touch.refl [] w1).alloc newOut).alloc newOut).trans D2.out (by simp)) (by simp)
  have hsz1 : Hid (w.heap.size ≤ w1.heap.size) := A1.out.size
  have hsz3 : Hid (w1.heap.size + 2 ≤ w3.heap.size) := by have := D2.out.size; simp at this; exact this
  go_wp2_with (go_at_call 17; refine C3.out.mono ?_; rintro e w4 ⟨rfl, hp⟩)
  obtain ⟨F2, c1, c2, c3⟩ := hp
  have C4 := hid (done_st _ _ _ _ c1)
  rw [Ht.out] at C4
  have D4 : Hid (Touch [] w w4) := D3.out.trans c2 (by intro x hx; simp at hx; subst hx; have := hsz1.out; right; omega)
  clear c1 c2 c3
  rcases Hg.out with ⟨h1, h2, h3, h4, rfl, rfl, h5, h6⟩ | ⟨h1, rfl, rfl, rfl, rfl⟩ | ⟨h1, h2, h3, rfl, rfl, rfl, h5⟩ | ⟨h1, h2, h3, rfl, rfl, rfl, rfl⟩
  · go_wp2_with (go_at_call 26; refine C4.out.mono ?_; rintro e w5 ⟨rfl, m, rfl⟩)
    go_ret
    exact ⟨rfl, D4.out.drewN m⟩
  · go_wp2_with (go_at_call 26; refine C4.out.mono ?_; rintro e w5 ⟨rfl, m, rfl⟩)
    go_ret
    exact ⟨rfl, D4.out.drewN m⟩
  · go_wp2_with (go_at_call 26; refine C4.out.mono ?_; rintro e w5 ⟨rfl, m, rfl⟩)
    go_ret
    exact ⟨rfl, D4.out.drewN m⟩
  · go_wp2_with (go_at_call 26; refine C4.out.mono ?_; rintro e w5 ⟨rfl, m, rfl⟩)
    go_ret
    exact ⟨rfl, D4.out.drewN m⟩

theorem pDone_bad : pDone (pFail ([], 0) 1) = .tuple #[.string ⟨#[]⟩, .int .i64 1] := by simp [pFail, pDone]
theorem pDone_be (n v : Nat) : pDone (pPut ([], 0) (be n v)) = .tuple #[.string ⟨(be n v).toArray⟩, .int .i64 0] := by simp [pPut, pDone]
theorem be_size (n v : Nat) : (⟨(be n v).toArray⟩ : ByteArray).size = n := by
  show (be n v).toArray.size = n
  simp [be_length]
theorem small_good (n : Nat) (v : Int) (h0 : 0 ≤ v) (h1 : v < 2 ^ (8 * n)) : pSmall n ([], 0) v = pPut ([], 0) (be n v.toNat) := by unfold pSmall; rw [if_neg (by omega)]
theorem small_bad (n : Nat) (v : Int) (h : v < 0 ∨ 2 ^ (8 * n) ≤ v) : pSmall n ([], 0) v = pFail ([], 0) 1 := by unfold pSmall; rw [if_pos h]

theorem walk_CodecSizes (v : Int) (_wv : (Lit.int .i64 v).wf = true) (w : World) (htab : Tab w) :
    Calls Tryd.prog 9 #[.int .i64 v] w fun e w' => e = .returned (.bool true) ∧ Touch [] w w' := by
  by_cases h0 : 0 ≤ v
  · by_cases h1 : v ≤ 255
    · exact sizes_walk v _ _ _ _ w htab (by rw [small_good 1 v h0 (by simp; omega), pDone_be]) (by rw [small_good 4 v h0 (by simp; omega), pDone_be]) (.inl ⟨h0, h1, h0, by omega, rfl, rfl, be_size _ _, be_size _ _⟩)
    · by_cases h2 : v ≤ 4294967295
      · exact sizes_walk v _ _ _ _ w htab (by rw [small_bad 1 v (by simp; omega), pDone_bad]) (by rw [small_good 4 v h0 (by simp; omega), pDone_be]) (.inr (.inr (.inl ⟨h0, by omega, h2, rfl, rfl, rfl, be_size _ _⟩)))
      · exact sizes_walk v _ _ _ _ w htab (by rw [small_bad 1 v (by simp; omega), pDone_bad]) (by rw [small_bad 4 v (by simp; omega), pDone_bad]) (.inr (.inr (.inr ⟨h0, by omega, by omega, rfl, rfl, rfl, rfl⟩)))
  · exact sizes_walk v _ _ _ _ w htab (by rw [small_bad 1 v (by omega), pDone_bad]) (by rw [small_bad 4 v (by omega), pDone_bad]) (.inr (.inl ⟨by omega, rfl, rfl, rfl, rfl⟩))
end Go.Proofs.YteaogpbbmekinaaDoor
