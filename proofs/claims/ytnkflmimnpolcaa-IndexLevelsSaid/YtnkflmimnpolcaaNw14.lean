/- A new index; what is in memory; how many; the levels' counts. -/
import Derived.Test.YtnkflmimnpolcaaTs14
import Derived.Test.YtnkflmimnpolcaaEx14
import Derived.OwnWalk
namespace Go.Proofs.Ytnkflmimnpolcaa
open Go.RowKit Go.Lib
set_option maxRecDepth 100000

theorem new14_any (room most : Int) (w : World) :
    Calls Try.prog 9 #[.int .i64 room, .int .i64 most] w fun e w' => ∃ xb, e = .returned (.pointer (some ⟨xb, 0, none⟩)) ∧ IxAt w' xb (max room 1).toNat (max most 2).toNat .nil [] ∧ Touch [] w w' ∧ w.heap.size ≤ xb := by
  have C := hid fun w => new_any w
  have FIN : Hid (∀ (r m : Int), r = max room 1 → m = max most 2 → ∀ xb, xb = (w.alloc (.cells #[.pointer none] 47)).heap.size → IxAt ((w.alloc (.cells #[.pointer none] 47)).alloc (.cells #[.int .i64 r, .int .i64 m, .pointer none, .slice none 0 0] TIx)) xb (max room 1).toNat (max most 2).toNat .nil []) := hid (by
    intro r m hr hm xb hx
    subst hx
    refine ⟨⟨none, none, 0, ?_, rfl, ⟨World.ownsRow_nil _ _ _ _, by simp⟩⟩, by omega, by omega⟩
    rw [heap_alloc_new]
    have e1 : (((max room 1).toNat : Nat) : Int) = r := by omega
    have e2 : (((max most 2).toNat : Nat) : Int) = m := by omega
    rw [e1, e2]
    rfl)
  have c0 := cell_of (heap_alloc_new w (.cells #[.pointer none] 47)) 0
  go_enter Try.func9, Try.ntmps9
  go_wp2_with (go_at_call 7; refine (C.out w).mono ?_; rintro e w1 ⟨rfl, rfl⟩)
  all_goals go_ret
  all_goals exact ⟨_, rfl, FIN.out _ _ (by omega) (by omega) _ (by simp), ((Touch.refl [] w).alloc _).alloc _, by simp⟩
theorem made_any {xb room most : Nat} {T : Tr} {L : List LvV} {w : World} (h : IxAt w xb room most T L) : Calls Try.prog 28 #[.pointer (some ⟨xb, 0, none⟩)] w fun e w' => e = .returned (.bool true) ∧ w' = w := by
  obtain ⟨⟨r, x, c, hb, -, -⟩, h1, -⟩ := h
  have c0 := cell_of hb 0
  have hp : decide (0 < room) = true := by rw [decide_eq_true_eq]; omega
  clear hb
  go_enter Try.func28, Try.ntmps28
  go_wp2
  go_ret
  exact ⟨rfl, rfl⟩
theorem memory_any (xb : Nat) (w : World) : Calls Try.prog 37 #[.pointer (some ⟨xb, 0, none⟩)] w fun e w' => e = .returned (.pointer (some ⟨xb, 2, none⟩)) ∧ w' = w := by
  go_enter Try.func37, Try.ntmps37
  go_wp2
  go_ret
  exact ⟨rfl, rfl⟩
theorem mem_any {xb room most : Nat} {T : Tr} {L : List LvV} {w : World} (h : IxAt w xb room most T L) : Calls Try.prog 25 #[.pointer (some ⟨xb, 0, none⟩)] w fun e w' => e = .returned (.int .i64 T.io.length) ∧ w' = w := by
  have C1 := hid (memory_any xb w)
  have C2 := hid (tablen_any w h.mem)
  rw [T.ct_io] at C2
  clear h
  go_enter Try.func25, Try.ntmps25
  go_wp2_with (first
    | (go_at_call 37; refine C1.out.mono ?_; rintro e w1 ⟨rfl, h⟩; have h := h.symm; subst h)
    | (go_at_call 22; refine C2.out.mono ?_; rintro e w1 ⟨rfl, h⟩; have h := h.symm; subst h))
  go_ret
  exact ⟨rfl, rfl⟩
/-- How many tables each level has. -/
def cntL (L : List LvV) : List Int := L.map fun v => (v.ts.length : Int)
theorem intV_one (l : List Int) : ∀ u ∈ intV l, u.oneCell' = true := by
  intro u hu
  obtain ⟨t, _, rfl⟩ := List.mem_map.1 hu
  rfl
set_option maxHeartbeats 2000000 in
theorem levels_any {xb room most : Nat} {T : Tr} {L : List LvV} {w : World} (h : IxAt w xb room most T L) (nL : L.length ≤ 1000000) :
    Calls Try.prog 26 #[.pointer (some ⟨xb, 0, none⟩)] w fun e w' => ∃ u, e = .returned u ∧ w'.ownsRow w.heap.size TInt 1 u L.length (intV (cntL L)) ∧ Touch [] w w' := by
  obtain ⟨⟨r, lx, lc, hb, -, hL⟩, -, -⟩ := h
  have c3 := cell_of hb 3
  have HL := hid hL
  obtain ⟨i0, hi, hz0, hz1, hz2⟩ := info_parts infoInt
  clear hb hL
  go_enter Try.func26, Try.ntmps26
  go_wp2
  go_loopw [3, 13] (fun uv iv wr => ∃ k : Nat, k ≤ L.length ∧ iv = .int .i64 k ∧ wr.ownsRow w.heap.size TInt 1 uv k (intV (cntL (L.take k))) ∧ Touch [] w wr) (fun _ iv _ => L.length - (RowKit.intOf iv).toNat)
  case atStart => exact ⟨0, Nat.zero_le _, rfl, World.ownsRow_nil _ _ _ _, Touch.refl _ _⟩
  case round =>
    obtain ⟨k, hk, rfl, hown, ht⟩ := hrel
    obtain ⟨yu, cu, rfl, -, -⟩ := slice_form hown
    have HT := hid ht
    have HO := hid hown
    clear ht hown
    by_cases hlt : k < L.length
    · have hlt2 : decide (k < L.length) = true := by simpa using hlt
      have hI : (k : Int) < L.length := by omega
      obtain ⟨b, off, rfl, g0⟩ := HL.out.row k (by simpa using hlt)
      rw [List.getElem_map] at g0
      have e0 := HT.out.cell g0
      have TK : Hid (intV (cntL (L.take (k + 1))) = intV (cntL (L.take k)) ++ [.int .i64 ((L[k]).ts.length : Nat)]) := hid (by rw [List.take_succ_eq_append_getElem hlt]; unfold cntL intV; rw [List.map_append, List.map_append]; rfl)
      generalize L[k] = v at *
      obtain ⟨vx, vc, ts⟩ := v
      unfold LvV.val at e0
      dsimp only at e0 TK
      clear g0
      go_wp2_with (at_builtin; refine wpList_append_grew _ rfl _ _ TInts rfl w.heap.size TInt i0 (.int .i64 0) 1 8 Try.underlying23 hi hz0 hz1 hz2 rfl (by decide) _ k (intV (cntL (L.take k))) rfl (HO.out.alloc _) (.slice (some ⟨wr.heap.size, 0, none⟩) 1 1) 1 0 [.int .i64 (ts.length : Nat)] rfl (lit_one _ _ _ _ rfl) (by intro u hu; simp at hu; subst hu; rfl) (by omega) (by decide) (by have := HT.out.size; simp; omega) ?_; intro y cap w2 hG; have G := hid hG; clear hG)
      go_roundw
      case rel => exact ⟨k + 1, by omega, by go_num, by rw [TK.out]; exact G.out.own, G.out.touch (HO.out.alloc _) (HT.out.alloc _) (Nat.le_refl _)⟩
      case measure => simp [RowKit.intOf]; omega
    · obtain rfl : k = L.length := by omega
      have hlt2 : decide (L.length < L.length) = false := by simp
      rw [List.take_length] at HO
      go_wp2
      go_ret
      exact ⟨_, rfl, HO.out, HT.out⟩
end Go.Proofs.Ytnkflmimnpolcaa
