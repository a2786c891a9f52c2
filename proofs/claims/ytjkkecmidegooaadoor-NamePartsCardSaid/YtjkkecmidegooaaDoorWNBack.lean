/- The walk of NameBack. -/
import Derived.Test.YtjkkecmidegooaaDoorNAlive
namespace Go.Proofs.YtjkkecmidegooaaDoor
open Go.RowKit Go.Lib Go.ChangeShapes

theorem itoa_no (v : Int) : (64 : UInt8) ∉ itoa v := by
  have hd : ∀ u, (64 : UInt8) ∉ decDigits u := fun u h => by
    have := dec_dig u 64 h
    simp [isDig] at this
  unfold itoa
  split
  · simp only [List.mem_cons, not_or]
    exact ⟨by decide, hd _⟩
  · exact hd _
theorem hd_link (v : Int) (l : List UInt8) : hdB 64 (itoa v ++ 64 :: l) = itoa v ∧ tlB 64 (itoa v ++ 64 :: l) = l := by
  have h := hdB_at (c := 64) (l := itoa v ++ 64 :: l) (i := (itoa v).length) (by simp) (by simp) (by simpa using itoa_no v)
  refine ⟨by rw [h.1]; simp, ?_⟩
  rw [h.2.1, List.drop_append]
  simp
theorem back_early (v : Int) (s : ByteArray) (w : World) (htab : Tab w) (h : (300 : Int) < s.size ∨ ((s.size : Int) ≤ 300 ∧ strm s.data.toList = false) ∨ ((s.size : Int) ≤ 300 ∧ strm s.data.toList = true ∧ v < 0) ∨ ((s.size : Int) ≤ 300 ∧ strm s.data.toList = true ∧ 0 ≤ v ∧ 999999999999999999 < v)) :
    Calls Tryd.prog 4 #[.int .i64 v, .string s] w fun e w' => e = .returned (.bool true) ∧ Touch [] w w' := by
  have Ht := hid htab; clear htab
  have C1 := hid (fun w => stm_any s w)
  rcases h with h | ⟨h1, h2⟩ | ⟨h1, h2, h3⟩ | ⟨h1, h2, h3, h4⟩
  · have C0 := hid (alive_true w Ht.out)
    go_enter Tryd.func4, Tryd.ntmps4
    go_wp2_with (go_at_call 8; refine C0.out.mono ?_; rintro e w1 ⟨rfl, a1⟩)
    go_ret
    exact ⟨rfl, a1⟩
  all_goals
    rw [h2] at C1
    clear h2
    go_enter Tryd.func4, Tryd.ntmps4
    go_wp2_with (go_at_call 13; refine (C1.out _).mono ?_; rintro e w1 ⟨rfl, a1⟩)
    have A1 := hid a1; clear a1
    have C0 := hid (alive_true w1 (Ht.out.touch A1.out))
    go_wp2_with (go_at_call 8; refine C0.out.mono ?_; rintro e w2 ⟨rfl, a2⟩)
    go_ret
    exact ⟨rfl, A1.out.trans a2 (by simp)⟩

theorem walk_NameBack (v : Int) (_wv : (Lit.int .i64 v).wf = true) (s : ByteArray) (_ws : s.size ≤ maxLen) (w : World) (htab : Tab w) :
    Calls Tryd.prog 4 #[.int .i64 v, .string s] w fun e w' => e = .returned (.bool true) ∧ Touch [] w w' := by
  by_cases g1 : (300 : Int) < s.size
  · exact back_early v s w htab (.inl g1)
  have h1 : (s.size : Int) ≤ 300 := by omega
  by_cases g2 : strm s.data.toList = true
  rotate_left
  · exact back_early v s w htab (.inr (.inl ⟨h1, by simpa using g2⟩))
  by_cases g3 : v < 0
  · exact back_early v s w htab (.inr (.inr (.inl ⟨h1, g2, g3⟩)))
  have h3 : 0 ≤ v := by omega
  by_cases g4 : 999999999999999999 < v
  · exact back_early v s w htab (.inr (.inr (.inr ⟨h1, g2, h3, g4⟩)))
  have h4 : v ≤ 999999999999999999 := by omega
  have Ht := hid htab
  have C1 := hid (fun w => stm_any s w)
  rw [g2] at C1
  have C2 := hid (fun w h => link_any v s w (by omega) (by omega) (by omega) h)
  have hls := link_size v s (by omega) (by omega)
  have hb := hd_link v s.data.toList
  have hN := numSpec_itoa v (by omega) h4
  rw [← hb.1, ← link_list v s] at hN
  have C3 := hid (fun w => unl_any (linkB v s) v 0 w (by omega) hN)
  rw [show unlV (linkB v s).data.toList v 0 = .tuple #[.int .i64 v, .string s, .int .i64 0] by
    unfold unlV
    rw [link_list, hb.2, if_pos ⟨rfl, h3, g2⟩, txt_self]] at C3
  generalize linkB v s = L at *
  clear hb hN hls htab _wv _ws g1 g2 g3 g4
  go_enter Tryd.func4, Tryd.ntmps4
  go_wp2_with (go_at_call 13; refine (C1.out _).mono ?_; rintro e w1 ⟨rfl, a1⟩)
  have A1 := hid a1; clear a1
  have C4 := hid (C2.out w1 (Ht.out.touch A1.out))
  go_wp2_with (first | (go_at_call 20; refine C4.out.mono ?_; rintro e w2 ⟨rfl, a2⟩) | (go_at_call 11; refine (C3.out _).mono ?_; rintro e w3 ⟨rfl, a3⟩))
  have A3 : Hid (Touch [] w w3) := (A1.out.trans a2 (by simp)).trans a3 (by simp)
  clear a2 a3
  have C0 := hid (alive_true w3 (Ht.out.touch A3.out))
  go_wp2_with (go_at_call 8; refine C0.out.mono ?_; rintro e w4 ⟨rfl, a4⟩)
  go_ret
  exact ⟨rfl, A3.out.trans a4 (by simp)⟩
end Go.Proofs.YtjkkecmidegooaaDoor
