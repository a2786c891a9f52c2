/- What event's Check tells. -/
import Derived.Test.YtcihnfgfficmlaaRChk
import Derived.Test.YtcihnfgfficmlaaChk7e
namespace Go.Proofs.Ytcihnfgfficmlaa
open Go.RowKit Go.Lib
set_option maxRecDepth 100000

theorem evCheck_time (k t e p q r : Int) (s : ByteArray) (n : Nat) (x : Option Addr) (cap : Nat) (w : World) (hk1 : 1 ≤ k) (hk2 : k ≤ 5) (ht : inGreat t = false) :
    Calls Try.prog 22 #[.agg #[.int .i64 k, .int .i64 t, .string s, .int .i64 e, .slice x n cap, .int .i64 p, .int .i64 q, .int .i64 r]] w fun r w' => r = .returned (.int .i64 1) ∧ Touch [] w w' := by
  have hk : k = 1 ∨ k = 2 ∨ k = 3 ∨ k = 4 ∨ k = 5 := by omega
  rcases hk with rfl | rfl | rfl | rfl | rfl
  · exact rchkA_time 1 t e p q r s n x cap w ht (hid parts_1)
  · exact rchkB_time 2 t e p q r s n x cap w ht (hid parts_2)
  · exact rchkC_time 3 t e p q r s n x cap w ht (hid parts_3)
  · exact rchkD_time 4 t e p q r s n x cap w ht (hid parts_4)
  · exact rchkD_time 5 t e p q r s n x cap w ht (hid parts_5)

theorem evCheck_in1 (t e p q r : Int) (s : ByteArray) (l : List EvD) (x : Option Addr) (cap : Nat) (w : World) (hx : EvX w x l) (h3 : 0 ≤ t) (h4 : t ≤ 1099511627776) :
    Calls Try.prog 22 #[CmdD.agg ⟨1, t, s, e, l, p, q, r⟩ x cap] w fun r' w' => r' = .returned (.int .i64 (checkC ⟨1, t, s, e, l, p, q, r⟩)) ∧ Touch [] w w' := by
  rw [check_in (by decide) (by decide) h3 h4]
  have ht := great_yes h3 h4
  unfold CmdD.agg
  simp only []
  by_cases hs : strm s.data.toList = true
  rotate_left
  · have hs2 : strm s.data.toList = false := by simpa using hs
    rw [if_pos ⟨by omega, hs2⟩]
    exact rchk1_stream t e p q r s l.length x cap w ht hs2
  rw [hs, if_neg (by simp)]
  by_cases h1 : l = []
  · subst h1
    rw [if_pos ⟨trivial, rfl⟩]
    exact rchk1_none t e p q r s x cap w ht hs
  rw [if_neg (by simp [h1])]
  have hl : 1 ≤ l.length := List.length_pos_iff.2 h1
  by_cases h2 : 8 < l.length
  · rw [if_pos ⟨trivial, h2⟩]
    exact rchk1_many t e p q r s l.length x cap w ht hs (by omega)
  rw [if_neg (by omega)]
  by_cases hv : l.all validE = true
  rotate_left
  · have hv2 : l.all validE = false := by simpa using hv
    rw [if_pos ⟨trivial, hv2⟩]
    exact rchk1_bad t e p q r s l x cap w ht hs hl (by omega) hx hv2
  rw [hv, if_neg (by simp)]
  by_cases he : expOk e = true
  rotate_left
  · have he2 : expOk e = false := by simpa using he
    rw [if_pos ⟨.inl trivial, he2⟩]
    exact rchk1_exp t e p q r s l x cap w ht hs hl (by omega) hx hv he2
  rw [he, if_neg (by simp), if_neg (by simp)]
  by_cases hm : p ≠ 0 ∨ q ≠ 0 ∨ r ≠ 0
  · rw [if_pos (.inr (.inl ⟨by decide, hm⟩))]
    exact rchk1_end t e p q r s l x cap w ht hs hl (by omega) hx hv he true fun w => moreA_yes 1 t e p q r s l.length x cap w (meta_ways hm)
  · rw [if_neg (by omega)]
    obtain rfl : p = 0 := by omega
    obtain rfl : q = 0 := by omega
    obtain rfl : r = 0 := by omega
    exact rchk1_end t e 0 0 0 s l x cap w ht hs hl (by omega) hx hv he false fun w => moreA_no 1 t e s l.length x cap w

theorem evCheck_in3 (t e p q r : Int) (s : ByteArray) (l : List EvD) (x : Option Addr) (cap : Nat) (w : World) (h3 : 0 ≤ t) (h4 : t ≤ 1099511627776) :
    Calls Try.prog 22 #[CmdD.agg ⟨3, t, s, e, l, p, q, r⟩ x cap] w fun r' w' => r' = .returned (.int .i64 (checkC ⟨3, t, s, e, l, p, q, r⟩)) ∧ Touch [] w w' := by
  rw [check_in (by decide) (by decide) h3 h4]
  have ht := great_yes h3 h4
  unfold CmdD.agg
  simp only []
  by_cases hs : strm s.data.toList = true
  rotate_left
  · have hs2 : strm s.data.toList = false := by simpa using hs
    rw [if_pos ⟨by omega, hs2⟩]
    exact rchk3_stream t e p q r s l.length x cap w ht hs2
  rw [hs, if_neg (by simp), if_neg (by simp), if_neg (by omega), if_neg (by simp)]
  by_cases he : expOk e = true
  rotate_left
  · have he2 : expOk e = false := by simpa using he
    rw [if_pos ⟨.inr trivial, he2⟩]
    exact rchk3_exp t e p q r s l.length x cap w ht hs he2
  rw [he, if_neg (by simp), if_neg (by simp)]
  by_cases h1 : 0 < l.length ∨ (p ≠ 0 ∨ q ≠ 0 ∨ r ≠ 0)
  · rw [if_pos (h1.elim (fun h => .inl ⟨by decide, List.length_pos_iff.1 h⟩) fun h => .inr (.inl ⟨by decide, h⟩))]
    exact rchk3_end t e p q r s l.length x cap w ht hs he true fun w => moreC_yes 3 t e p q r s l.length x cap w h1
  · have hl : l.length = 0 := by omega
    obtain rfl : l = [] := List.eq_nil_of_length_eq_zero hl
    obtain rfl : p = 0 := by omega
    obtain rfl : q = 0 := by omega
    obtain rfl : r = 0 := by omega
    rw [if_neg (by simp)]
    exact rchk3_end t e 0 0 0 s 0 x cap w ht hs he false fun w => moreC_no 3 t e s x cap w

theorem evCheck_in2 (t e p q r : Int) (s : ByteArray) (l : List EvD) (x : Option Addr) (cap : Nat) (w : World) (h3 : 0 ≤ t) (h4 : t ≤ 1099511627776) :
    Calls Try.prog 22 #[CmdD.agg ⟨2, t, s, e, l, p, q, r⟩ x cap] w fun r' w' => r' = .returned (.int .i64 (checkC ⟨2, t, s, e, l, p, q, r⟩)) ∧ Touch [] w w' := by
  rw [check_in (by decide) (by decide) h3 h4]
  have ht := great_yes h3 h4
  unfold CmdD.agg
  simp only []
  by_cases hs : strm s.data.toList = true
  rotate_left
  · have hs2 : strm s.data.toList = false := by simpa using hs
    rw [if_pos ⟨by omega, hs2⟩]
    exact rchk2_stream t e p q r s l.length x cap w ht hs2
  rw [hs, if_neg (by simp), if_neg (by simp), if_neg (by omega), if_neg (by simp), if_neg (by simp)]
  by_cases hv : validM p q r = true
  rotate_left
  · have hv2 : validM p q r = false := by simpa using hv
    rw [if_pos ⟨trivial, hv2⟩]
    exact rchk2_meta t e p q r s l.length x cap w ht hs hv2
  rw [hv, if_neg (by simp)]
  by_cases h1 : e ≠ 0 ∨ 0 < l.length
  · rw [if_pos (h1.elim (fun h => .inr (.inr (.inl ⟨by decide, by decide, h⟩))) fun h => .inl ⟨by decide, List.length_pos_iff.1 h⟩)]
    exact rchk2_end t e p q r s l.length x cap w ht hs hv true fun w => moreB_yes 2 t e p q r s l.length x cap w h1
  · have hl : l.length = 0 := by omega
    obtain rfl : l = [] := List.eq_nil_of_length_eq_zero hl
    obtain rfl : e = 0 := by omega
    rw [if_neg (by simp)]
    exact rchk2_end t 0 p q r s 0 x cap w ht hs hv false fun w => moreB_no 2 t p q r s x cap w

theorem evCheck_in4 (k : Int) (hk : k = 4 ∨ k = 5) (t e p q r : Int) (s : ByteArray) (l : List EvD) (x : Option Addr) (cap : Nat) (w : World) (h3 : 0 ≤ t) (h4 : t ≤ 1099511627776) :
    Calls Try.prog 22 #[CmdD.agg ⟨k, t, s, e, l, p, q, r⟩ x cap] w fun r' w' => r' = .returned (.int .i64 (checkC ⟨k, t, s, e, l, p, q, r⟩)) ∧ Touch [] w w' := by
  rw [check_in (by omega) (by omega) h3 h4]
  have ht := great_yes h3 h4
  unfold CmdD.agg
  simp only []
  have CP : Hid (∀ w, Calls Try.prog 54 #[.int .i64 k] w fun r w' => r = .returned (.tuple #[ptsV false false false false, .bool true]) ∧ Touch [] w w') := by
    rcases hk with rfl | rfl
    · exact hid parts_4
    · exact hid parts_5
  rw [if_neg (by omega), if_neg (by omega), if_neg (by omega), if_neg (by omega), if_neg (by omega), if_neg (by omega)]
  by_cases h1 : s.size ≠ 0 ∨ e ≠ 0 ∨ 0 < l.length ∨ (p ≠ 0 ∨ q ≠ 0 ∨ r ≠ 0)
  · rw [if_pos (by
      rcases h1 with h1 | h1 | h1 | h1
      · exact .inr (.inr (.inr ⟨by omega, h1⟩))
      · exact .inr (.inr (.inl ⟨by omega, by omega, h1⟩))
      · exact .inl ⟨by omega, List.length_pos_iff.1 h1⟩
      · exact .inr (.inl ⟨by omega, h1⟩))]
    exact rchkD_end k t e p q r s l.length x cap w ht CP true fun w => moreD_yes k t e p q r s l.length x cap w h1
  · have hl : l.length = 0 := by omega
    obtain rfl : l = [] := List.eq_nil_of_length_eq_zero hl
    obtain rfl : e = 0 := by omega
    obtain rfl : p = 0 := by omega
    obtain rfl : q = 0 := by omega
    obtain rfl : r = 0 := by omega
    have hz : s.size = 0 := by omega
    rw [if_neg (by simp [hz])]
    exact rchkD_end k t 0 0 0 0 s 0 x cap w ht CP false fun w => moreD_no k t s x cap w (by rw [toList_emptyR, decide_eq_true hz])

theorem evCheck_any (c : CmdD) (x : Option Addr) (cap : Nat) (w : World) (hx : EvX w x c.evs) :
    Calls Try.prog 22 #[c.agg x cap] w fun r w' => r = .returned (.int .i64 (checkC c)) ∧ Touch [] w w' := by
  by_cases h1 : c.kind < 1
  · rw [show checkC c = 1 by unfold checkC; rw [if_pos (.inl h1)]]; exact rchk_kind _ _ _ _ _ _ _ _ _ _ w (.inl h1)
  by_cases h2 : 5 < c.kind
  · rw [show checkC c = 1 by unfold checkC; rw [if_pos (.inr (.inl h2))]]; exact rchk_kind _ _ _ _ _ _ _ _ _ _ w (.inr h2)
  by_cases h3 : c.time < 0
  · rw [show checkC c = 1 by unfold checkC; rw [if_pos (.inr (.inr (.inl h3)))]]; exact evCheck_time _ _ _ _ _ _ _ _ _ _ w (by omega) (by omega) (great_no (.inl h3))
  by_cases h4 : 1099511627776 < c.time
  · rw [show checkC c = 1 by unfold checkC; rw [if_pos (.inr (.inr (.inr h4)))]]; exact evCheck_time _ _ _ _ _ _ _ _ _ _ w (by omega) (by omega) (great_no (.inr h4))
  obtain ⟨k, t, s, e, l, p, q, r⟩ := c
  simp only [] at h1 h2 h3 h4 hx
  have hk : k = 1 ∨ k = 2 ∨ k = 3 ∨ (k = 4 ∨ k = 5) := by omega
  rcases hk with rfl | rfl | rfl | hk
  · exact evCheck_in1 t e p q r s l x cap w hx (by omega) (by omega)
  · exact evCheck_in2 t e p q r s l x cap w (by omega) (by omega)
  · exact evCheck_in3 t e p q r s l x cap w (by omega) (by omega)
  · exact evCheck_in4 k hk t e p q r s l x cap w (by omega) (by omega)
end Go.Proofs.Ytcihnfgfficmlaa
