/- What the laws' own Check tells. -/
import Derived.Test.YtcihnfgfficmlaaChk7
import Derived.Test.YtcihnfgfficmlaaChk7b
import Derived.Test.YtcihnfgfficmlaaChk7c
import Derived.Test.YtcihnfgfficmlaaChk7d
namespace Go.Proofs.Ytcihnfgfficmlaa
open Go.RowKit Go.Lib

theorem meta_ways {p q r : Int} (h : p ≠ 0 ∨ q ≠ 0 ∨ r ≠ 0) : p ≠ 0 ∨ (p = 0 ∧ q ≠ 0) ∨ (p = 0 ∧ q = 0 ∧ r ≠ 0) := by omega
theorem exp_ways (x : Int) : (expOk x = true ∧ (x = -1 ∨ x = -2 ∨ x = -4 ∨ (0 ≤ x ∧ x ≤ 1099511627776))) ∨ (expOk x = false ∧ ((x ≠ -1 ∧ x ≠ -2 ∧ x ≠ -4 ∧ x < 0) ∨ 1099511627776 < x)) := by
  rcases exp_cases x with h | h
  · exact .inl ⟨exp_yes h, h⟩
  · exact .inr ⟨exp_no h, h⟩

theorem check_in {k t e p q r : Int} {s : ByteArray} {l : List EvD} (hk1 : 1 ≤ k) (hk2 : k ≤ 5) (h3 : 0 ≤ t) (h4 : t ≤ 1099511627776) : checkC ⟨k, t, s, e, l, p, q, r⟩ =
    (if k ≤ 3 ∧ strm s.data.toList = false then 1
  else if k = 1 ∧ l = [] then 1
  else if k = 1 ∧ 8 < l.length then 2
  else if k = 1 ∧ l.all validE = false then 1
  else if (k = 1 ∨ k = 3) ∧ expOk e = false then 1
  else if k = 2 ∧ validM p q r = false then 1
  else if k ≠ 1 ∧ l ≠ [] ∨ k ≠ 2 ∧ (p ≠ 0 ∨ q ≠ 0 ∨ r ≠ 0) ∨ k ≠ 1 ∧ k ≠ 3 ∧ e ≠ 0 ∨ 3 < k ∧ s.size ≠ 0 then 1
  else 0) := by
  unfold checkC
  simp only []
  rw [if_neg (by unfold great; omega)]

theorem refCheck_in1 (t e p q r : Int) (s : ByteArray) (l : List EvD) (x : Option Addr) (cap : Nat) (w : World) (hx : EvX w x l) (h3 : 0 ≤ t) (h4 : t ≤ 1099511627776) (hs : strm s.data.toList = true) :
    Calls Try.prog 23 #[CmdD.agg ⟨1, t, s, e, l, p, q, r⟩ x cap] w fun r' w' => r' = .returned (.int .i64 (checkC ⟨1, t, s, e, l, p, q, r⟩)) ∧ Touch [] w w' := by
  rw [check_in (by decide) (by decide) h3 h4]
  unfold CmdD.agg
  simp only []
  rw [hs, if_neg (by simp)]
  by_cases h1 : l = []
  · subst h1
    rw [if_pos ⟨trivial, rfl⟩]
    exact refCheck1_none t e p q r s x cap w h3 h4 hs
  rw [if_neg (by simp [h1])]
  have hl : 1 ≤ l.length := List.length_pos_iff.2 h1
  by_cases h2 : 8 < l.length
  · rw [if_pos ⟨trivial, h2⟩]
    exact refCheck1_many t e p q r s l.length x cap w h3 h4 hs (by omega)
  rw [if_neg (by omega)]
  by_cases hv : l.all validE = true
  rotate_left
  · have hv2 : l.all validE = false := by simpa using hv
    rw [if_pos ⟨trivial, hv2⟩]
    exact refCheck1_bad t e p q r s l x cap w h3 h4 hs hl (by omega) hx hv2
  rw [hv, if_neg (by simp)]
  rcases exp_ways e with ⟨he, he2⟩ | ⟨he, he2⟩
  rotate_left
  · rw [if_pos ⟨.inl trivial, he⟩]
    exact refCheck1_exp t e p q r s l x cap w h3 h4 hs hl (by omega) hx hv he2
  rw [he, if_neg (by simp), if_neg (by simp)]
  by_cases hm : p ≠ 0 ∨ q ≠ 0 ∨ r ≠ 0
  · rw [if_pos (.inr (.inl ⟨by decide, hm⟩))]
    exact refCheck1_meta t e p q r s l x cap w h3 h4 hs hl (by omega) hx hv he2 (meta_ways hm)
  · rw [if_neg (by omega)]
    obtain rfl : p = 0 := by omega
    obtain rfl : q = 0 := by omega
    obtain rfl : r = 0 := by omega
    exact refCheck1_good t e s l x cap w h3 h4 hs hl (by omega) hx hv he2

theorem refCheck_in3 (t e p q r : Int) (s : ByteArray) (l : List EvD) (x : Option Addr) (cap : Nat) (w : World) (h3 : 0 ≤ t) (h4 : t ≤ 1099511627776) (hs : strm s.data.toList = true) :
    Calls Try.prog 23 #[CmdD.agg ⟨3, t, s, e, l, p, q, r⟩ x cap] w fun r' w' => r' = .returned (.int .i64 (checkC ⟨3, t, s, e, l, p, q, r⟩)) ∧ Touch [] w w' := by
  rw [check_in (by decide) (by decide) h3 h4]
  unfold CmdD.agg
  simp only []
  rw [hs, if_neg (by simp), if_neg (by simp), if_neg (by omega), if_neg (by simp)]
  rcases exp_ways e with ⟨he, he2⟩ | ⟨he, he2⟩
  rotate_left
  · rw [if_pos ⟨.inr trivial, he⟩]
    exact refCheck3_exp t e p q r s l.length x cap w h3 h4 hs he2
  rw [he, if_neg (by simp), if_neg (by simp)]
  by_cases h1 : l = []
  · subst h1
    by_cases hm : p ≠ 0 ∨ q ≠ 0 ∨ r ≠ 0
    · rw [if_pos (.inr (.inl ⟨by decide, hm⟩))]
      exact refCheck3_meta t e p q r s x cap w h3 h4 hs he2 (meta_ways hm)
    · rw [if_neg (by simp; omega)]
      obtain rfl : p = 0 := by omega
      obtain rfl : q = 0 := by omega
      obtain rfl : r = 0 := by omega
      exact refCheck3_good t e s x cap w h3 h4 hs he2
  · have hl : 1 ≤ l.length := List.length_pos_iff.2 h1
    rw [if_pos (.inl ⟨by decide, h1⟩)]
    exact refCheck3_evs t e p q r s l.length x cap w h3 h4 hs he2 (by omega)

theorem refCheck_in2 (t e p q r : Int) (s : ByteArray) (l : List EvD) (x : Option Addr) (cap : Nat) (w : World) (h3 : 0 ≤ t) (h4 : t ≤ 1099511627776) (hs : strm s.data.toList = true) :
    Calls Try.prog 23 #[CmdD.agg ⟨2, t, s, e, l, p, q, r⟩ x cap] w fun r' w' => r' = .returned (.int .i64 (checkC ⟨2, t, s, e, l, p, q, r⟩)) ∧ Touch [] w w' := by
  rw [check_in (by decide) (by decide) h3 h4]
  unfold CmdD.agg
  simp only []
  rw [hs, if_neg (by simp), if_neg (by simp), if_neg (by omega), if_neg (by simp), if_neg (by simp)]
  by_cases hv : validM p q r = true
  rotate_left
  · have hv2 : validM p q r = false := by simpa using hv
    rw [if_pos ⟨trivial, hv2⟩]
    exact refCheck2_meta t e p q r s l.length x cap w h3 h4 hs hv2
  rw [hv, if_neg (by simp)]
  by_cases h1 : l = []
  · subst h1
    by_cases he : e = 0
    · subst he
      rw [if_neg (by simp)]
      exact refCheck2_good t p q r s x cap w h3 h4 hs hv
    · rw [if_pos (.inr (.inr (.inl ⟨by decide, by decide, he⟩)))]
      exact refCheck2_exp t e p q r s x cap w h3 h4 hs hv (by simpa using he)
  · have hl : 1 ≤ l.length := List.length_pos_iff.2 h1
    rw [if_pos (.inl ⟨by decide, h1⟩)]
    exact refCheck2_evs t e p q r s l.length x cap w h3 h4 hs hv (by omega)

theorem refCheck_in4 (k : Int) (hk : k = 4 ∨ k = 5) (t e p q r : Int) (s : ByteArray) (l : List EvD) (x : Option Addr) (cap : Nat) (w : World) (h3 : 0 ≤ t) (h4 : t ≤ 1099511627776) :
    Calls Try.prog 23 #[CmdD.agg ⟨k, t, s, e, l, p, q, r⟩ x cap] w fun r' w' => r' = .returned (.int .i64 (checkC ⟨k, t, s, e, l, p, q, r⟩)) ∧ Touch [] w w' := by
  rw [check_in (by omega) (by omega) h3 h4]
  unfold CmdD.agg
  simp only []
  rw [if_neg (by omega), if_neg (by omega), if_neg (by omega), if_neg (by omega), if_neg (by omega), if_neg (by omega)]
  by_cases h1 : l = []
  · subst h1
    by_cases hm : p ≠ 0 ∨ q ≠ 0 ∨ r ≠ 0
    · rw [if_pos (.inr (.inl ⟨by omega, hm⟩))]
      exact refCheck4_meta k hk t e p q r s x cap w h3 h4 (meta_ways hm)
    · obtain rfl : p = 0 := by omega
      obtain rfl : q = 0 := by omega
      obtain rfl : r = 0 := by omega
      by_cases he : e = 0
      · subst he
        by_cases hz : s.size = 0
        · rw [if_neg (by simp [hz])]
          exact refCheck4_good k hk t s x cap w h3 h4 (by rw [toList_empty, decide_eq_true hz])
        · rw [if_pos (.inr (.inr (.inr ⟨by omega, hz⟩)))]
          exact refCheck4_stream k hk t s x cap w h3 h4 (by rw [toList_empty, decide_eq_false hz])
      · rw [if_pos (.inr (.inr (.inl ⟨by omega, by omega, he⟩)))]
        exact refCheck4_exp k hk t e s x cap w h3 h4 (by simpa using he)
  · have hl : 1 ≤ l.length := List.length_pos_iff.2 h1
    rw [if_pos (.inl ⟨by omega, h1⟩)]
    exact refCheck4_evs k hk t e p q r s l.length x cap w h3 h4 (by omega)

theorem refCheck_any (c : CmdD) (x : Option Addr) (cap : Nat) (w : World) (hx : EvX w x c.evs) :
    Calls Try.prog 23 #[c.agg x cap] w fun r w' => r = .returned (.int .i64 (checkC c)) ∧ Touch [] w w' := by
  by_cases h1 : c.kind < 1
  · rw [show checkC c = 1 by unfold checkC; rw [if_pos (.inl h1)]]; exact refCheck_k c x cap w (.inl h1)
  by_cases h2 : 5 < c.kind
  · rw [show checkC c = 1 by unfold checkC; rw [if_pos (.inr (.inl h2))]]; exact refCheck_k c x cap w (.inr (.inl ⟨by omega, h2⟩))
  by_cases h3 : c.time < 0
  · rw [show checkC c = 1 by unfold checkC; rw [if_pos (.inr (.inr (.inl h3)))]]; exact refCheck_k c x cap w (.inr (.inr (.inl ⟨by omega, by omega, h3⟩)))
  by_cases h4 : 1099511627776 < c.time
  · rw [show checkC c = 1 by unfold checkC; rw [if_pos (.inr (.inr (.inr h4)))]]; exact refCheck_k c x cap w (.inr (.inr (.inr ⟨by omega, by omega, by omega, h4⟩)))
  obtain ⟨k, t, s, e, l, p, q, r⟩ := c
  simp only [] at h1 h2 h3 h4 hx
  by_cases hk : 3 < k
  · exact refCheck_in4 k (by omega) t e p q r s l x cap w (by omega) (by omega)
  by_cases hs : strm s.data.toList = true
  rotate_left
  · have hs2 : strm s.data.toList = false := by simpa using hs
    rw [check_in (by omega) (by omega) (by omega) (by omega), if_pos ⟨by omega, hs2⟩]
    exact refCheck_s _ x cap w (by simp only []; omega) (by simp only []; omega) (by simp only []; omega) (by simp only []; omega) hs2
  have hk3 : k = 1 ∨ k = 2 ∨ k = 3 := by omega
  rcases hk3 with rfl | rfl | rfl
  · exact refCheck_in1 t e p q r s l x cap w hx (by omega) (by omega) hs
  · exact refCheck_in2 t e p q r s l x cap w (by omega) (by omega) hs
  · exact refCheck_in3 t e p q r s l x cap w (by omega) (by omega) hs
end Go.Proofs.Ytcihnfgfficmlaa
