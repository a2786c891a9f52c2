/- How many frames there are, and how long each is. -/
import Derived.Test.YtkkalnegojhapaaFr8
namespace Go.Proofs.Ytkkalnegojhapaa
open Go.RowKit Go.Lib
set_option maxRecDepth 100000

theorem allF_len : ∀ (k : Nat) (b : List UInt8), 12 * (allF k b).1.length ≤ (allF k b).2 ∧ (allF k b).2 ≤ b.length
  | 0, b => by simp [allF]
  | k + 1, b => by
    unfold allF
    by_cases e : (firstOf b).2.2 = 0
    · obtain ⟨l, _, _, e3, _, e5⟩ := first_ok e
      rw [if_neg (by simpa using e), e3]
      have := allF_len k (b.drop (l.length + 12))
      rw [List.length_drop] at this
      simp only [List.length_cons]
      omega
    · rw [if_pos e]
      simp
theorem allOf_len (b : List UInt8) : 12 * (allOf b).1.length ≤ (allOf b).2 ∧ (allOf b).2 ≤ b.length := allF_len _ _
theorem allF_small : ∀ (k : Nat) (b : List UInt8), ∀ l ∈ (allF k b).1, l.length ≤ 4000
  | 0, b => by simp [allF]
  | k + 1, b => by
    unfold allF
    by_cases e : (firstOf b).2.2 = 0
    · obtain ⟨l, _, e2, e3, _, e5⟩ := first_ok e
      rw [if_neg (by simpa using e), e3]
      intro d hd
      simp only [List.mem_cons] at hd
      rcases hd with rfl | hd
      · exact e2
      · exact allF_small k _ d hd
    · rw [if_pos e]
      simp
theorem allOf_small (b : List UInt8) : ∀ l ∈ (allOf b).1, l.length ≤ 4000 := allF_small _ _
end Go.Proofs.Ytkkalnegojhapaa
