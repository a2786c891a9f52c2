/- What the levels weigh. -/
import Derived.Test.YtnkflmimnpolcaaAl14
namespace Go.Proofs.Ytnkflmimnpolcaa
open Go.RowKit Go.Lib Go.Shelf
set_option maxRecDepth 100000

/-- What tables weigh: a table of level k has room times most to the k entries. -/
def wsum (m : Nat) : Nat → List Nat → Nat
  | _, [] => 0
  | r, a :: l => a * r + wsum m (r * m) l
theorem wsum_car (m : Nat) (hm : 2 ≤ m) : ∀ (l : List Nat) (r d : Nat), d ≤ 1 → (∀ c ∈ l, c < m) → wsum m r (car m d l) = wsum m r l + d * r ∧ ∀ c ∈ car m d l, c < m
  | [], r, d, hd, _ => by
    unfold car
    split
    · next h => subst h; simp [wsum]
    · next h =>
      obtain rfl : d = 1 := by omega
      simp [wsum]
      omega
  | a :: l, r, d, hd, h => by
    have ha := h a (List.mem_cons_self)
    have hl := fun c hc => h c (List.mem_cons_of_mem _ hc)
    unfold car
    split
    · next hb =>
      obtain ⟨h1, h2⟩ := wsum_car m hm l (r * m) 1 (Nat.le_refl _) hl
      have e : a + d = m := by omega
      refine ⟨?_, fun c hc => ?_⟩
      · simp only [wsum]
        rw [h1, Nat.zero_mul, Nat.zero_add, Nat.one_mul]
        have : a * r + d * r = r * m := by rw [← Nat.add_mul, e, Nat.mul_comm]
        omega
      · rcases List.mem_cons.1 hc with rfl | hc
        · omega
        · exact h2 c hc
    · next hb =>
      obtain ⟨h1, h2⟩ := wsum_car m hm l (r * m) 0 (Nat.zero_le _) hl
      refine ⟨?_, fun c hc => ?_⟩
      · simp only [wsum]
        rw [h1, Nat.zero_mul, Nat.add_zero, Nat.add_mul]
        omega
      · rcases List.mem_cons.1 hc with rfl | hc
        · omega
        · exact h2 c hc
/-- Is the last one not 0, if there is one? -/
def lastPos : List Nat → Prop
  | [] => True
  | [a] => 0 < a
  | _ :: b :: l => lastPos (b :: l)
theorem car_ne {m d : Nat} {l : List Nat} (h : 0 < d ∨ l ≠ []) : car m d l ≠ [] := by
  cases l with
  | nil => unfold car; rcases h with h | h; · rw [if_neg (by omega)]; simp
           · exact absurd rfl h
  | cons a l => unfold car; split <;> simp
theorem lastPos_cons {a : Nat} {l : List Nat} (h : lastPos l) (hn : l ≠ [] ∨ 0 < a) : lastPos (a :: l) := by
  cases l with
  | nil => exact hn.resolve_left (fun h => h rfl)
  | cons b l => exact h
theorem lastPos_car (m : Nat) : ∀ (l : List Nat) (d : Nat), lastPos l → lastPos (car m d l)
  | [], d, _ => by unfold car; split <;> simp [lastPos]; omega
  | [a], d, h => by
    unfold car
    split
    · exact lastPos_cons (lastPos_car m [] 1 trivial) (.inl (car_ne (.inl (by omega))))
    · exact lastPos_cons (lastPos_car m [] 0 trivial) (.inr (Nat.lt_of_lt_of_le h (Nat.le_add_right _ _)))
  | a :: b :: l, d, h => by
    unfold car
    split
    · exact lastPos_cons (lastPos_car m (b :: l) 1 h) (.inl (car_ne (.inl (by omega))))
    · exact lastPos_cons (lastPos_car m (b :: l) 0 h) (.inl (car_ne (.inr (by simp))))
structure NumI (room most n : Nat) (p : Nat × List Nat) : Prop where
  w : wsum most room p.2 + p.1 = n
  lt : ∀ c ∈ p.2, c < most
  mem : p.1 < room
  last : lastPos p.2
theorem num_it (room most : Nat) (hr : 1 ≤ room) (hm : 2 ≤ most) : ∀ n, NumI room most n (itC room most (0, []) n)
  | 0 => ⟨by simp [itC, wsum], by simp [itC], by simp [itC]; omega, trivial⟩
  | n + 1 => by
    have h := num_it room most hr hm n
    show NumI room most (n + 1) (stepC room most (itC room most (0, []) n))
    generalize itC room most (0, []) n = p at *
    unfold stepC
    split
    · next hb =>
      obtain ⟨h1, h2⟩ := wsum_car most hm p.2 room 1 (Nat.le_refl _) h.lt
      have := h.mem
      exact ⟨by have := h.w; show wsum most room (car most 1 p.2) + 0 = n + 1; rw [h1]; omega, h2, by show 0 < room; omega, lastPos_car most p.2 1 h.last⟩
    · next hb => exact ⟨by have := h.w; show wsum most room p.2 + (p.1 + 1) = n + 1; omega, h.lt, by show p.1 + 1 < room; omega, h.last⟩
theorem wsum_take (m : Nat) : ∀ (l : List Nat) (r k : Nat) (hk : k < l.length), wsum m r (l.take (k + 1)) = wsum m r (l.take k) + l[k] * (r * m ^ k)
  | a :: l, r, 0, _ => by simp [wsum]
  | a :: l, r, k + 1, hk => by
    have := wsum_take m l (r * m) k (by simpa using hk)
    simp only [List.take_succ_cons, wsum, List.getElem_cons_succ]
    rw [this, Nat.pow_succ, Nat.mul_assoc, Nat.mul_comm m (m ^ k)]
    omega
theorem wsum_take_le (m : Nat) : ∀ (l : List Nat) (r k : Nat), wsum m r (l.take k) ≤ wsum m r l
  | [], _, k => by simp
  | a :: l, r, 0 => by simp [wsum]
  | a :: l, r, k + 1 => by
    have := wsum_take_le m l (r * m) k
    simp only [List.take_succ_cons, wsum]
    omega
theorem weight_le (m : Nat) (hm : 1 ≤ m) : ∀ (l : List Nat) (r : Nat), lastPos l → l ≠ [] → r * m ^ (l.length - 1) ≤ wsum m r l
  | [a], r, h, _ => by
    have h : 0 < a := h
    simp only [List.length_singleton, Nat.sub_self, Nat.pow_zero, Nat.mul_one, wsum, Nat.add_zero]
    exact Nat.le_mul_of_pos_left r h
  | a :: b :: l, r, h, _ => by
    have := weight_le m hm (b :: l) (r * m) h (by simp)
    simp only [List.length_cons, Nat.add_sub_cancel] at this ⊢
    simp only [wsum] at this ⊢
    rw [Nat.pow_succ, Nat.mul_comm (m ^ l.length), ← Nat.mul_assoc]
    omega
end Go.Proofs.Ytnkflmimnpolcaa
