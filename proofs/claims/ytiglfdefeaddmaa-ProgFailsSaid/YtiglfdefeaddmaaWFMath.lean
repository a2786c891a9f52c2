/- A program that says 'fail', as plain mathematics. -/
import Derived.Test.YtiglfdefeaddmaaWMath
namespace Go.Proofs.Ytiglfdefeaddmaa
open Go.RowKit Go.Lib

def failF : FltD := ⟨21, 3, ⟨wFail.toArray⟩⟩
def failB : ByteArray := ⟨wFail.toArray⟩
def zeroB : ByteArray := ⟨#[48]⟩
def dropB : ByteArray := ⟨wDrop.toArray⟩
def oneB : ByteArray := ⟨#[49]⟩
theorem parse_zero : parseOf [48] = (0, 0) := by decide +kernel
theorem parse_one : parseOf [49] = (4607182418800017408, 0) := by decide +kernel
theorem kind_zero : kindOf [48] = .num 0 := by
  have h := kind_num (noName_of (l := [48]) (by rw [parse_zero])) (by rw [parse_zero])
  rw [parse_zero] at h; exact h
theorem kind_one : kindOf [49] = .num 4607182418800017408 := by
  have h := kind_num (noName_of (l := [49]) (by rw [parse_one])) (by rw [parse_one])
  rw [parse_one] at h; exact h

/-- Which fault a program comes to, or none. -/
theorem exec_fail (E : EnvD) (a b : List ByteArray) : exec E (wordsL (a ++ failB :: b)) [] = match exec E (wordsL a) [] with | .ok _ => .bad failF | .bad f => .bad f := by
  unfold wordsL
  rw [List.map_append, exec_append]
  cases exec E (a.map fun s => s.data.toList) [] with
  | ok s => exact exec_no E _ _ s failF .fail rfl rfl
  | bad f => rfl
theorem exec_more (E : EnvD) (a : List ByteArray) : exec E (wordsL (a ++ [zeroB, dropB, oneB])) [] = match exec E (wordsL a) [] with | .ok s => .ok (can 4607182418800017408 :: s) | .bad f => .bad f := by
  unfold wordsL
  rw [List.map_append, exec_append]
  cases exec E (a.map fun s => s.data.toList) [] with
  | ok s =>
    show exec E ([48] :: wDrop :: [49] :: []) s = _
    rw [exec_ok _ _ _ _ _ _ kind_zero (step_num _ _ _), exec_ok _ _ _ _ _ .drop rfl (step_drop _ _ _), exec_ok _ _ _ _ _ _ kind_one (step_num _ _ _), exec_nil]
  | bad f => rfl
/-- Each fault of a step is ErrFault. -/
theorem step_bad (E : EnvD) (k : Wk) (s : List Nat) (f : FltD) (h : stepK E k s = .bad f) : f.err = 21 := by
  unfold stepK at h
  split at h <;> first | (cases h; done) | (cases h; rfl) | (split at h <;> first | (cases h; done) | (cases h; rfl))
theorem exec_err (E : EnvD) : ∀ (l : List (List UInt8)) (s : List Nat) (f : FltD), exec E l s = .bad f → f.err = 21
  | [], s, f, h => by cases h
  | w :: l, s, f, h => by
    unfold exec at h
    cases hs : stepK E (kindOf w) s with
    | ok s' => rw [hs] at h; exact exec_err E l s' f h
    | bad f' => rw [hs] at h; cases h; exact step_bad E _ _ _ hs
theorem noWord_lits : noWord failB = false ∧ noWord zeroB = false ∧ noWord dropB = false ∧ noWord oneB = false := by decide +kernel
theorem check_app (a b : List ByteArray) (h : (checkOf (a ++ failB :: b)).1 = 0) (hl : a.length ≤ 30) : (checkOf (a ++ [zeroB, dropB, oneB])).1 = 0 := by
  obtain ⟨_, h2⟩ := ok_of_check h
  have : checkOf (a ++ [zeroB, dropB, oneB]) = (0, 0) := check_all (by simp; omega) (by
    intro s hs
    rw [List.mem_append] at hs
    rcases hs with hs | hs
    · obtain ⟨j, hj, rfl⟩ := List.getElem_of_mem hs
      have := h2 j (by simp; omega)
      rwa [List.getElem_append_left hj] at this
    · simp only [List.mem_cons, List.not_mem_nil, or_false] at hs
      rcases hs with rfl | rfl | rfl
      · exact noWord_lits.2.1
      · exact noWord_lits.2.2.1
      · exact noWord_lits.2.2.2)
  rw [this]
/-- WHAT THE LAW SAYS. -/
theorem fails_says (a b : List ByteArray) (hl : a.length ≤ 30) :
    ((checkOf (a ++ failB :: b)).1 ≠ 0 ∧ (runOf env0 (a ++ failB :: b)).2 = ⟨6, 0, none8⟩) ∨
    ((checkOf (a ++ failB :: b)).1 = 0 ∧ (runOf env0 (a ++ [zeroB, dropB, oneB])).2.err = 21 ∧ (runOf env0 (a ++ failB :: b)).2 = (runOf env0 (a ++ [zeroB, dropB, oneB])).2) ∨
    ((checkOf (a ++ failB :: b)).1 = 0 ∧ (runOf env0 (a ++ [zeroB, dropB, oneB])).2.err ≠ 21 ∧ (runOf env0 (a ++ failB :: b)).2 = failF) := by
  by_cases h : (checkOf (a ++ failB :: b)).1 = 0
  · right
    have h2 := check_app a b h hl
    unfold runOf
    rw [if_pos h, if_pos h2, exec_fail, exec_more]
    cases he : exec env0 (wordsL a) [] with
    | bad f => exact .inl ⟨h, exec_err _ _ _ _ he, rfl⟩
    | ok s =>
      refine .inr ⟨h, ?_, rfl⟩
      cases s with
      | nil => simp [resOf]
      | cons x t => simp [resOf]
  · exact .inl ⟨h, by unfold runOf; rw [if_neg h]⟩
end Go.Proofs.Ytiglfdefeaddmaa
