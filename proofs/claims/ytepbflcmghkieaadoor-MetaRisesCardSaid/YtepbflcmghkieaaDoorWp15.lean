/- The words between blanks, as plain lists; a text in pieces at blanks. -/
import Derived.Test.YtepbflcmghkieaaDoorLists
import Derived.Test.YtepbflcmghkieaaDoorShelf
import Derived.Test.YtepbflcmghkieaaDoorIn
import Derived.Lib.IndexLaws
import Derived.IntWalk
namespace Go.Proofs.YtepbflcmghkieaaDoor
open Go.RowKit Go.Lib

/-- What stands ahead of the first blank, and behind it. -/
def hdW (l : List UInt8) : List UInt8 := l.takeWhile (· != 32)
def tlW (l : List UInt8) : List UInt8 := (l.dropWhile (· != 32)).drop 1
theorem index_hd : ∀ l : List UInt8, (indexByte l 32 = -1 ∧ hdW l = l ∧ tlW l = []) ∨ (∃ i : Nat, indexByte l 32 = i ∧ i < l.length ∧ hdW l = l.take i ∧ tlW l = l.drop (i + 1))
  | [] => .inl ⟨rfl, rfl, rfl⟩
  | b :: l => by
    by_cases h : b = 32
    · right
      subst h
      exact ⟨0, rfl, by simp, by simp [hdW], by simp [tlW]⟩
    · have hb : (b == 32) = false := by simpa using h
      have hb2 : (b != 32) = true := by simpa using h
      rcases index_hd l with ⟨h1, h2, h3⟩ | ⟨i, h1, h2, h3, h4⟩
      · left
        refine ⟨?_, ?_, ?_⟩
        · unfold indexByte; rw [hb, h1]; rfl
        · unfold hdW at *; rw [List.takeWhile_cons, if_pos hb2, h2]
        · unfold tlW at *; rw [List.dropWhile_cons, if_pos hb2, h3]
      · right
        refine ⟨i + 1, ?_, by simp; omega, ?_, ?_⟩
        · unfold indexByte
          rw [hb, h1, if_neg (by simp), if_neg (by simp)]; rfl
        · unfold hdW at *; rw [List.takeWhile_cons, if_pos hb2, h3]; rfl
        · unfold tlW at *; rw [List.dropWhile_cons, if_pos hb2, h4]; rfl
theorem tl_lt {l : List UInt8} (h : l ≠ []) : (tlW l).length < l.length := by
  have hp := List.length_pos_iff.2 h
  rcases index_hd l with ⟨_, _, h3⟩ | ⟨i, _, h2, _, h4⟩
  · rw [h3]; simpa using hp
  · rw [h4]; simp; omega

/-- The words, with so many steps at most. -/
def wordsN : Nat → List UInt8 → List (List UInt8)
  | 0, _ => []
  | n + 1, l => if l = [] then [] else (if hdW l = [] then [] else [hdW l]) ++ wordsN n (tlW l)
theorem wordsN_nil (n : Nat) : wordsN n [] = [] := by cases n <;> simp [wordsN]
theorem wordsN_fuel : ∀ (n m : Nat) (l : List UInt8), l.length ≤ n → l.length ≤ m → wordsN n l = wordsN m l
  | 0, m, l, h, _ => by
    have : l = [] := List.eq_nil_of_length_eq_zero (by omega)
    subst this
    rw [wordsN_nil, wordsN_nil]
  | n + 1, 0, l, _, h => by
    have : l = [] := List.eq_nil_of_length_eq_zero (by omega)
    subst this
    rw [wordsN_nil]; rfl
  | n + 1, m + 1, l, h1, h2 => by
    unfold wordsN
    by_cases h : l = []
    · rw [if_pos h, if_pos h]
    · rw [if_neg h, if_neg h]
      have := tl_lt h
      rw [wordsN_fuel n m (tlW l) (by omega) (by omega)]
/-- The words of a text. -/
def wordsW (l : List UInt8) : List (List UInt8) := wordsN l.length l
theorem wordsW_nil : wordsW [] = [] := rfl
theorem wordsW_step {l : List UInt8} (h : l ≠ []) : wordsW l = (if hdW l = [] then [] else [hdW l]) ++ wordsW (tlW l) := by
  have hp := List.length_pos_iff.2 h
  have ht := tl_lt h
  obtain ⟨n, hn⟩ : ∃ n, l.length = n + 1 := ⟨l.length - 1, by omega⟩
  unfold wordsW
  rw [hn]
  show wordsN (n + 1) l = _
  rw [wordsN, if_neg h, wordsN_fuel n (tlW l).length (tlW l) (by omega) (Nat.le_refl _)]

/-- Texts of bytes. -/
def txt (l : List UInt8) : ByteArray := ⟨l.toArray⟩
theorem txt_list (l : List UInt8) : (txt l).data.toList = l := rfl
theorem txt_size (l : List UInt8) : (txt l).size = l.length := by unfold txt; rfl

theorem index_blank (s : ByteArray) (w : World) (_hs : s.size ≤ 9223372036854775807) :
    Calls Tryd.prog 52 #[.string s, .string ⟨#[32]⟩] w fun e w' => e = .returned (.int .i64 (indexByte s.data.toList 32)) ∧ w = w' := by
  have C := hid (Tryd.stringslite_IndexByte s 32 w)
  rw [show (32 : Int).toNat.toUInt8 = 32 from rfl] at C
  by_cases h : s.data.toList = [32]
  · have h1 : ([32] == s.toList) = true := by rw [ByteArray.toList_eq, h]; rfl
    have h2 : Hid (indexByte s.data.toList 32 = 0) := by rw [h]; rfl
    clear h
    go_enter Tryd.func52, Tryd.ntmps52
    go_wp2
    go_ret
    exact ⟨by rw [h2.out]; rfl, rfl⟩
  · have h1 : ([32] == s.toList) = false := by
      rw [ByteArray.toList_eq, Bool.eq_false_iff]
      intro e
      exact h (by simpa using (eq_of_beq e).symm)
    clear h
    go_enter Tryd.func52, Tryd.ntmps52
    go_wp2_with (go_at_call 59; refine C.out.mono ?_; rintro e w' ⟨rfl, rfl⟩)
    go_ret
    exact ⟨rfl, rfl⟩

/-- The words of a text, as texts. -/
def wordsB (l : List UInt8) : List ByteArray := (wordsW l).map txt
theorem wordsB_nil : wordsB [] = [] := rfl
theorem wordsB_no {l : List UInt8} (h : l ≠ []) (e : hdW l = []) : wordsB l = wordsB (tlW l) := by
  unfold wordsB
  rw [wordsW_step h, if_pos e]; rfl
theorem wordsB_yes {l : List UInt8} (h : l ≠ []) (e : hdW l ≠ []) : wordsB l = txt (hdW l) :: wordsB (tlW l) := by
  unfold wordsB
  rw [wordsW_step h, if_neg e]; rfl
theorem hd_le (l : List UInt8) : (hdW l).length ≤ l.length := by
  unfold hdW
  exact (List.takeWhile_sublist _).length_le
theorem tl_le (l : List UInt8) : (tlW l).length ≤ l.length := by
  by_cases h : l = []
  · subst h; simp [tlW]
  · exact Nat.le_of_lt (tl_lt h)
theorem wordsN_size : ∀ (n : Nat) (l : List UInt8), ∀ x ∈ wordsN n l, x.length ≤ l.length
  | 0, _, x, hx => by simp [wordsN] at hx
  | n + 1, l, x, hx => by
    unfold wordsN at hx
    split at hx
    · simp at hx
    · rw [List.mem_append] at hx
      rcases hx with hx | hx
      · split at hx
        · simp at hx
        · simp at hx; subst hx; exact hd_le l
      · exact Nat.le_trans (wordsN_size n _ x hx) (tl_le l)
theorem wordsB_size (l : List UInt8) : ∀ s ∈ wordsB l, s.size ≤ l.length := by
  intro s hs
  unfold wordsB at hs
  simp only [List.mem_map] at hs
  obtain ⟨x, hx, rfl⟩ := hs
  rw [txt_size]
  exact wordsN_size _ _ x hx

end Go.Proofs.YtepbflcmghkieaaDoor
