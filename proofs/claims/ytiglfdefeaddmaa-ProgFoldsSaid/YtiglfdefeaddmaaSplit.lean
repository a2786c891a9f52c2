/- The words between blanks, as plain lists; strings.Cut at a blank. -/
import Derived.Test.YtiglfdefeaddmaaCheck
import Derived.Test.YtiglfdefeaddmaaShelf
import Derived.Lib.IndexLaws
import Derived.IntWalk
namespace Go.Proofs.Ytiglfdefeaddmaa
open Go.RowKit Go.Lib

/-- What stands ahead of the first blank, and behind it. -/
def hdW (l : List UInt8) : List UInt8 := l.takeWhile (· != 32)
def tlW (l : List UInt8) : List UInt8 := (l.dropWhile (· != 32)).drop 1
theorem index_hd : ∀ l : List UInt8, (indexByte l 32 = -1 ∧ hdW l = l ∧ tlW l = []) ∨ (∃ i : Nat, indexByte l 32 = i ∧ i < l.length ∧ hdW l = l.take i ∧ tlW l = l.drop (i + 1))
  | [] => .inl ⟨rfl, rfl, rfl⟩
  | b :: l => by
    by_cases h : b = 32
    · right
      subst h
      exact ⟨0, rfl, by simp, by simp [hdW], by simp [tlW]⟩
    · have hb : (b == 32) = false := by simpa using h
      have hb2 : (b != 32) = true := by simpa using h
      rcases index_hd l with ⟨h1, h2, h3⟩ | ⟨i, h1, h2, h3, h4⟩
      · left
        refine ⟨?_, ?_, ?_⟩
        · unfold indexByte; rw [hb, h1]; rfl
        · unfold hdW at *; rw [List.takeWhile_cons, if_pos hb2, h2]
        · unfold tlW at *; rw [List.dropWhile_cons, if_pos hb2, h3]
      · right
        refine ⟨i + 1, ?_, by simp; omega, ?_, ?_⟩
        · unfold indexByte
          rw [hb, h1, if_neg (by simp), if_neg (by simp)]; rfl
        · unfold hdW at *; rw [List.takeWhile_cons, if_pos hb2, h3]; rfl
        · unfold tlW at *; rw [List.dropWhile_cons, if_pos hb2, h4]; rfl
theorem tl_lt {l : List UInt8} (h : l ≠ []) : (tlW l).length < l.length := by
  have hp := List.length_pos_iff.2 h
  rcases index_hd l with ⟨_, _, h3⟩ | ⟨i, _, h2, _, h4⟩
  · rw [h3]; simpa using hp
  · rw [h4]; simp; omega

/-- The words, with so many steps at most. -/
def wordsN : Nat → List UInt8 → List (List UInt8)
  | 0, _ => []
  | n + 1, l => if l = [] then [] else (if hdW l = [] then [] else [hdW l]) ++ wordsN n (tlW l)
theorem wordsN_nil (n : Nat) : wordsN n [] = [] := by cases n <;> simp [wordsN]
theorem wordsN_fuel : ∀ (n m : Nat) (l : List UInt8), l.length ≤ n → l.length ≤ m → wordsN n l = wordsN m l
  | 0, m, l, h, _ => by
    have : l = [] := List.eq_nil_of_length_eq_zero (by omega)
    subst this
    rw [wordsN_nil, wordsN_nil]
  | n + 1, 0, l, _, h => by
    have : l = [] := List.eq_nil_of_length_eq_zero (by omega)
    subst this
    rw [wordsN_nil]; rfl
  | n + 1, m + 1, l, h1, h2 => by
    unfold wordsN
    by_cases h : l = []
    · rw [if_pos h, if_pos h]
    · rw [if_neg h, if_neg h]
      have := tl_lt h
      rw [wordsN_fuel n m (tlW l) (by omega) (by omega)]
/-- The words of a text. -/
def wordsW (l : List UInt8) : List (List UInt8) := wordsN l.length l
theorem wordsW_nil : wordsW [] = [] := rfl
theorem wordsW_step {l : List UInt8} (h : l ≠ []) : wordsW l = (if hdW l = [] then [] else [hdW l]) ++ wordsW (tlW l) := by
  have hp := List.length_pos_iff.2 h
  have ht := tl_lt h
  obtain ⟨n, hn⟩ : ∃ n, l.length = n + 1 := ⟨l.length - 1, by omega⟩
  unfold wordsW
  rw [hn]
  show wordsN (n + 1) l = _
  rw [wordsN, if_neg h, wordsN_fuel n (tlW l).length (tlW l) (by omega) (Nat.le_refl _)]

/-- Texts of bytes. -/
def txt (l : List UInt8) : ByteArray := ⟨l.toArray⟩
theorem txt_list (l : List UInt8) : (txt l).data.toList = l := rfl
theorem txt_size (l : List UInt8) : (txt l).size = l.length := by unfold txt; rfl

theorem index_blank (s : ByteArray) (w : World) (_hs : s.size ≤ 9223372036854775807) :
    Calls Try.prog 85 #[.string s, .string ⟨#[32]⟩] w fun e w' => e = .returned (.int .i64 (indexByte s.data.toList 32)) ∧ w = w' := by
  have C := hid (Try.stringslite_IndexByte s 32 w)
  rw [show (32 : Int).toNat.toUInt8 = 32 from rfl] at C
  by_cases h : s.data.toList = [32]
  · have h1 : ([32] == s.toList) = true := by rw [ByteArray.toList_eq, h]; rfl
    have h2 : Hid (indexByte s.data.toList 32 = 0) := by rw [h]; rfl
    clear h
    go_enter Try.func85, Try.ntmps85
    go_wp2
    go_ret
    exact ⟨by rw [h2.out]; rfl, rfl⟩
  · have h1 : ([32] == s.toList) = false := by
      rw [ByteArray.toList_eq, Bool.eq_false_iff]
      intro e
      exact h (by simpa using (eq_of_beq e).symm)
    clear h
    go_enter Try.func85, Try.ntmps85
    go_wp2_with (go_at_call 96; refine C.out.mono ?_; rintro e w' ⟨rfl, rfl⟩)
    go_ret
    exact ⟨rfl, rfl⟩

def foundB (l : List UInt8) : Bool := decide (0 ≤ indexByte l 32)
def CutPost (l : List UInt8) (w : World) (e : Ending) (w' : World) : Prop := e = .returned (.tuple #[.string (txt (hdW l)), .string (txt (tlW l)), .bool (foundB l)]) ∧ ∃ n, w' = w.drewN n
theorem lcut_blank (s : ByteArray) (w : World) (hs : s.size ≤ 9223372036854775807) :
    Calls Try.prog 66 #[.string s, .string ⟨#[32]⟩] w (CutPost s.data.toList w) := by
  have C := hid (index_blank s w hs)
  rcases index_hd s.data.toList with ⟨h1, h2, h3⟩ | ⟨i, h1, h2, h3, h4⟩
  · rw [h1] at C
    have hp : Hid (CutPost s.data.toList w = fun e w' => e = .returned (.tuple #[.string s, .string ⟨#[]⟩, .bool false]) ∧ ∃ n, w' = w.drewN n) := by
      unfold Hid CutPost foundB
      rw [h1, h2, h3]
      rfl
    rw [hp.out]
    clear h1 h2 h3 hp
    go_enter Try.func66, Try.ntmps66
    go_wp2_with (go_at_call 85; refine C.out.mono ?_; rintro e w' ⟨rfl, rfl⟩)
    refine bodyPost_ret (v := .tuple #[.string s, .string ⟨#[]⟩, .bool false]) (by simp [results, Try.results66, go_sem]) rfl ⟨rfl, 0, rfl⟩
  · rw [h1] at C
    rw [list_len] at h2
    have hp : Hid (CutPost s.data.toList w = fun e w' => e = .returned (.tuple #[.string (s.extract 0 i), .string (s.extract (i + 1) s.size), .bool true]) ∧ ∃ n, w' = w.drewN n) := by
      unfold Hid CutPost foundB
      rw [h1, h3, h4]
      have e1 : txt (s.data.toList.take i) = s.extract 0 i := by
        apply ByteArray.ext
        unfold txt
        apply Array.ext'
        simp [Array.toList_extract]
      have e2 : txt (s.data.toList.drop (i + 1)) = s.extract (i + 1) s.size := by
        apply ByteArray.ext
        unfold txt
        apply Array.ext'
        simp [Array.toList_extract]
        exact (List.take_of_length_le (by simp)).symm
      rw [e1, e2]
      simp
    rw [hp.out]
    clear h1 h3 h4 hp
    have i1 : (i : Int) < s.size := by omega
    go_enter Try.func66, Try.ntmps66
    go_wp2_with (go_at_call 85; refine C.out.mono ?_; rintro e w' ⟨rfl, rfl⟩)
    have w1 : IntKind.i64.wrap ((i : Int) + 1) = i + 1 := IntWalk.i64_in _ (by omega)
    have w2 : (0 : Int) ≤ (i : Int) + 1 := by omega
    have w3 : ((i : Int) + 1).toNat = i + 1 := by omega
    have w4 : (i : Int) + 1 ≤ s.size := by omega
    have w5 : (i : Int) ≤ s.size := by omega
    go_quiet (fail)
    go_wp2
    refine bodyPost_ret (v := .tuple #[.string (s.extract 0 i), .string (s.extract (i + 1) s.size), .bool true]) (by simp [results, Try.results66, go_sem]) rfl ⟨rfl, nq, rfl⟩
theorem cut_blank (s : ByteArray) (w : World) (hs : s.size ≤ 9223372036854775807) :
    Calls Try.prog 40 #[.string s, .string ⟨#[32]⟩] w (CutPost s.data.toList w) := by
  have C := hid (lcut_blank s w hs)
  go_enter Try.func40, Try.ntmps40
  go_wp2_with (go_at_call 66; refine C.out.mono ?_; rintro e w1 ⟨rfl, n, rfl⟩)
  refine bodyPost_ret (v := .tuple #[.string (txt (hdW s.data.toList)), .string (txt (tlW s.data.toList)), .bool (foundB s.data.toList)]) (by simp [results, Try.results40, go_sem]) rfl ⟨rfl, n, rfl⟩
end Go.Proofs.Ytiglfdefeaddmaa
