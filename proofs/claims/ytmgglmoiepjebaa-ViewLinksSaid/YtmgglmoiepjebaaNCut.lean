/- strings.Cut at one byte, strings.Clone; what name.Category and the laws' own Category tell. -/
import Derived.Test.YtmgglmoiepjebaaStm
import Derived.Test.YtmgglmoiepjebaaShelf
namespace Go.Proofs.Ytmgglmoiepjebaa
set_option maxRecDepth 100000
open Go.RowKit Go.Lib

/-- What stands ahead of the first c, and behind it. -/
def hdB (c : UInt8) (l : List UInt8) : List UInt8 := l.takeWhile (· != c)
def tlB (c : UInt8) (l : List UInt8) : List UInt8 := (l.dropWhile (· != c)).drop 1
theorem index_hdB (c : UInt8) : ∀ l : List UInt8, (indexByte l c = -1 ∧ c ∉ l ∧ hdB c l = l ∧ tlB c l = []) ∨ (∃ i : Nat, indexByte l c = i ∧ i < l.length ∧ c ∈ l ∧ hdB c l = l.take i ∧ tlB c l = l.drop (i + 1))
  | [] => .inl ⟨rfl, by simp, rfl, rfl⟩
  | b :: l => by
    by_cases h : b = c
    · right
      subst h
      exact ⟨0, by simp [indexByte], by simp, by simp, by simp [hdB], by simp [tlB]⟩
    · have hb : (b == c) = false := by simpa using h
      have hb2 : (b != c) = true := by simpa using h
      have hc : ¬ c = b := fun e => h e.symm
      rcases index_hdB c l with ⟨h1, h0, h2, h3⟩ | ⟨i, h1, h2, h0, h3, h4⟩
      · left
        refine ⟨?_, by simp [hc, h0], ?_, ?_⟩
        · unfold indexByte; rw [hb, h1]; rfl
        · unfold hdB at *; rw [List.takeWhile_cons, if_pos hb2, h2]
        · unfold tlB at *; rw [List.dropWhile_cons, if_pos hb2, h3]
      · right
        refine ⟨i + 1, ?_, by simp; omega, by simp [h0], ?_, ?_⟩
        · unfold indexByte
          rw [hb, h1, if_neg (by simp), if_neg (by simp)]; rfl
        · unfold hdB at *; rw [List.takeWhile_cons, if_pos hb2, h3]; rfl
        · unfold tlB at *; rw [List.dropWhile_cons, if_pos hb2, h4]; rfl
/-- Texts of bytes. -/
def txt (l : List UInt8) : ByteArray := ⟨l.toArray⟩
theorem txt_list (l : List UInt8) : (txt l).data.toList = l := rfl
theorem txt_size (l : List UInt8) : (txt l).size = l.length := by unfold txt; rfl
theorem txt_self (s : ByteArray) : txt s.data.toList = s := (str_eq rfl).symm
theorem txt_head (s : ByteArray) (i : Nat) : txt (s.data.toList.take i) = s.extract 0 i := by
  apply ByteArray.ext
  unfold txt
  apply Array.ext'
  simp [Array.toList_extract]
theorem txt_tail (s : ByteArray) (i : Nat) : txt (s.data.toList.drop i) = s.extract i s.size := by
  apply ByteArray.ext
  unfold txt
  apply Array.ext'
  simp [Array.toList_extract]
  exact (List.take_of_length_le (by simp)).symm
theorem hdB_le (c : UInt8) (l : List UInt8) : (hdB c l).length ≤ l.length := by
  rcases index_hdB c l with ⟨_, _, h3, _⟩ | ⟨i, _, h2, _, h4, _⟩
  · rw [h3]; exact Nat.le_refl _
  · rw [h4, List.length_take]; omega
theorem tlB_le (c : UInt8) (l : List UInt8) : (tlB c l).length ≤ l.length := by
  rcases index_hdB c l with ⟨_, _, _, h3⟩ | ⟨i, _, h2, _, _, h4⟩
  · rw [h3]; simp
  · rw [h4]; simp
theorem hdB_at {c : UInt8} {l : List UInt8} {i : Nat} (hi : i < l.length) (h : l[i] = c) (hn : c ∉ l.take i) : hdB c l = l.take i ∧ tlB c l = l.drop (i + 1) ∧ c ∈ l := by
  induction l generalizing i with
  | nil => simp at hi
  | cons b l ih =>
    cases i with
    | zero =>
      simp only [List.getElem_cons_zero] at h
      subst h
      exact ⟨by simp [hdB], by simp [tlB], by simp⟩
    | succ i =>
      simp only [List.take_succ_cons, List.mem_cons, not_or] at hn
      have hb2 : (b != c) = true := by simp; exact fun e => hn.1 e.symm
      obtain ⟨h1, h2, h3⟩ := ih (i := i) (by simpa using hi) (by simpa using h) hn.2
      refine ⟨?_, ?_, by simp [h3]⟩
      · unfold hdB at *; rw [List.takeWhile_cons, if_pos hb2, h1]; rfl
      · unfold tlB at *; rw [List.dropWhile_cons, if_pos hb2, h2]; rfl
theorem hdB_none {c : UInt8} {l : List UInt8} (h : c ∉ l) : hdB c l = l ∧ tlB c l = [] := by
  rcases index_hdB c l with ⟨_, _, h2, h3⟩ | ⟨i, _, _, h0, _, _⟩
  · exact ⟨h2, h3⟩
  · exact absurd h0 h

theorem nat_index (s : ByteArray) (c : UInt8) (w : World) :
    Calls Try.prog 56 #[.string s, .string ⟨#[c]⟩] w fun e w' => e = .returned (.int .i64 (indexByte s.data.toList c)) ∧ w = w' :=
  (Try.stringslite_Index_one s c w).mono (by rintro e w' ⟨rfl, rfl⟩; exact ⟨rfl, rfl⟩)

def CutPost (c : UInt8) (l : List UInt8) (w : World) (e : Ending) (w' : World) : Prop := e = .returned (.tuple #[.string (txt (hdB c l)), .string (txt (tlB c l)), .bool (decide (c ∈ l))]) ∧ ∃ n, w' = w.drewN n
theorem lcut_at (s : ByteArray) (c : UInt8) (w : World) (hs : s.size ≤ 9223372036854775807) :
    Calls Try.prog 50 #[.string s, .string ⟨#[c]⟩] w (CutPost c s.data.toList w) := by
  have C := hid (nat_index s c w)
  rcases index_hdB c s.data.toList with ⟨h1, h0, h2, h3⟩ | ⟨i, h1, h2, h0, h3, h4⟩
  · rw [h1] at C
    have hp : Hid (CutPost c s.data.toList w = fun e w' => e = .returned (.tuple #[.string s, .string ⟨#[]⟩, .bool false]) ∧ ∃ n, w' = w.drewN n) := by
      unfold Hid CutPost
      rw [h2, h3, decide_eq_false h0]
      rfl
    rw [hp.out]
    clear h1 h2 h3 h0 hp
    go_enter Try.func50, Try.ntmps50
    go_wp2_with (go_at_call 56; refine C.out.mono ?_; rintro e w' ⟨rfl, rfl⟩)
    refine bodyPost_ret (v := .tuple #[.string s, .string ⟨#[]⟩, .bool false]) (by simp [results, Try.results50, go_sem]) rfl ⟨rfl, 0, rfl⟩
  · rw [h1] at C
    rw [list_len] at h2
    have hp : Hid (CutPost c s.data.toList w = fun e w' => e = .returned (.tuple #[.string (s.extract 0 i), .string (s.extract (i + 1) s.size), .bool true]) ∧ ∃ n, w' = w.drewN n) := by
      unfold Hid CutPost
      rw [h3, h4, txt_head, txt_tail, decide_eq_true h0]
    rw [hp.out]
    clear h1 h3 h4 h0 hp
    have i1 : (i : Int) < s.size := by omega
    go_enter Try.func50, Try.ntmps50
    go_wp2_with (go_at_call 56; refine C.out.mono ?_; rintro e w' ⟨rfl, rfl⟩)
    have w1 : IntKind.i64.wrap ((i : Int) + 1) = i + 1 := IntWalk.i64_in _ (by omega)
    have w2 : (0 : Int) ≤ (i : Int) + 1 := by omega
    have w3 : ((i : Int) + 1).toNat = i + 1 := by omega
    have w4 : (i : Int) + 1 ≤ s.size := by omega
    have w5 : (i : Int) ≤ s.size := by omega
    go_quiet (fail)
    go_wp2
    refine bodyPost_ret (v := .tuple #[.string (s.extract 0 i), .string (s.extract (i + 1) s.size), .bool true]) (by simp [results, Try.results50, go_sem]) rfl ⟨rfl, nq, rfl⟩
theorem cut_at (s : ByteArray) (c : UInt8) (w : World) (hs : s.size ≤ 9223372036854775807) :
    Calls Try.prog 43 #[.string s, .string ⟨#[c]⟩] w (CutPost c s.data.toList w) := by
  have C := hid (lcut_at s c w hs)
  go_enter Try.func43, Try.ntmps43
  go_wp2_with (go_at_call 50; refine C.out.mono ?_; rintro e w1 ⟨rfl, n, rfl⟩)
  refine bodyPost_ret (v := .tuple #[.string (txt (hdB c s.data.toList)), .string (txt (tlB c s.data.toList)), .bool (decide (c ∈ s.data.toList))]) (by simp [results, Try.results43, go_sem]) rfl ⟨rfl, n, rfl⟩

theorem ncl_any (s : ByteArray) (w : World) (hs : s.size ≤ 281474976710656) : Calls Try.prog 32 #[.string s] w fun e w' => e = .returned (.string s) ∧ Touch [] w w' := by
  have C := hid (Try.stringslite_Clone s w hs)
  clear hs
  go_enter Try.func32, Try.ntmps32
  go_wp2_with (go_at_call 40; refine C.out.mono ?_; rintro e w1 ⟨rfl, a1⟩)
  go_ret
  exact ⟨rfl, Touch.of_below a1⟩

/-! ### Category -/
/-- Has it a category? -/
def catIs (l : List UInt8) : Bool := decide (45 ∈ l) && !(hdB 45 l == []) && strm l && !sysB l
/-- A category, or "", false. -/
def catV (l : List UInt8) : Value := if catIs l = true then .tuple #[.string (txt (hdB 45 l)), .bool true] else .tuple #[.string ⟨#[]⟩, .bool false]
theorem toList_nil {s : ByteArray} {l : List UInt8} (h : s.data.toList = l) : (s.toList == []) = (l == []) := by rw [ByteArray.toList_eq, h]
/-! ### The laws' own Category -/
end Go.Proofs.Ytmgglmoiepjebaa
