/- A program's text: its words, joined; and their words again. -/
import Derived.Test.YtiglfdefeaddmaaGreatRWords
import Derived.Test.YtiglfdefeaddmaaGreatShelf
import Derived.Lib.Join
namespace Go.Proofs.YtiglfdefeaddmaaGreat
open Go.RowKit Go.Lib

/-- What a word is. -/
def Good (s : ByteArray) : Prop := s.data.toList ≠ [] ∧ ∀ x ∈ s.data.toList, x ≠ 32
theorem hd_no (l : List UInt8) : ∀ x ∈ hdW l, x ≠ 32 := by
  induction l with
  | nil => intro x hx; simp [hdW] at hx
  | cons b l ih =>
    intro x hx
    unfold hdW at hx ih
    rw [List.takeWhile_cons] at hx
    split at hx
    · rename_i hb
      rcases List.mem_cons.1 hx with rfl | hx
      · simpa using hb
      · exact ih x hx
    · simp at hx
theorem wordsN_good : ∀ (n : Nat) (l : List UInt8), (∀ x ∈ wordsN n l, x ≠ [] ∧ ∀ b ∈ x, b ≠ 32) ∧ ((wordsN n l).map fun x => x.length + 1).sum ≤ l.length + 1
  | 0, l => by simp [wordsN]
  | n + 1, l => by
    unfold wordsN
    by_cases h : l = []
    · rw [if_pos h]; simp
    · rw [if_neg h]
      obtain ⟨i1, i2⟩ := wordsN_good n (tlW l)
      have htl := tl_lt h
      by_cases hh : hdW l = []
      · rw [if_pos hh, List.nil_append]
        exact ⟨i1, by omega⟩
      · rw [if_neg hh]
        refine ⟨fun x hx => ?_, ?_⟩
        · rw [List.singleton_append, List.mem_cons] at hx
          rcases hx with rfl | hx
          · exact ⟨hh, hd_no l⟩
          · exact i1 x hx
        · rw [List.singleton_append, List.map_cons, List.sum_cons]
          rcases index_hd l with ⟨_, h2, h3⟩ | ⟨i, _, h2, h3, h4⟩
          · rw [h3] at i2 ⊢
            rw [wordsN_nil] at i2 ⊢
            rw [h2]
            simp
          · have h5 : (hdW l).length = i := by rw [h3, List.length_take]; omega
            have h6 : (tlW l).length = l.length - (i + 1) := by rw [h4, List.length_drop]
            omega
theorem wordsB_good (l : List UInt8) : ∀ s ∈ wordsB l, Good s := fun s hs => by
  unfold wordsB at hs
  rw [List.mem_map] at hs
  obtain ⟨x, hx, rfl⟩ := hs
  exact (wordsN_good _ l).1 x hx
/-- The words between one blank each. -/
def joinL (l : List ByteArray) : List UInt8 := Lib.join (l.map (·.data.toList)) [32]
theorem joinL_cons (s t : ByteArray) (l : List ByteArray) : joinL (s :: t :: l) = s.data.toList ++ 32 :: joinL (t :: l) := by
  simp [joinL, Lib.join, List.intercalate]
theorem joinL_len : ∀ l : List ByteArray, (joinL l).length ≤ (l.map fun s => s.data.toList.length + 1).sum
  | [] => by simp [joinL, Lib.join]
  | [s] => by simp [joinL, Lib.join_one]
  | s :: t :: l => by
    have := joinL_len (t :: l)
    rw [joinL_cons, List.length_append, List.length_cons, List.map_cons, List.sum_cons]
    omega
theorem joinL_words (l : List UInt8) : (joinL (wordsB l)).length ≤ l.length + 1 := by
  have h := joinL_len (wordsB l)
  have h2 := (wordsN_good l.length l).2
  unfold wordsB wordsW at h
  rw [List.map_map] at h
  unfold wordsB wordsW
  exact Nat.le_trans h h2
theorem words_joinL : ∀ l : List ByteArray, (∀ s ∈ l, Good s) → wordsB (joinL l) = l
  | [], _ => rfl
  | [s], h => by
    obtain ⟨h1, h2⟩ := h s (by simp)
    obtain ⟨h3, h4⟩ := hd_all h2
    have e : joinL [s] = s.data.toList := by simp [joinL, Lib.join_one]
    rw [e, wordsB_yes h1 (by rw [h3]; exact h1), h3, h4, wordsB_nil]
    exact congrArg (· :: []) (arr_eq rfl).symm
  | s :: t :: l, h => by
    obtain ⟨h1, h2⟩ := h s (by simp)
    rw [joinL_cons]
    obtain ⟨h3, h4⟩ := hd_app (q := joinL (t :: l)) h2
    rw [wordsB_yes (by simp) (by rw [h3]; exact h1), h3, h4, words_joinL (t :: l) (fun x hx => h x (by simp [hx]))]
    exact congrArg (· :: t :: l) (arr_eq rfl).symm

set_option maxRecDepth 100000 in
theorem text_any (v : Value) (bv : Nat) (L : List ByteArray) (W : World) (hv : W.ownsRow bv TStr 1 v L.length (svals L)) (hj : (joinL L).length ≤ 100000) (hl : L.length ≤ 100000) :
    Calls Tryz.prog 10 #[.agg #[v]] W fun e w' => e = .returned (.string ⟨(joinL L).toArray⟩) ∧ Touch [] W w' := by
  rcases hv.2 with ⟨rfl, h0⟩ | ⟨g, cap, cur, rfl, hb, hh, hc, hm, _, ht⟩
  · obtain rfl := List.eq_nil_of_length_eq_zero h0
    have J := hid (fun w => Tryz.strings_Join_none none 0 ⟨#[32]⟩ w)
    clear hv h0
    go_enter Tryz.func10, Tryz.ntmps10
    go_wp2_with fail
    refine (J.out _).mono ?_
    rintro e w' ⟨rfl, rfl⟩
    go_wp2_with fail
    go_ret
    exact ⟨rfl, (Touch.refl _ _).alloc _⟩
  · have hcell : Hid (∀ (w : World), Touch [] W w → ∀ (j : Nat) x, L[j]? = some x → w.cell? ⟨g, 0 + j, none⟩ = some (.string x)) := fun w t j x hx => by
      have h := hv.cells (g := g) rfl j (.string x) (by unfold svals; rw [List.getElem?_map, hx]; rfl)
      rw [show (⟨g, 0, none⟩ : Addr).add j = ⟨g, 0 + j, none⟩ from by unfold Addr.add; split <;> simp_all] at h
      exact t.cell h
    have hlt := lt_of_block hh
    have J := hid (fun w (t : Touch [] W w) => Tryz.strings_Join g 0 cap L ⟨#[32]⟩ w (hcell.out w t) (by have := t.size; omega) (by omega) hc (by show (joinL L).length ≤ _; omega))
    clear hv hh ht hlt hcell
    go_enter Tryz.func10, Tryz.ntmps10
    go_wp2_with fail
    refine (J.out _ ((Touch.refl _ _).alloc _)).mono ?_
    rintro e w' ⟨rfl, hbw⟩
    have T := hid (((Touch.refl [] W).alloc (.cells #[.slice (some ⟨g, 0, none⟩) L.length cap] TProg)).trans (Touch.of_below hbw) (by simp))
    clear hbw
    go_wp2_with fail
    go_ret
    exact ⟨rfl, T.out⟩
end Go.Proofs.YtiglfdefeaddmaaGreat
