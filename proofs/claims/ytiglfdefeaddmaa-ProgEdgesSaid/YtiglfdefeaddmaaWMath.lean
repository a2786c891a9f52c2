/- What programs of numbers' texts come to, as plain mathematics; lists of texts that are built at once. -/
import Derived.Test.YtiglfdefeaddmaaAlive5
import Derived.Test.YtiglfdefeaddmaaBack
import Derived.Test.YtiglfdefeaddmaaRefTxt
namespace Go.Proofs.Ytiglfdefeaddmaa
open Go.RowKit Go.Lib

theorem noName_of {l : List UInt8} (h : (parseOf l).2 = 0) : NoName l := by
  constructor <;> (rintro rfl; revert h; decide)
theorem kind_text {b : Nat} (hb : Wd b) : kindOf (txt (textOf b)).data.toList = .num (can b) := by
  rw [txt_list]
  have h := (parse_text b hb).1
  have h2 : (parseOf (textOf b)).2 = 0 := by rw [h]
  rw [kind_num (noName_of h2) h2, h]
theorem kind_text' {b : Nat} (hb : Wd b) : kindOf (textOf b) = .num (can b) := by
  have := kind_text hb
  rwa [txt_list] at this
theorem textOf_size {b : Nat} (hb : Wd b) : (txt (textOf b)).size ≤ maxLen := by
  rw [txt_size]
  have := (parse_text b hb).2.2
  unfold maxLen; omega
theorem cls_can (b : Nat) : cls (can b) = cls b := by
  by_cases h : isNan b = true
  · unfold cls
    rw [if_pos (by rw [can_isNan]; exact h), if_pos h]
  · rw [can_num (isNan_false b h)]

theorem check_all {l : List ByteArray} (h : l.length ≤ 64) (ha : ∀ s ∈ l, noWord s = false) : checkOf l = (0, 0) :=
  check_ok h fun _ hj => ha _ (List.getElem_mem hj)
theorem word_yes {s : ByteArray} {k : Wk} (h : kindOf s.data.toList = k) (hk : isNo k = false) : noWord s = false := by
  unfold noWord; rw [h]; exact hk

theorem step_num (E : EnvD) (b : Nat) (s : List Nat) : stepK E (.num b) s = .ok (can b :: s) := rfl
theorem step_drop (E : EnvD) (x : Nat) (s : List Nat) : stepK E .drop (x :: s) = .ok s := rfl
theorem step_dup (E : EnvD) (x : Nat) (s : List Nat) : stepK E .dup (x :: s) = .ok (can x :: can x :: s) := rfl
theorem step_swap (E : EnvD) (b a : Nat) (s : List Nat) : stepK E .swap (b :: a :: s) = .ok (can a :: can b :: s) := rfl
theorem step_pick (E : EnvD) (c b a : Nat) (s : List Nat) : stepK E .pick (c :: b :: a :: s) = .ok (can (if cls c = 0 ∨ cls c = 3 ∨ cls c = 4 then b else a) :: s) := rfl
theorem step_min (E : EnvD) (b a : Nat) (s : List Nat) : stepK E .min (b :: a :: s) = .ok (can (leastOf [a, b]) :: s) := rfl
theorem exec_nil (E : EnvD) (s : List Nat) : exec E [] s = .ok s := rfl
theorem exec_ok (E : EnvD) (w : List UInt8) (ws : List (List UInt8)) (s s' : List Nat) (k : Wk) (hk : kindOf w = k) (h : stepK E k s = .ok s') : exec E (w :: ws) s = exec E ws s' := by
  rw [exec, hk, h]
theorem exec_no (E : EnvD) (w : List UInt8) (ws : List (List UInt8)) (s : List Nat) (f : FltD) (k : Wk) (hk : kindOf w = k) (h : stepK E k s = .bad f) : exec E (w :: ws) s = .bad f := by
  rw [exec, hk, h]

theorem texts_new (w : World) (l : List ByteArray) (h : ∀ s ∈ l, s.size ≤ maxLen) : TextsX (w.alloc (.cells (l.map fun s => Value.string s).toArray TStr)) (some ⟨w.heap.size, 0, none⟩) l := fun i hi => by
  refine ⟨_, _, rfl, ?_, h _ (List.getElem_mem hi)⟩
  rw [Nat.zero_add]
  have h1 : (w.alloc (.cells (l.map fun s => Value.string s).toArray TStr)).heap[w.heap.size]? = some (.cells (l.map fun s => Value.string s).toArray TStr (0, 0)) := heap_alloc_new w _
  rw [cell_of h1]
  simp [hi]

/-- pick. -/
noncomputable def picksW (a b c : Nat) : List ByteArray := [txt (textOf a), txt (textOf b), txt (textOf c), ⟨wPick.toArray⟩]
theorem picks_run {a b c : Nat} (ha : Wd a) (hb : Wd b) (hc : Wd c) : runOf env0 (picksW a b c) = (can (if cls c = 0 ∨ cls c = 3 ∨ cls c = 4 then b else a), fine) := by
  have h : exec env0 (wordsL (picksW a b c)) [] = .ok [can (if cls (can (can c)) = 0 ∨ cls (can (can c)) = 3 ∨ cls (can (can c)) = 4 then can (can b) else can (can a))] := by
    show exec env0 (textOf a :: textOf b :: textOf c :: wPick :: []) [] = _
    rw [exec_ok _ _ _ _ _ _ (kind_text' ha) (step_num _ _ _), exec_ok _ _ _ _ _ _ (kind_text' hb) (step_num _ _ _), exec_ok _ _ _ _ _ _ (kind_text' hc) (step_num _ _ _), exec_ok _ _ _ _ _ .pick rfl (step_pick _ _ _ _ _), exec_nil]
  have hk : checkOf (picksW a b c) = (0, 0) := check_all (by simp [picksW]) (by
    intro s hs
    simp only [picksW, List.mem_cons, List.not_mem_nil, or_false] at hs
    rcases hs with rfl | rfl | rfl | rfl
    · exact word_yes (kind_text ha) rfl
    · exact word_yes (kind_text hb) rfl
    · exact word_yes (kind_text hc) rfl
    · exact word_yes (k := .pick) rfl rfl)
  unfold runOf
  rw [hk, if_pos rfl, h, can_can, can_can, can_can, cls_can]
  show (can _, fine) = _
  split
  · rw [can_can]
  · rw [can_can]

theorem least_self (x : Nat) : leastOf [x, x] = can x := by
  show can (pickB aheadL x x) = _
  unfold pickB
  split <;> rfl
/-- drop, dup, swap. -/
noncomputable def dropW (a b : Nat) : List ByteArray := [txt (textOf a), txt (textOf b), ⟨wDrop.toArray⟩]
noncomputable def dupW (a : Nat) : List ByteArray := [txt (textOf a), ⟨wDup.toArray⟩, ⟨wMin.toArray⟩]
noncomputable def turnW (a b : Nat) : List ByteArray := [txt (textOf a), txt (textOf b), ⟨wSwap.toArray⟩, ⟨wSwap.toArray⟩, ⟨wDrop.toArray⟩]
noncomputable def swapW (a b : Nat) : List ByteArray := [txt (textOf a), txt (textOf b), ⟨wSwap.toArray⟩, ⟨wDrop.toArray⟩]
theorem drop_run {a b : Nat} (ha : Wd a) (hb : Wd b) : runOf env0 (dropW a b) = (can a, fine) := by
  have h : exec env0 (wordsL (dropW a b)) [] = .ok [can (can a)] := by
    show exec env0 (textOf a :: textOf b :: wDrop :: []) [] = _
    rw [exec_ok _ _ _ _ _ _ (kind_text' ha) (step_num _ _ _), exec_ok _ _ _ _ _ _ (kind_text' hb) (step_num _ _ _), exec_ok _ _ _ _ _ .drop rfl (step_drop _ _ _), exec_nil]
  have hk : checkOf (dropW a b) = (0, 0) := check_all (by simp [dropW]) (by
    intro s hs
    simp only [dropW, List.mem_cons, List.not_mem_nil, or_false] at hs
    rcases hs with rfl | rfl | rfl
    · exact word_yes (kind_text ha) rfl
    · exact word_yes (kind_text hb) rfl
    · exact word_yes (k := .drop) rfl rfl)
  unfold runOf
  rw [hk, if_pos rfl, h, can_can]; rfl
theorem dup_run {a : Nat} (ha : Wd a) : runOf env0 (dupW a) = (can a, fine) := by
  have h : exec env0 (wordsL (dupW a)) [] = .ok [can (leastOf [can (can (can a)), can (can (can a))])] := by
    show exec env0 (textOf a :: wDup :: wMin :: []) [] = _
    rw [exec_ok _ _ _ _ _ _ (kind_text' ha) (step_num _ _ _), exec_ok _ _ _ _ _ .dup rfl (step_dup _ _ _), exec_ok _ _ _ _ _ .min rfl (step_min _ _ _ _), exec_nil]
  have hk : checkOf (dupW a) = (0, 0) := check_all (by simp [dupW]) (by
    intro s hs
    simp only [dupW, List.mem_cons, List.not_mem_nil, or_false] at hs
    rcases hs with rfl | rfl | rfl
    · exact word_yes (kind_text ha) rfl
    · exact word_yes (k := .dup) rfl rfl
    · exact word_yes (k := .min) rfl rfl)
  unfold runOf
  rw [hk, if_pos rfl, h, least_self, can_can, can_can, can_can, can_can]; rfl
theorem turn_run {a b : Nat} (ha : Wd a) (hb : Wd b) : runOf env0 (turnW a b) = (can a, fine) := by
  have h : exec env0 (wordsL (turnW a b)) [] = .ok [can (can (can (can a)))] := by
    show exec env0 (textOf a :: textOf b :: wSwap :: wSwap :: wDrop :: []) [] = _
    rw [exec_ok _ _ _ _ _ _ (kind_text' ha) (step_num _ _ _), exec_ok _ _ _ _ _ _ (kind_text' hb) (step_num _ _ _), exec_ok _ _ _ _ _ .swap rfl (step_swap _ _ _ _), exec_ok _ _ _ _ _ .swap rfl (step_swap _ _ _ _), exec_ok _ _ _ _ _ .drop rfl (step_drop _ _ _), exec_nil]
  have hk : checkOf (turnW a b) = (0, 0) := check_all (by simp [turnW]) (by
    intro s hs
    simp only [turnW, List.mem_cons, List.not_mem_nil, or_false] at hs
    rcases hs with rfl | rfl | rfl | rfl | rfl
    · exact word_yes (kind_text ha) rfl
    · exact word_yes (kind_text hb) rfl
    · exact word_yes (k := .swap) rfl rfl
    · exact word_yes (k := .swap) rfl rfl
    · exact word_yes (k := .drop) rfl rfl)
  unfold runOf
  rw [hk, if_pos rfl, h, can_can, can_can, can_can]; rfl
theorem swap_run {a b : Nat} (ha : Wd a) (hb : Wd b) : runOf env0 (swapW a b) = (can b, fine) := by
  have h : exec env0 (wordsL (swapW a b)) [] = .ok [can (can (can b))] := by
    show exec env0 (textOf a :: textOf b :: wSwap :: wDrop :: []) [] = _
    rw [exec_ok _ _ _ _ _ _ (kind_text' ha) (step_num _ _ _), exec_ok _ _ _ _ _ _ (kind_text' hb) (step_num _ _ _), exec_ok _ _ _ _ _ .swap rfl (step_swap _ _ _ _), exec_ok _ _ _ _ _ .drop rfl (step_drop _ _ _), exec_nil]
  have hk : checkOf (swapW a b) = (0, 0) := check_all (by simp [swapW]) (by
    intro s hs
    simp only [swapW, List.mem_cons, List.not_mem_nil, or_false] at hs
    rcases hs with rfl | rfl | rfl | rfl
    · exact word_yes (kind_text ha) rfl
    · exact word_yes (kind_text hb) rfl
    · exact word_yes (k := .swap) rfl rfl
    · exact word_yes (k := .drop) rfl rfl)
  unfold runOf
  rw [hk, if_pos rfl, h, can_can, can_can]; rfl
end Go.Proofs.Ytiglfdefeaddmaa
