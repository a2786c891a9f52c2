/- A block behind stores into a stretch of it. -/
import Derived.Test.YthibabfojndlkaaPh9
import Derived.Laws.IdiomCopy
namespace Go.Proofs.Ythibabfojndlkaa
open Go.RowKit Go.Lib
set_option maxRecDepth 100000

def laidIn (cur : Array Value) (o : Nat) : List Value → Array Value
  | [] => cur
  | v :: r => laidIn (cur.setIfInBounds o v) (o + 1) r
theorem laid_size : ∀ (vs : List Value) (cur : Array Value) (o : Nat), (laidIn cur o vs).size = cur.size
  | [], _, _ => rfl
  | v :: r, cur, o => by rw [laidIn, laid_size r]; simp
theorem heap_setCells {b : Nat} {t : TypeId} {fz : Nat × Nat} : ∀ (vs : List Value) (o : Nat) {cur : Array Value} {w : World}, w.heap[b]? = some (.cells cur t fz) → (w.setCells b o vs).heap[b]? = some (.cells (laidIn cur o vs) t fz)
  | [], _, _, _, h => h
  | v :: r, o, _, _, h => by
    rw [World.setCells, laidIn]
    exact heap_setCells r (o + 1) (heap_set h v)
theorem touch_setCells {F : List Nat} {b : Nat} {a : World} (hb : b ∈ F ∨ a.heap.size ≤ b) : ∀ (vs : List Value) (o : Nat) {w : World}, Touch F a w → Touch F a (w.setCells b o vs)
  | [], _, _, h => h
  | v :: r, o, _, h => by
    rw [World.setCells]
    exact touch_setCells hb r (o + 1) (h.setCell hb v)
theorem laid_get : ∀ (vs : List Value) (cur : Array Value) (o i : Nat), o + vs.length ≤ cur.size → (laidIn cur o vs)[i]? = if o ≤ i ∧ i < o + vs.length then vs[i - o]? else cur[i]?
  | [], cur, o, i, _ => by rw [laidIn, if_neg (by simp only [List.length_nil]; omega)]
  | v :: r, cur, o, i, h => by
    simp only [List.length_cons] at h
    rw [laidIn, laid_get r _ (o + 1) i (by simp; omega)]
    simp only [List.length_cons]
    by_cases h1 : i = o
    · subst h1
      rw [if_neg (by omega), if_pos (by omega), Nat.sub_self, List.getElem?_cons_zero, Array.getElem?_setIfInBounds, if_pos rfl, if_pos (by omega)]
    · by_cases h2 : o + 1 ≤ i ∧ i < o + 1 + r.length
      · rw [if_pos h2, if_pos (by omega)]
        obtain ⟨d, hd⟩ : ∃ d, i - o = d + 1 := ⟨i - o - 1, by omega⟩
        rw [hd, show i - (o + 1) = d by omega]
        simp
      · rw [if_neg h2, if_neg (by omega), Array.getElem?_setIfInBounds_ne (by omega)]
theorem laid_list (vs : List Value) (cur : Array Value) (o : Nat) (h : o + vs.length ≤ cur.size) : (laidIn cur o vs).toList = cur.toList.take o ++ vs ++ cur.toList.drop (o + vs.length) := by
  apply List.ext_getElem?
  intro i
  have := laid_get vs cur o i h
  rw [Array.getElem?_toList, this]
  by_cases h1 : i < o
  · rw [if_neg (by omega), List.append_assoc, List.getElem?_append_left (by simp; omega), List.getElem?_take_of_lt h1, Array.getElem?_toList]
  · by_cases h2 : i < o + vs.length
    · rw [if_pos (by omega), List.getElem?_append_left (by simp; omega), List.getElem?_append_right (by simp; omega)]
      simp
      congr 1
      omega
    · rw [if_neg (by omega), List.getElem?_append_right (by simp; omega), List.getElem?_drop]
      simp
      congr 1
      omega
end Go.Proofs.Ythibabfojndlkaa
