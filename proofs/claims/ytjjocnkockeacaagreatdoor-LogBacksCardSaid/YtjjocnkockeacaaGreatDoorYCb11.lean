/- What a chunk's file holds. -/
import Derived.Test.YtjjocnkockeacaaGreatDoorYNm11
import Derived.Test.YtjjocnkockeacaaGreatDoorZq
namespace Go.Proofs.YtjjocnkockeacaaGreatDoor
open Go.RowKit Go.Lib
set_option maxRecDepth 100000

/-! ### A chunk's bytes -/
theorem recs_len (l : List ByteArray) : (recs (dat l)).length = (cat l).length + 13 * l.length := by
  induction l with
  | nil => rfl
  | cons s l ih =>
    have h := frL_len (1 :: s.data.toList)
    have e1 : (recs (dat (s :: l))).length = (frL (1 :: s.data.toList)).length + (recs (dat l)).length := by simp [recs, dat]
    have e2 : (cat (s :: l)).length = s.data.toList.length + (cat l).length := by simp [cat]
    rw [e1, e2, ih, h, List.length_cons, List.length_cons]
    omega
theorem recB_size (s : ByteArray) : (recB s).size = s.size + 13 := by unfold recB; rw [bytesT_size, frL_len, List.length_cons, list_len]
/-- How many bytes the frames of these records have. -/
def takenN (c : List ByteArray) : Nat := (cat c).length + 13 * c.length
theorem takenN_nil : takenN [] = 0 := rfl
theorem takenN_snoc (c : List ByteArray) (s : ByteArray) : takenN (c ++ [s]) = takenN c + (s.size + 13) := by
  unfold takenN
  rw [cat_snoc, List.length_append, List.length_append, list_len, List.length_singleton]
  omega
/-- The bytes of a chunk whose records are c; done, or not. -/
def stB (z k : Nat) : ByteArray := bytesT (frL (stL k z))
def finB (k n : Nat) : ByteArray := bytesT (frL (finL k n))
theorem stB_size (z k : Nat) : (stB z k).size = 33 := by unfold stB; rw [bytesT_size, frSt_len]
theorem finB_size (k n : Nat) : (finB k n).size = 33 := by unfold finB; rw [bytesT_size, frFin_len]
def openB (z k : Nat) (c : List ByteArray) : ByteArray := bytesT (frL (stL k z) ++ recs (dat c))
def doneB (z k : Nat) (c : List ByteArray) : ByteArray := bytesT (frL (stL k z) ++ (recs (dat c) ++ frL (finL k c.length)))
theorem openB_size (z k : Nat) (c : List ByteArray) : (openB z k c).size = 33 + takenN c := by
  unfold openB takenN
  rw [bytesT_size, List.length_append, frSt_len, recs_len]
theorem doneB_size (z k : Nat) (c : List ByteArray) : (doneB z k c).size = 66 + takenN c := by
  unfold doneB takenN
  rw [bytesT_size, List.length_append, List.length_append, frSt_len, recs_len, frFin_len]
  omega
theorem bytesT_app (a b : List UInt8) : bytesT (a ++ b) = bytesT a ++ bytesT b := by
  apply str_eq
  simp only [bytesT_toList]
theorem openB_new (z k : Nat) (s : ByteArray) : stB z k ++ recB s = openB z k [s] := by
  unfold stB recB openB
  rw [← bytesT_app]
  simp [recs, dat]
theorem openB_snoc (z k : Nat) (c : List ByteArray) (s : ByteArray) : openB z k c ++ recB s = openB z k (c ++ [s]) := by
  unfold recB openB
  rw [← bytesT_app]
  simp [recs, dat]
theorem openB_done (z k : Nat) (c : List ByteArray) : openB z k c ++ finB k c.length = doneB z k c := by
  unfold openB finB doneB
  rw [← bytesT_app, List.append_assoc]
theorem openB_take (z k : Nat) (a b : List ByteArray) : (openB z k (a ++ b)).extract 0 (openB z k a).size = openB z k a := by
  apply str_eq
  rw [extract_data]
  unfold openB
  simp only [bytesT_toList]
  rw [bytesT_size, List.drop_zero, Nat.sub_zero]
  have e : recs (dat (a ++ b)) = recs (dat a) ++ recs (dat b) := by rw [← recs_app]; simp [dat]
  rw [e, ← List.append_assoc, List.take_left' rfl]
theorem doneB_take (z k : Nat) (a b : List ByteArray) : (doneB z k (a ++ b)).extract 0 (openB z k a).size = openB z k a := by
  apply str_eq
  rw [extract_data]
  unfold openB doneB
  simp only [bytesT_toList]
  rw [bytesT_size, List.drop_zero, Nat.sub_zero]
  have e : recs (dat (a ++ b)) = recs (dat a) ++ recs (dat b) := by rw [← recs_app]; simp [dat]
  rw [e, List.append_assoc, ← List.append_assoc, List.take_left' rfl]
/-- What Read finds in them. -/
theorem open_read (z k : Nat) (c : List ByteArray) (hk : k ≤ 999999) (h1 : 100 ≤ z) (h2 : z ≤ 1000000) (hc : ∀ s ∈ c, s.size ≤ 3999) :
    Begins (openB z k c).data.toList k z ∧ recOf ((openB z k c).data.toList.drop 33) = (dat c, takenN c) ∧ doneAt k ((openB z k c).data.toList.drop 33) = false := by
  have hd : ∀ l ∈ dat c, l.length ≤ 3999 := by
    intro l hl
    obtain ⟨s, hs, rfl⟩ := List.mem_map.1 hl
    rw [list_len]; exact hc s hs
  have e : (openB z k c).data.toList = frL (stL k z) ++ recs (dat c) := bytesT_toList _
  rw [e, List.drop_left' (frSt_len k z)]
  have q := rec_recs (dat c) [] hd
  rw [List.append_nil] at q
  have q0 : recOf [] = ([], 0) := rfl
  have q1 : recOf (recs (dat c)) = (dat c, takenN c) := by
    rw [q, q0]
    simp [recs_len, takenN]
  refine ⟨⟨hk, h1, h2, List.take_left' (frSt_len k z)⟩, q1, ?_⟩
  unfold doneAt
  rw [q1]
  simp only [decide_eq_false_iff_not]
  intro h
  have := congrArg List.length h
  rw [frFin_len, List.length_take, List.length_drop, recs_len, takenN] at this
  omega
theorem done_read (z k : Nat) (c : List ByteArray) (hk : k ≤ 999999) (h1 : 100 ≤ z) (h2 : z ≤ 1000000) (hc : ∀ s ∈ c, s.size ≤ 3999) :
    Begins (doneB z k c).data.toList k z ∧ recOf ((doneB z k c).data.toList.drop 33) = (dat c, takenN c) ∧ doneAt k ((doneB z k c).data.toList.drop 33) = true := by
  have hd : ∀ l ∈ dat c, l.length ≤ 3999 := by
    intro l hl
    obtain ⟨s, hs, rfl⟩ := List.mem_map.1 hl
    rw [list_len]; exact hc s hs
  have e : (doneB z k c).data.toList = frL (stL k z) ++ (recs (dat c) ++ frL (finL k c.length)) := bytesT_toList _
  rw [e, List.drop_left' (frSt_len k z)]
  obtain ⟨q1, q2⟩ := rec_end (dat c) hd k k c.length []
  rw [List.append_nil] at q1 q2
  refine ⟨⟨hk, h1, h2, List.take_left' (frSt_len k z)⟩, by rw [q1, recs_len]; rfl, ?_⟩
  rw [q2]
  simp [dat]

/-! ### A log's files -/
def doneF (z k : Nat) (c : List ByteArray) : Fl := ⟨nameK k, doneB z k c, (doneB z k c).size, true⟩
def openF (z k : Nat) (c : List ByteArray) (sy : Nat) (la : Bool) : Fl := ⟨nameK k, openB z k c, sy, la⟩
/-- The chunks from k on, all of them done. -/
def doneL (z : Nat) : Nat → List (List ByteArray) → List Fl
  | _, [] => []
  | k, c :: r => doneF z k c :: doneL z (k + 1) r
theorem doneL_len (z : Nat) : ∀ (k : Nat) (cs : List (List ByteArray)), (doneL z k cs).length = cs.length
  | _, [] => rfl
  | k, c :: r => by simp [doneL, doneL_len z (k + 1) r]
theorem doneL_app (z : Nat) : ∀ (k : Nat) (a b : List (List ByteArray)), doneL z k (a ++ b) = doneL z k a ++ doneL z (k + a.length) b
  | k, [], b => by simp [doneL]
  | k, c :: r, b => by
    rw [List.cons_append, doneL, doneL_app z (k + 1) r b, doneL, List.length_cons, show k + (r.length + 1) = k + 1 + r.length by omega]
    rfl
theorem doneL_name (z : Nat) : ∀ (k : Nat) (cs : List (List ByteArray)), ∀ x ∈ doneL z k cs, ∃ i, k ≤ i ∧ i < k + cs.length ∧ x.name = nameK i
  | _, [], x, h => by simp [doneL] at h
  | k, c :: r, x, h => by
    rw [doneL] at h
    rcases List.mem_cons.1 h with rfl | h
    · exact ⟨k, Nat.le_refl _, by simp, rfl⟩
    · obtain ⟨i, h1, h2, h3⟩ := doneL_name z (k + 1) r x h
      exact ⟨i, by omega, by rw [List.length_cons]; omega, h3⟩
theorem doneL_get (z : Nat) : ∀ (k : Nat) (cs : List (List ByteArray)) (i : Nat) (h : i < cs.length), (doneL z k cs)[i]'(by rw [doneL_len]; exact h) = doneF z (k + i) cs[i]
  | _, [], i, h => absurd h (Nat.not_lt_zero _)
  | k, c :: r, 0, _ => rfl
  | k, c :: r, i + 1, h => by
    have := doneL_get z (k + 1) r i (by simpa using h)
    simp only [doneL, List.getElem_cons_succ]
    rw [this, show k + 1 + i = k + (i + 1) by omega]
end Go.Proofs.YtjjocnkockeacaaGreatDoor
