/- The laws' own number and value: a number as bytes, and back. Frames as plain lists of bytes: a frame, the first one, the last one, all. The laws' own Frame, First, Last. The laws' own First. The laws' own Last. The laws' own Frames. -/
import Derived.Test.YtjjocnkockeacaaGreatDoorZk
import Derived.Test.YtjjocnkockeacaaGreatDoorZl
import Derived.OwnWalk
import Derived.Lib.Strings
import Derived.Laws.Strings2
import Derived.Laws.Slices
import Derived.Test.YtjjocnkockeacaaGreatDoorZb
import Derived.Deep.AppendLies
namespace Go.Proofs.YtjjocnkockeacaaGreatDoor
open Go.RowKit Go.Lib
set_option maxRecDepth 100000

theorem touch_blk0 {F : List Nat} {w w' : World} {b : Nat} {cs : Array Value} {ty : TypeId} {fz : Nat × Nat} (h : Touch F w w') (hb : w.heap[b]? = some (.cells cs ty fz)) (hn : b ∉ F := by simp) : w'.heap[b]? = some (.cells cs ty fz) := (h.block b (lt_of_block hb) hn).trans hb
end Go.Proofs.YtjjocnkockeacaaGreatDoor

namespace Go.Proofs.YtjjocnkockeacaaGreatDoor
open Go.RowKit Go.Lib

def frL (l : List UInt8) : List UInt8 := be 4 l.length ++ (be 4 (crc (be 4 l.length ++ l)) ++ (l ++ be 4 l.length))
theorem frL_len (l : List UInt8) : (frL l).length = l.length + 12 := by
  unfold frL
  simp only [List.length_append, be_length]
  omega
/-- What First tells. -/
def firstOf (b : List UInt8) : List UInt8 × Nat × Int :=
  if b.length < 12 then ([], 0, 5)
  else if 4000 < val (b.take 4) then ([], 0, 6)
  else if b.length < val (b.take 4) + 12 then ([], 0, 5)
  else if val ((b.drop (8 + val (b.take 4))).take 4) ≠ val (b.take 4) then ([], 0, 6)
  else if frL ((b.drop 8).take (val (b.take 4))) ≠ b.take (val (b.take 4) + 12) then ([], 0, 7)
  else ((b.drop 8).take (val (b.take 4)), val (b.take 4) + 12, 0)
/-- What Last tells. -/
def lastOf (b : List UInt8) : List UInt8 × Nat × Int :=
  if b.length < 12 then ([], 0, 5)
  else if 4000 < val (b.drop (b.length - 4)) then ([], 0, 6)
  else if b.length < val (b.drop (b.length - 4)) + 12 then ([], 0, 5)
  else if val ((b.drop (b.length - val (b.drop (b.length - 4)) - 12)).take 4) ≠ val (b.drop (b.length - 4)) then ([], 0, 6)
  else firstOf (b.drop (b.length - val (b.drop (b.length - 4)) - 12))

theorem val_be4 {n : Nat} (h : n < 4294967296) : val (be 4 n) = n := by rw [val_be]; exact Nat.mod_eq_of_lt h
theorem frL_head (l r : List UInt8) : (frL l ++ r).take 4 = be 4 l.length := by
  unfold frL
  rw [List.append_assoc]
  exact List.take_left' (be_length 4 l.length)
theorem frL_tail (l r : List UInt8) : ((frL l ++ r).drop (8 + l.length)).take 4 = be 4 l.length := by
  have e : frL l ++ r = (be 4 l.length ++ (be 4 (crc (be 4 l.length ++ l)) ++ l)) ++ (be 4 l.length ++ r) := by unfold frL; simp only [List.append_assoc]
  rw [e, List.drop_left' (by simp only [List.length_append, be_length]; omega), List.take_left' (be_length 4 l.length)]
theorem frL_body (l r : List UInt8) : ((frL l ++ r).drop 8).take l.length = l := by
  have e : frL l ++ r = (be 4 l.length ++ be 4 (crc (be 4 l.length ++ l))) ++ (l ++ (be 4 l.length ++ r)) := by unfold frL; simp only [List.append_assoc]
  rw [e, List.drop_left' (by simp only [List.length_append, be_length]), List.take_left' rfl]
theorem first_frL (l r : List UInt8) (h : l.length ≤ 4000) : firstOf (frL l ++ r) = (l, l.length + 12, 0) := by
  have hl := frL_len l
  unfold firstOf
  rw [frL_head, val_be4 (by omega), if_neg (by rw [List.length_append]; omega), if_neg (by omega), if_neg (by rw [List.length_append]; omega), frL_tail, val_be4 (by omega), if_neg (by simp), frL_body, if_neg (by rw [List.take_left' hl]; simp)]
theorem first_ok {b : List UInt8} (h : (firstOf b).2.2 = 0) : ∃ l, b = frL l ++ b.drop (l.length + 12) ∧ l.length ≤ 4000 ∧ firstOf b = (l, l.length + 12, 0) ∧ l.length = val (b.take 4) ∧ l.length + 12 ≤ b.length := by
  unfold firstOf at h
  split at h
  · cases h
  rename_i h1
  split at h
  · cases h
  rename_i h2
  split at h
  · cases h
  rename_i h3
  split at h
  · cases h
  rename_i h4
  split at h
  · cases h
  rename_i h5
  have hn : ((b.drop 8).take (val (b.take 4))).length = val (b.take 4) := by rw [List.length_take, List.length_drop]; omega
  refine ⟨(b.drop 8).take (val (b.take 4)), ?_, by rw [hn]; omega, ?_, hn, by rw [hn]; omega⟩
  · rw [hn]
    have h6 : frL ((b.drop 8).take (val (b.take 4))) = b.take (val (b.take 4) + 12) := by
      by_cases e : frL ((b.drop 8).take (val (b.take 4))) = b.take (val (b.take 4) + 12)
      · exact e
      · exact absurd e h5
    rw [h6, List.take_append_drop]
  · unfold firstOf
    rw [if_neg h1, if_neg h2, if_neg h3, if_neg h4, if_neg h5, hn]
theorem last_frL (r l : List UInt8) (h : l.length ≤ 4000) : lastOf (r ++ frL l) = (l, l.length + 12, 0) := by
  have hl := frL_len l
  have hlen : (r ++ frL l).length = r.length + (l.length + 12) := by rw [List.length_append, hl]
  have e4 : (r ++ frL l).drop ((r ++ frL l).length - 4) = be 4 l.length := by
    have e : r ++ frL l = (r ++ (be 4 l.length ++ (be 4 (crc (be 4 l.length ++ l)) ++ l))) ++ be 4 l.length := by unfold frL; simp only [List.append_assoc]
    rw [hlen]
    rw [e]
    exact List.drop_left' (by simp only [List.length_append, be_length]; omega)
  have e12 : (r ++ frL l).drop ((r ++ frL l).length - l.length - 12) = frL l := by
    rw [hlen]
    exact List.drop_left' (by omega)
  have hf := first_frL l [] h
  have hh := frL_head l []
  rw [List.append_nil] at hf hh
  unfold lastOf
  rw [e4, val_be4 (by omega), e12, hh, val_be4 (by omega), if_neg (by omega), if_neg (by omega), if_neg (by omega), if_neg (by simp), hf]
theorem last_ok {b : List UInt8} (h : (lastOf b).2.2 = 0) : ∃ r l, b = r ++ frL l ∧ l.length ≤ 4000 ∧ lastOf b = (l, l.length + 12, 0) := by
  unfold lastOf at h
  split at h
  · cases h
  rename_i h1
  split at h
  · cases h
  rename_i h2
  split at h
  · cases h
  rename_i h3
  split at h
  · cases h
  rename_i h4
  obtain ⟨l, e1, e2, e3, e4, _⟩ := first_ok h
  have hn : l.length = val (b.drop (b.length - 4)) := by
    rw [e4]
    by_cases e : val ((b.drop (b.length - val (b.drop (b.length - 4)) - 12)).take 4) = val (b.drop (b.length - 4))
    · exact e
    · exact absurd e h4
  have hd : (b.drop (b.length - val (b.drop (b.length - 4)) - 12)).drop (l.length + 12) = [] := by
    apply List.drop_eq_nil_of_le
    rw [List.length_drop]
    omega
  rw [hd, List.append_nil] at e1
  refine ⟨b.take (b.length - val (b.drop (b.length - 4)) - 12), l, ?_, e2, ?_⟩
  · rw [← e1, List.take_append_drop]
  · unfold lastOf
    rw [if_neg h1, if_neg h2, if_neg h3, if_neg h4, e3]

/-! ### All -/
def allF : Nat → List UInt8 → List (List UInt8) × Nat
  | 0, _ => ([], 0)
  | k + 1, b => if (firstOf b).2.2 ≠ 0 then ([], 0) else ((firstOf b).1 :: (allF k (b.drop (firstOf b).2.1)).1, (firstOf b).2.1 + (allF k (b.drop (firstOf b).2.1)).2)
/-- What All tells. -/
def allOf (b : List UInt8) : List (List UInt8) × Nat := allF b.length b
theorem allF_more : ∀ (k m : Nat) (b : List UInt8), b.length ≤ k → b.length ≤ m → allF k b = allF m b
  | 0, 0, _, _, _ => rfl
  | 0, m + 1, b, h, _ => by
    have hb : b = [] := List.eq_nil_of_length_eq_zero (by omega)
    subst hb
    rfl
  | k + 1, 0, b, _, h => by
    have hb : b = [] := List.eq_nil_of_length_eq_zero (by omega)
    subst hb
    rfl
  | k + 1, m + 1, b, h1, h2 => by
    unfold allF
    by_cases e : (firstOf b).2.2 = 0
    · obtain ⟨l, _, _, e3, _, e5⟩ := first_ok e
      have hd : (b.drop (firstOf b).2.1).length + 12 ≤ b.length := by rw [e3, List.length_drop]; simp only []; omega
      rw [if_neg (by simpa using e), if_neg (by simpa using e), allF_more k m _ (by omega) (by omega)]
    · rw [if_pos e, if_pos e]
theorem all_stop {b : List UInt8} (h : (firstOf b).2.2 ≠ 0) : allOf b = ([], 0) := by
  unfold allOf
  cases hb : b.length with
  | zero => rfl
  | succ n => unfold allF; rw [if_pos h]
theorem all_step {b : List UInt8} (h : (firstOf b).2.2 = 0) : allOf b = ((firstOf b).1 :: (allOf (b.drop (firstOf b).2.1)).1, (firstOf b).2.1 + (allOf (b.drop (firstOf b).2.1)).2) := by
  obtain ⟨l, _, _, e3, _, e5⟩ := first_ok h
  unfold allOf
  cases hb : b.length with
  | zero => omega
  | succ n =>
    have hd : (b.drop (firstOf b).2.1).length ≤ n := by rw [e3, List.length_drop]; simp only []; omega
    rw [allF, if_neg (by simpa using h), allF_more n _ _ hd (Nat.le_refl _)]
def frames (L : List (List UInt8)) : List UInt8 := L.flatMap frL
theorem all_frames (L : List (List UInt8)) (r : List UInt8) (h : ∀ l ∈ L, l.length ≤ 4000) : allOf (frames L ++ r) = (L ++ (allOf r).1, (frames L).length + (allOf r).2) := by
  induction L with
  | nil => simp [frames]
  | cons l L ih =>
    have e : frames (l :: L) ++ r = frL l ++ (frames L ++ r) := by simp [frames]
    have hf := first_frL l (frames L ++ r) (h l (by simp))
    have hl := frL_len l
    have hlen : (frames (l :: L)).length = (frL l).length + (frames L).length := by simp [frames]
    rw [e, all_step (by rw [hf]), hf]
    simp only []
    rw [List.drop_left' hl, ih (fun a ha => h a (by simp [ha])), hlen, hl]
    simp only [List.cons_append, Prod.mk.injEq, true_and]
    omega
theorem first_cut (l r : List UInt8) (k : Nat) (hl : l.length ≤ 4000) (h : k < l.length + 12) : (firstOf ((frL l ++ r).take k)).2.2 ≠ 0 := by
  intro e
  obtain ⟨m, e1, e2, _, e4, e5⟩ := first_ok e
  rw [List.length_take] at e5
  have h4 : ((frL l ++ r).take k).take 4 = (frL l ++ r).take 4 := by rw [List.take_take, Nat.min_eq_left (by omega)]
  rw [h4, frL_head, val_be4 (by omega)] at e4
  omega
end Go.Proofs.YtjjocnkockeacaaGreatDoor

namespace Go.Proofs.YtjjocnkockeacaaGreatDoor
open Go.RowKit Go.Lib
set_option maxRecDepth 100000

/-- What Frame tells. -/
def frB (s : ByteArray) : ByteArray := if 4000 < s.size then ⟨#[]⟩ else ⟨(frL s.data.toList).toArray⟩
def frE (s : ByteArray) : Int := if 4000 < s.size then 2 else 0
def bytesT (l : List UInt8) : ByteArray := ⟨l.toArray⟩

end Go.Proofs.YtjjocnkockeacaaGreatDoor

namespace Go.Proofs.YtjjocnkockeacaaGreatDoor
open Go.RowKit Go.Lib
set_option maxRecDepth 100000

def FirstV (b : ByteArray) : Value := .tuple #[.string (bytesT (firstOf b.data.toList).1), .int .i64 ((firstOf b.data.toList).2.1 : Int), .int .i64 (firstOf b.data.toList).2.2]
theorem txt_ne {x y : ByteArray} (h : x.data.toList ≠ y.data.toList) : (x.toList == y.toList) = false := by
  rw [ByteArray.toList_eq, ByteArray.toList_eq, Bool.eq_false_iff]
  intro e
  exact h (eq_of_beq e)
theorem txt_same {x y : ByteArray} (h : x.data.toList = y.data.toList) : (x.toList == y.toList) = true := by
  rw [ByteArray.toList_eq, ByteArray.toList_eq, h]; simp

theorem sl_both (b : ByteArray) (lo hi : Nat) (i j : Int) (hi1 : i = lo) (hj : j = hi) (h1 : lo ≤ hi) (h2 : hi ≤ b.size) : ∀ w, (Instr.slice 9 (.string b) (some (.int .i64 i)) (some (.int .i64 j)) none).run Tryz.prog w = .ok (.string (b.extract lo hi)) w := fun w => by
  subst hi1 hj
  have h := run_slice_string (P := Tryz.prog) (w := w) 9 b .i64 .i64 (lo : Int) (hi : Int) (by kernel_rfl) (by omega) (by omega) (by omega)
  rw [show (lo : Int).toNat = lo by omega, show (hi : Int).toNat = hi by omega] at h
  exact h
theorem sl_to (b : ByteArray) (hi : Nat) (j : Int) (hj : j = hi) (h2 : hi ≤ b.size) : ∀ w, (Instr.slice 9 (.string b) none (some (.int .i64 j)) none).run Tryz.prog w = .ok (.string (b.extract 0 hi)) w := fun w => by
  subst hj
  have h := run_slice_string_h (P := Tryz.prog) w 9 b (by kernel_rfl) .i64 (hi : Int) (by omega) (by omega)
  rw [show (hi : Int).toNat = hi by omega] at h
  exact h
theorem sl_from (b : ByteArray) (lo : Nat) (i : Int) (hi1 : i = lo) (h2 : lo ≤ b.size) : ∀ w, (Instr.slice 9 (.string b) (some (.int .i64 i)) none none).run Tryz.prog w = .ok (.string (b.extract lo b.size)) w := fun w => by
  subst hi1
  have h := run_slice_string_l (P := Tryz.prog) w 9 b (by kernel_rfl) .i64 (lo : Int) (by omega) (by omega)
  rw [show (lo : Int).toNat = lo by omega] at h
  exact h

end Go.Proofs.YtjjocnkockeacaaGreatDoor

namespace Go.Proofs.YtjjocnkockeacaaGreatDoor
open Go.RowKit Go.Lib
set_option maxRecDepth 100000

def LastV (b : ByteArray) : Value := .tuple #[.string (bytesT (lastOf b.data.toList).1), .int .i64 ((lastOf b.data.toList).2.1 : Int), .int .i64 (lastOf b.data.toList).2.2]
end Go.Proofs.YtjjocnkockeacaaGreatDoor

namespace Go.Proofs.YtjjocnkockeacaaGreatDoor
open Go.RowKit Go.Lib
set_option maxRecDepth 100000

abbrev tStr : TypeId := 9
def txtCells (L : List (List UInt8)) : List Value := L.map fun l => .string (bytesT l)
theorem txtCells_snoc (L : List (List UInt8)) (l : List UInt8) : txtCells (L ++ [l]) = txtCells L ++ [.string (bytesT l)] := by simp [txtCells]
theorem txtCells_len (L : List (List UInt8)) : (txtCells L).length = L.length := by simp [txtCells]
def AllPost (b : ByteArray) (w : World) (r : Ending) (w' : World) : Prop :=
  ∃ v, r = .returned (.tuple #[v, .int .i64 ((allOf b.data.toList).2 : Int)]) ∧ w'.ownsRow w.heap.size tStr 1 v (allOf b.data.toList).1.length (txtCells (allOf b.data.toList).1) ∧ Touch [] w w'
theorem ownsS_same {w w' : World} {base n : Nat} {v : Value} {xs : List Value} (h : w.ownsRow base tStr 1 v n xs) (t : Touch [] w w') : w'.ownsRow base tStr 1 v n xs := by
  obtain ⟨h1, h2 | ⟨g, cap, cur, hv, h3, h4, h5⟩⟩ := h
  · exact ⟨h1, .inl h2⟩
  · exact ⟨h1, .inr ⟨g, cap, cur, hv, h3, touch_blk0 t h4, h5⟩⟩
theorem ownsS_blk {w : World} {base n : Nat} {v : Value} {xs : List Value} (h : w.ownsRow base tStr 1 v n xs) : ∀ g, v.ownBlock = some g → base ≤ g := by
  intro g hg
  obtain ⟨_, ⟨rfl, _⟩ | ⟨g', cap, cur, rfl, h3, _, _⟩⟩ := h
  · simp [Value.ownBlock] at hg
  · simp [Value.ownBlock] at hg
    subst hg
    exact h3
structure Fr (b : ByteArray) (w W : World) (v : Value) (a : Nat) (L : List (List UInt8)) : Prop where
  o : W.ownsRow w.heap.size tStr 1 v L.length (txtCells L)
  t : Touch [] w W
  le : a ≤ b.size
  n : 12 * L.length ≤ a
  e : allOf b.data.toList = (L ++ (allOf (b.data.toList.drop a)).1, a + (allOf (b.data.toList.drop a)).2)

end Go.Proofs.YtjjocnkockeacaaGreatDoor
