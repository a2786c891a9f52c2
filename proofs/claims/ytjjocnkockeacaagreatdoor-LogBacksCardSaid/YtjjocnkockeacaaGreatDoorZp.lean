/- A chunk as plain lists of bytes: its start, its records, its end; what is read of it. chunk's Start, Record, Finish, Room. -/
import Derived.Test.YtjjocnkockeacaaGreatDoorZm
import Derived.Test.YtjjocnkockeacaaGreatDoorZo
import Derived.Lib.MinMax
namespace Go.Proofs.YtjjocnkockeacaaGreatDoor
open Go.RowKit Go.Lib
set_option maxRecDepth 100000

def stL (n z : Nat) : List UInt8 := [0, 67, 72, 78, 75] ++ (be 8 n ++ be 8 z)
def finL (n k : Nat) : List UInt8 := [2, 68, 79, 78, 69] ++ (be 8 n ++ be 8 k)
theorem stL_len (n z : Nat) : (stL n z).length = 21 := by simp [stL, be_length]
theorem finL_len (n k : Nat) : (finL n k).length = 21 := by simp [finL, be_length]
theorem frSt_len (n z : Nat) : (frL (stL n z)).length = 33 := by rw [frL_len, stL_len]
theorem frFin_len (n k : Nat) : (frL (finL n k)).length = 33 := by rw [frL_len, finL_len]
theorem val_be_8 {v : Nat} (h : v < 18446744073709551616) : val (be 8 v) = v := by rw [val_be]; exact Nat.mod_eq_of_lt h

/-- What is framed is told by the frame. -/
theorem frL_inj {a b : List UInt8} (ha : a.length ≤ 4000) (hb : b.length ≤ 4000) (h : frL a = frL b) : a = b := by
  have e1 := first_frL a [] ha
  have e2 := first_frL b [] hb
  rw [h, e2] at e1
  exact (congrArg Prod.fst e1).symm
theorem take_frL {b l : List UInt8} (h : b.take (l.length + 12) = frL l) : b = frL l ++ b.drop (l.length + 12) := by
  conv => lhs; rw [← List.take_append_drop (l.length + 12) b, h]
theorem first_take {b l : List UInt8} (hl : l.length ≤ 4000) (h : b.take (l.length + 12) = frL l) : firstOf b = (l, l.length + 12, 0) := by
  rw [take_frL h]; exact first_frL l _ hl

/-! ### The start -/
/-- Bytes that begin with what Start lays. -/
def Begins (b : List UInt8) (n z : Nat) : Prop := n ≤ 999999 ∧ 100 ≤ z ∧ z ≤ 1000000 ∧ b.take 33 = frL (stL n z)
theorem begins_first {b : List UInt8} {n z : Nat} (h : Begins b n z) : firstOf b = (stL n z, 33, 0) := by
  have := first_take (b := b) (l := stL n z) (by rw [stL_len]; decide) (by rw [stL_len]; exact h.2.2.2)
  rwa [stL_len] at this
theorem begins_len {b : List UInt8} {n z : Nat} (h : Begins b n z) : 33 ≤ b.length := by
  have e := congrArg List.length h.2.2.2
  rw [frSt_len, List.length_take] at e
  omega
theorem stL_get (n z : Nat) : (stL n z).drop 5 = be 8 n ++ be 8 z := rfl
theorem stL_number {n : Nat} (z : Nat) (h : n ≤ 999999) : val (((stL n z).drop 5).take 8) = n := by
  rw [stL_get, List.take_left' (be_length 8 n), val_be_8 (by omega)]
theorem stL_size (n : Nat) {z : Nat} (h : z ≤ 1000000) : val ((stL n z).drop 13) = z := by
  have e : (stL n z).drop 13 = be 8 z := by
    have : (stL n z).drop 13 = ((stL n z).drop 5).drop 8 := by rw [List.drop_drop]
    rw [this, stL_get, List.drop_left' (be_length 8 n)]
  rw [e, val_be_8 (by omega)]
theorem begins_inj {b : List UInt8} {n z n' z' : Nat} (h : Begins b n z) (h' : Begins b n' z') : n = n' ∧ z = z' := by
  have e : stL n z = stL n' z' := by
    have e1 := begins_first h
    rw [begins_first h'] at e1
    exact (congrArg Prod.fst e1).symm
  constructor
  · rw [← stL_number z h.1, e, stL_number z' h'.1]
  · rw [← stL_size n h.2.2.1, e, stL_size n' h'.2.2.1]
/-- The frame that was found is what Start lays of the numbers that stand in it. -/
theorem begins_of {b : List UInt8} {n z u : Nat} (h1 : n ≤ 999999) (h2 : 100 ≤ z) (h3 : z ≤ 1000000) (hu : u ≤ b.length) (h : b.take u = frL (stL n z)) : Begins b n z := by
  have e := congrArg List.length h
  rw [frSt_len, List.length_take, Nat.min_eq_left hu] at e
  subst e
  exact ⟨h1, h2, h3, h⟩

/-! ### The records -/
def recF : Nat → List UInt8 → List (List UInt8) × Nat
  | 0, _ => ([], 0)
  | k + 1, b => if (firstOf b).2.2 ≠ 0 ∨ (firstOf b).1.head? ≠ some 1 then ([], 0) else ((firstOf b).1.tail :: (recF k (b.drop (firstOf b).2.1)).1, (firstOf b).2.1 + (recF k (b.drop (firstOf b).2.1)).2)
/-- The bodies of the records that b begins with, and how many bytes their frames have. -/
def recOf (b : List UInt8) : List (List UInt8) × Nat := recF b.length b
theorem recF_more : ∀ (k m : Nat) (b : List UInt8), b.length ≤ k → b.length ≤ m → recF k b = recF m b
  | 0, 0, _, _, _ => rfl
  | 0, m + 1, b, h, _ => by
    have hb : b = [] := List.eq_nil_of_length_eq_zero (by omega)
    subst hb
    rfl
  | k + 1, 0, b, _, h => by
    have hb : b = [] := List.eq_nil_of_length_eq_zero (by omega)
    subst hb
    rfl
  | k + 1, m + 1, b, h1, h2 => by
    unfold recF
    by_cases e : (firstOf b).2.2 ≠ 0 ∨ (firstOf b).1.head? ≠ some 1
    · rw [if_pos e, if_pos e]
    · have e0 : (firstOf b).2.2 = 0 := by
        by_cases e1 : (firstOf b).2.2 = 0
        · exact e1
        · exact absurd (.inl e1) e
      obtain ⟨l, _, _, e3, _, e5⟩ := first_ok e0
      have hd : (b.drop (firstOf b).2.1).length + 12 ≤ b.length := by rw [e3, List.length_drop]; simp only []; omega
      rw [if_neg e, if_neg e, recF_more k m _ (by omega) (by omega)]
theorem rec_stop {b : List UInt8} (h : (firstOf b).2.2 ≠ 0 ∨ (firstOf b).1.head? ≠ some 1) : recOf b = ([], 0) := by
  unfold recOf
  cases hb : b.length with
  | zero => rfl
  | succ n => unfold recF; rw [if_pos h]
theorem rec_step {b l : List UInt8} {u : Nat} (h : firstOf b = (1 :: l, u, 0)) : recOf b = (l :: (recOf (b.drop u)).1, u + (recOf (b.drop u)).2) := by
  have e0 : (firstOf b).2.2 = 0 := by rw [h]
  obtain ⟨m, _, _, e3, _, e5⟩ := first_ok e0
  rw [h] at e3
  have hu : u = m.length + 12 := congrArg (fun x => x.2.1) e3
  unfold recOf
  cases hb : b.length with
  | zero => omega
  | succ n =>
    have hd : (b.drop u).length ≤ n := by rw [List.length_drop]; omega
    rw [recF, h, if_neg (by simp), recF_more n _ _ hd (Nat.le_refl _)]
    rfl
theorem rec_small : ∀ (k : Nat) (b : List UInt8), ∀ l ∈ (recF k b).1, l.length ≤ 4000
  | 0, _, l, h => by simp [recF] at h
  | k + 1, b, l, h => by
    unfold recF at h
    split at h
    · simp at h
    · rename_i e
      have e0 : (firstOf b).2.2 = 0 := by
        by_cases e1 : (firstOf b).2.2 = 0
        · exact e1
        · exact absurd (.inl e1) e
      obtain ⟨m, _, e2, e3, _, _⟩ := first_ok e0
      rcases List.mem_cons.1 h with rfl | h
      · rw [e3, List.length_tail]; simp only []; omega
      · exact rec_small k _ l h
theorem rec_len : ∀ (k : Nat) (b : List UInt8), 12 * (recF k b).1.length ≤ (recF k b).2 ∧ (recF k b).2 ≤ b.length
  | 0, b => by simp [recF]
  | k + 1, b => by
    unfold recF
    split
    · simp
    · rename_i e
      have e0 : (firstOf b).2.2 = 0 := by
        by_cases e1 : (firstOf b).2.2 = 0
        · exact e1
        · exact absurd (.inl e1) e
      obtain ⟨m, _, _, e3, _, e5⟩ := first_ok e0
      have h := rec_len k (b.drop (firstOf b).2.1)
      rw [List.length_drop] at h
      rw [e3] at h ⊢
      simp only [List.length_cons] at h ⊢
      omega
theorem recOf_small (b : List UInt8) : ∀ l ∈ (recOf b).1, l.length ≤ 4000 := rec_small _ b
theorem recOf_len (b : List UInt8) : 12 * (recOf b).1.length ≤ (recOf b).2 ∧ (recOf b).2 ≤ b.length := rec_len _ b

/-! ### The end -/
theorem ends_first {b : List UInt8} {n k : Nat} (h : b.take 33 = frL (finL n k)) : firstOf b = (finL n k, 33, 0) := by
  have := first_take (b := b) (l := finL n k) (by rw [finL_len]; decide) (by rw [finL_len]; exact h)
  rwa [finL_len] at this
theorem ends_rec {b : List UInt8} {n k : Nat} (h : b.take 33 = frL (finL n k)) : recOf b = ([], 0) := rec_stop (.inr (by rw [ends_first h]; simp [finL]))
theorem ends_len {b : List UInt8} {n k : Nat} (h : b.take 33 = frL (finL n k)) : 33 ≤ b.length := by
  have e := congrArg List.length h
  rw [frFin_len, List.length_take] at e
  omega
/-- Behind the start: is there an end, and how many bytes count? -/
def doneAt (n : Nat) (r : List UInt8) : Bool := decide ((r.drop (recOf r).2).take 33 = frL (finL n (recOf r).1.length))
def goodAt (n : Nat) (r : List UInt8) : Nat := 33 + (recOf r).2 + (if doneAt n r then 33 else 0)
theorem good_len {n : Nat} {b : List UInt8} (h : 33 ≤ b.length) : goodAt n (b.drop 33) ≤ b.length := by
  have h1 := recOf_len (b.drop 33)
  rw [List.length_drop] at h1
  unfold goodAt
  by_cases e : doneAt n (b.drop 33) = true
  · rw [if_pos e]
    unfold doneAt at e
    have := ends_len (of_decide_eq_true e)
    rw [List.length_drop, List.length_drop] at this
    omega
  · rw [if_neg e]
    omega

/-! ### Records, one behind the other -/
def recs (L : List (List UInt8)) : List UInt8 := L.flatMap fun l => frL (1 :: l)
theorem recs_app (a b : List (List UInt8)) : recs (a ++ b) = recs a ++ recs b := by simp [recs]
theorem rec_recs (L : List (List UInt8)) (r : List UInt8) (h : ∀ l ∈ L, l.length ≤ 3999) : recOf (recs L ++ r) = (L ++ (recOf r).1, (recs L).length + (recOf r).2) := by
  induction L with
  | nil => simp [recs]
  | cons l L ih =>
    have e : recs (l :: L) ++ r = frL (1 :: l) ++ (recs L ++ r) := by simp [recs]
    have hs : (1 :: l : List UInt8).length ≤ 4000 := by have := h l (by simp); simp; omega
    have hf := first_frL (1 :: l) (recs L ++ r) hs
    have hl := frL_len (1 :: l)
    have hlen : (recs (l :: L)).length = (frL (1 :: l)).length + (recs L).length := by simp [recs]
    rw [e, rec_step hf, List.drop_left' hl, ih (fun a ha => h a (by simp [ha])), hlen, hl]
    simp only [List.cons_append, Prod.mk.injEq, true_and]
    omega
/-- Records of which some first bytes are kept: those that are there whole, and no end. -/
theorem rec_cut (L : List (List UInt8)) (h : ∀ l ∈ L, l.length ≤ 3999) (n k : Nat) (hn : n ≤ L.length) (h1 : (recs (L.take n)).length ≤ k) (h2 : n < L.length → k < (recs (L.take (n + 1))).length) :
    recOf ((recs L).take k) = (L.take n, (recs (L.take n)).length) ∧ ∀ q, doneAt q ((recs L).take k) = false := by
  have e : (recs L).take k = recs (L.take n) ++ (recs (L.drop n)).take (k - (recs (L.take n)).length) := by
    conv => lhs; rw [← List.take_append_drop n L, recs_app]
    rw [List.take_append, List.take_of_length_le h1]
  have hs : (firstOf ((recs (L.drop n)).take (k - (recs (L.take n)).length))).2.2 ≠ 0 := by
    by_cases hlt : n < L.length
    · have h3 := h2 hlt
      rw [List.take_succ_eq_append_getElem hlt, recs_app, List.length_append] at h3
      have h4 : (recs [L[n]]).length = (1 :: L[n] : List UInt8).length + 12 := by
        show (frL (1 :: L[n]) ++ []).length = _
        rw [List.append_nil, frL_len]
      rw [List.drop_eq_getElem_cons hlt]
      show (firstOf ((frL (1 :: L[n]) ++ recs (L.drop (n + 1))).take _)).2.2 ≠ 0
      have h5 := h _ (List.getElem_mem hlt)
      exact first_cut _ _ _ (by simp; omega) (by omega)
    · rw [List.drop_eq_nil_of_le (by omega)]
      simp [recs, firstOf]
  have hr : recOf ((recs L).take k) = (L.take n, (recs (L.take n)).length) := by
    rw [e, rec_recs _ _ (fun l hl => h l (List.mem_of_mem_take hl)), rec_stop (.inl hs)]
    simp
  refine ⟨hr, fun q => ?_⟩
  unfold doneAt
  rw [hr, decide_eq_false_iff_not]
  intro he
  simp only [] at he
  rw [e, List.drop_left' rfl] at he
  rw [ends_first he] at hs
  exact hs rfl
theorem be8_inj {a b : Nat} (ha : a < 18446744073709551616) (hb : b < 18446744073709551616) (h : be 8 a = be 8 b) : a = b := by
  rw [← val_be_8 ha, h, val_be_8 hb]
theorem finL_inj {n k n' k' : Nat} (h1 : n < 18446744073709551616) (h2 : k < 18446744073709551616) (h3 : n' < 18446744073709551616) (h4 : k' < 18446744073709551616) (h : finL n k = finL n' k') : n = n' ∧ k = k' := by
  unfold finL at h
  have e := List.append_cancel_left h
  have e2 := List.append_inj e (by rw [be_length, be_length])
  exact ⟨be8_inj h1 h3 e2.1, be8_inj h2 h4 e2.2⟩
/-- All records, and what is laid as an end behind them. -/
theorem rec_end (L : List (List UInt8)) (h : ∀ l ∈ L, l.length ≤ 3999) (q n k : Nat) (r : List UInt8) : recOf (recs L ++ (frL (finL n k) ++ r)) = (L, (recs L).length) ∧ doneAt q (recs L ++ (frL (finL n k) ++ r)) = decide (finL n k = finL q L.length) := by
  have ht : (frL (finL n k) ++ r).take 33 = frL (finL n k) := List.take_left' (frFin_len n k)
  have hr : recOf (recs L ++ (frL (finL n k) ++ r)) = (L, (recs L).length) := by rw [rec_recs _ _ h, ends_rec ht]; simp
  refine ⟨hr, ?_⟩
  unfold doneAt
  rw [hr]
  simp only []
  rw [List.drop_left' rfl, ht]
  by_cases e : finL n k = finL q L.length
  · rw [e]; simp
  · rw [decide_eq_false e, decide_eq_false_iff_not]
    exact fun e2 => e (frL_inj (by rw [finL_len]; decide) (by rw [finL_len]; decide) e2)
end Go.Proofs.YtjjocnkockeacaaGreatDoor

namespace Go.Proofs.YtjjocnkockeacaaGreatDoor
open Go.RowKit Go.Lib
set_option maxRecDepth 100000

theorem word_nat {n : Nat} (h : n < 18446744073709551616) : wordOf (n : Int) = n := by unfold wordOf; omega
/-- What edge tells. -/
def edgeL (m : List UInt8) (n k : Nat) : List UInt8 := m ++ (be 8 n ++ be 8 k)
theorem edgeL_len (m : List UInt8) (n k : Nat) : (edgeL m n k).length = m.length + 16 := by simp [edgeL, be_length]
theorem edge_any (m : ByteArray) (n k : Nat) (w : World) (hm : m.size ≤ 100) (hn : n < 9223372036854775808) (hk : k < 9223372036854775808) :
    Calls Tryz.prog 61 #[.string m, .int .i64 n, .int .i64 k] w fun e w' => e = .returned (.tuple #[.string (bytesT (frL (edgeL m.data.toList n k))), .int .i64 0]) ∧ Touch [] w w' := by
  obtain ⟨W1, hW⟩ : ∃ W1, W1 = w.alloc (.cells #[.pointer none, .int .i64 0, .int .i64 0] tOut) := ⟨_, rfl⟩
  have R := hid (out_new w)
  rw [← hW] at R
  have T1 : Hid (Touch [] w W1) := by rw [hW]; exact hid ((Touch.refl [] w).alloc _)
  have C := hid (i64_st w.heap.size [w.heap.size] ([], 0) n W1 R.out (by decide))
  rw [word_nat (by omega), show pPut ([], 0) (be 8 n) = (be 8 n, 0) by simp [pPut]] at C
  have C2 := hid (fun F' w' (h : OutIs w' w.heap.size F' (be 8 n, 0)) => i64_st w.heap.size F' (be 8 n, 0) k w' h (by rw [be_length]; decide))
  rw [word_nat (by omega), show pPut (be 8 n, 0) (be 8 k) = (be 8 n ++ be 8 k, 0) by simp [pPut]] at C2
  have D := hid (fun F' w' (h : OutIs w' w.heap.size F' (be 8 n ++ be 8 k, 0)) => done_st w.heap.size F' (be 8 n ++ be 8 k, 0) w' h)
  rw [show pDone (be 8 n ++ be 8 k, 0) = .tuple #[.string (bytesT (be 8 n ++ be 8 k)), .int .i64 0] from by unfold pDone bytesT; simp] at D
  have hsz : (bytesT (be 8 n ++ be 8 k)).size = 16 := by rw [bytesT_size, List.length_append, be_length, be_length]
  have P := hid (fun w => frPut_any (m ++ bytesT (be 8 n ++ be 8 k)) w (by rw [ByteArray.size_append]; omega))
  have hB : frB (m ++ bytesT (be 8 n ++ be 8 k)) = bytesT (frL (edgeL m.data.toList n k)) := by
    unfold frB
    rw [if_neg (by rw [ByteArray.size_append]; omega)]
    unfold edgeL bytesT
    congr 3
    first | done | simp
  have hE : frE (m ++ bytesT (be 8 n ++ be 8 k)) = 0 := by
    unfold frE
    rw [if_neg (by rw [ByteArray.size_append]; omega)]
  rw [hB, hE] at P
  have hbd : ¬ 9223372036854775807 < m.size + (bytesT (be 8 n ++ be 8 k)).size := by omega
  generalize bytesT (frL (edgeL m.data.toList n k)) = Z at *
  generalize bytesT (be 8 n ++ be 8 k) = X at *
  generalize be 8 n ++ be 8 k = r2 at *
  generalize be 8 n = r1 at *
  have n0 : (0 : Int) ≤ n := by omega
  have k0 : (0 : Int) ≤ k := by omega
  clear R hB hE hm hn hk hsz
  simp only [tOut] at hW
  go_enter Tryz.func61, Tryz.ntmps61
  go_upto_region 2 with fail
  rw [← hW]
  clear hW
  go_wp2_with (first
    | (go_at_call 89; with_reducible refine C.out.mono ?_; rintro e w2 ⟨rfl, hp⟩; (have P2 := hid hp); clear hp)
    | (go_at_call 89; (obtain ⟨F', o2, t2, f2⟩ := P2.out); refine (C2.out F' _ o2).mono ?_; rintro e w3 ⟨rfl, hp⟩; (have T2 := hid (T1.out.trans t2 (fun f hf => .inr (by simp at hf; omega)))); (have P3 := hid hp); (have G2 := hid f2); clear o2 t2 f2 hp)
    | (go_at_call 90; (obtain ⟨F2, o3, t3, f3⟩ := P3.out); refine (D.out F2 _ o3).mono ?_; rintro e w4 ⟨rfl, n4, rfl⟩; (have T3 := hid (T2.out.trans t3 (fun f hf => .inr ((G2.out f hf).elim (fun h => by simp at h; omega) (fun h => Nat.le_trans T1.out.size h))))); clear o3 t3 f3)
    | (go_at_call 91; refine (P.out _).mono ?_; rintro e w5 ⟨rfl, t5⟩))
  go_ret2
  exact ⟨rfl, (T3.out.drewN n4).trans t5 (by simp)⟩
theorem edge_st (m : ByteArray) (n k : Nat) (w : World) (hm : m = bytesT [0, 67, 72, 78, 75]) (hn : n < 9223372036854775808) (hk : k < 9223372036854775808) :
    Calls Tryz.prog 61 #[.string m, .int .i64 n, .int .i64 k] w fun e w' => e = .returned (.tuple #[.string (bytesT (frL (stL n k))), .int .i64 0]) ∧ Touch [] w w' := by
  subst hm
  exact edge_any _ n k w (by decide) hn hk
theorem edge_fin (m : ByteArray) (n k : Nat) (w : World) (hm : m = bytesT [2, 68, 79, 78, 69]) (hn : n < 9223372036854775808) (hk : k < 9223372036854775808) :
    Calls Tryz.prog 61 #[.string m, .int .i64 n, .int .i64 k] w fun e w' => e = .returned (.tuple #[.string (bytesT (frL (finL n k))), .int .i64 0]) ∧ Touch [] w w' := by
  subst hm
  exact edge_any _ n k w (by decide) hn hk

/-! ### Start, Record, Finish, Room -/
def StartV (n z : Int) : Value := if n < 0 ∨ 999999 < n ∨ z < 100 ∨ 1000000 < z then .tuple #[.string ⟨#[]⟩, .int .i64 1] else .tuple #[.string (bytesT (frL (stL n.toNat z.toNat))), .int .i64 0]
def FinishV (n k : Int) : Value := if n < 0 ∨ 999999 < n ∨ k < 0 then .tuple #[.string ⟨#[]⟩, .int .i64 1] else .tuple #[.string (bytesT (frL (finL n.toNat k.toNat))), .int .i64 0]
def recB (s : ByteArray) : ByteArray := bytesT (frL (1 :: s.data.toList))
def RecordV (s : ByteArray) : Value := if 3999 < s.size then .tuple #[.string ⟨#[]⟩, .int .i64 2] else .tuple #[.string (recB s), .int .i64 0]
def roomV (z u : Int) : Int := if z < 0 ∨ u < 0 ∨ z - u < 13 then 0 else min (z - u - 13) 3999
theorem numbered_any (n : Int) (w : World) : Calls Tryz.prog 60 #[.int .i64 n] w fun e w' => e = .returned (.bool (decide (0 ≤ n ∧ n ≤ 999999))) ∧ w = w' := by
  by_cases h0 : 0 ≤ n
  · by_cases h1 : n ≤ 999999
    · rw [decide_eq_true ⟨h0, h1⟩]
      go_enter Tryz.func60, Tryz.ntmps60
      go_wp2
      go_ret
      exact ⟨rfl, rfl⟩
    · rw [decide_eq_false (fun h => h1 h.2)]
      go_enter Tryz.func60, Tryz.ntmps60
      go_wp2
      go_ret
      exact ⟨rfl, rfl⟩
  · rw [decide_eq_false (fun h => h0 h.1)]
    go_enter Tryz.func60, Tryz.ntmps60
    go_wp2
    go_ret
    exact ⟨rfl, rfl⟩
theorem start_any (n z : Int) (w : World) (hz : z ≤ 9223372036854775807) : Calls Tryz.prog 31 #[.int .i64 n, .int .i64 z] w fun e w' => e = .returned (StartV n z) ∧ Touch [] w w' := by
  have N := hid (fun w => numbered_any n w)
  unfold StartV
  by_cases hn : 0 ≤ n ∧ n ≤ 999999
  rotate_left
  · rw [decide_eq_false hn] at N
    rw [if_pos (by omega)]
    clear hn
    go_enter Tryz.func31, Tryz.ntmps31
    go_wp2_with (go_at_call 60; refine (N.out _).mono ?_; rintro e w1 ⟨rfl, rfl⟩)
    go_ret2
    exact ⟨rfl, Touch.refl _ _⟩
  rw [decide_eq_true hn] at N
  by_cases h1 : z < 100
  · rw [if_pos (by omega)]
    clear hn
    go_enter Tryz.func31, Tryz.ntmps31
    go_wp2_with (go_at_call 60; refine (N.out _).mono ?_; rintro e w1 ⟨rfl, rfl⟩)
    go_ret2
    exact ⟨rfl, Touch.refl _ _⟩
  by_cases h2 : 1000000 < z
  · rw [if_pos (by omega)]
    clear hn
    go_enter Tryz.func31, Tryz.ntmps31
    go_wp2_with (go_at_call 60; refine (N.out _).mono ?_; rintro e w1 ⟨rfl, rfl⟩)
    go_ret2
    exact ⟨rfl, Touch.refl _ _⟩
  rw [if_neg (by omega)]
  obtain ⟨a, rfl⟩ := Int.eq_ofNat_of_zero_le hn.1
  obtain ⟨b, rfl⟩ := Int.eq_ofNat_of_zero_le (show 0 ≤ z by omega)
  have E := hid (fun w m hm => edge_st m a b w hm (by omega) (by omega))
  rw [show ((a : Int)).toNat = a by omega, show ((b : Int)).toNat = b by omega]
  have q1 : (100 : Int) ≤ b := by omega
  have q2 : (b : Int) ≤ 1000000 := by omega
  generalize bytesT (frL (stL a b)) = Z at *
  clear h1 h2 hn hz
  go_enter Tryz.func31, Tryz.ntmps31
  go_wp2_with (first
    | (go_at_call 60; refine (N.out _).mono ?_; rintro e w1 ⟨rfl, rfl⟩)
    | (go_at_call 61; refine (E.out _ _ rfl).mono ?_; rintro e w2 ⟨rfl, t2⟩))
  go_ret2
  exact ⟨rfl, t2⟩
theorem finish_any (n k : Int) (w : World) (hk : k ≤ 9223372036854775807) : Calls Tryz.prog 95 #[.int .i64 n, .int .i64 k] w fun e w' => e = .returned (FinishV n k) ∧ Touch [] w w' := by
  have N := hid (fun w => numbered_any n w)
  unfold FinishV
  by_cases hn : 0 ≤ n ∧ n ≤ 999999
  rotate_left
  · rw [decide_eq_false hn] at N
    rw [if_pos (by omega)]
    clear hn
    go_enter Tryz.func95, Tryz.ntmps95
    go_wp2_with (go_at_call 60; refine (N.out _).mono ?_; rintro e w1 ⟨rfl, rfl⟩)
    go_ret2
    exact ⟨rfl, Touch.refl _ _⟩
  rw [decide_eq_true hn] at N
  by_cases h1 : k < 0
  · rw [if_pos (by omega)]
    clear hn
    go_enter Tryz.func95, Tryz.ntmps95
    go_wp2_with (go_at_call 60; refine (N.out _).mono ?_; rintro e w1 ⟨rfl, rfl⟩)
    go_ret2
    exact ⟨rfl, Touch.refl _ _⟩
  rw [if_neg (by omega)]
  obtain ⟨a, rfl⟩ := Int.eq_ofNat_of_zero_le hn.1
  obtain ⟨b, rfl⟩ := Int.eq_ofNat_of_zero_le (show 0 ≤ k by omega)
  have E := hid (fun w m hm => edge_fin m a b w hm (by omega) (by omega))
  rw [show ((a : Int)).toNat = a by omega, show ((b : Int)).toNat = b by omega]
  have q1 : (0 : Int) ≤ b := by omega
  generalize bytesT (frL (finL a b)) = Z at *
  clear h1 hn hk
  go_enter Tryz.func95, Tryz.ntmps95
  go_wp2_with (first
    | (go_at_call 60; refine (N.out _).mono ?_; rintro e w1 ⟨rfl, rfl⟩)
    | (go_at_call 61; refine (E.out _ _ rfl).mono ?_; rintro e w2 ⟨rfl, t2⟩))
  go_ret2
  exact ⟨rfl, t2⟩
theorem record_any (s : ByteArray) (w : World) (hs : s.size ≤ 1000000) : Calls Tryz.prog 94 #[.string s] w fun e w' => e = .returned (RecordV s) ∧ Touch [] w w' := by
  unfold RecordV
  by_cases h1 : 3999 < s.size
  · rw [if_pos h1]
    have q1 : (3999 : Int) < s.size := by omega
    clear h1 hs
    go_enter Tryz.func94, Tryz.ntmps94
    go_wp2
    go_ret2
    exact ⟨rfl, Touch.refl _ _⟩
  rw [if_neg h1]
  have q1 : (s.size : Int) ≤ 3999 := by omega
  have P := hid (fun (m : ByteArray) (w : World) (hm : m = bytesT [1]) => show Calls Tryz.prog 91 #[.string (m ++ s)] w fun e w' => e = .returned (.tuple #[.string (recB s), .int .i64 0]) ∧ Touch [] w w' by
    subst hm
    have h1s : (bytesT [1]).size = 1 := rfl
    have h := frPut_any (bytesT [1] ++ s) w (by rw [ByteArray.size_append]; omega)
    have hB : frB (bytesT [1] ++ s) = recB s := by
      unfold frB recB bytesT
      rw [if_neg (by rw [ByteArray.size_append]; show ¬ 4000 < 1 + s.size; omega)]
      simp
    have hE : frE (bytesT [1] ++ s) = 0 := by
      unfold frE
      rw [if_neg (by rw [ByteArray.size_append]; omega)]
    rwa [hB, hE] at h)
  generalize recB s = Z at *
  have c1 : ¬ 9223372036854775807 < 1 + s.size := by omega
  clear h1 hs
  go_enter Tryz.func94, Tryz.ntmps94
  go_wp2_with (go_at_call 91; refine (P.out _ _ rfl).mono ?_; rintro e w2 ⟨rfl, t2⟩)
  go_ret2
  exact ⟨rfl, t2⟩
theorem room_any (z u : Int) (w : World) (hz : -9223372036854775808 ≤ z ∧ z ≤ 9223372036854775807) (hu : -9223372036854775808 ≤ u ∧ u ≤ 9223372036854775807) : Calls Tryz.prog 36 #[.int .i64 z, .int .i64 u] w fun e w' => e = .returned (.int .i64 (roomV z u)) ∧ w = w' := by
  unfold roomV
  by_cases h1 : z < 0
  · rw [if_pos (by omega)]
    clear hz hu
    go_enter Tryz.func36, Tryz.ntmps36
    go_wp2
    go_ret
    exact ⟨rfl, rfl⟩
  by_cases h2 : u < 0
  · rw [if_pos (by omega)]
    clear hz hu
    go_enter Tryz.func36, Tryz.ntmps36
    go_wp2
    go_ret
    exact ⟨rfl, rfl⟩
  have q1 : 0 ≤ z := by omega
  have q2 : 0 ≤ u := by omega
  by_cases h3 : z - u ≤ 13
  · have e0 : (if z < 0 ∨ u < 0 ∨ z - u < 13 then (0 : Int) else min (z - u - 13) 3999) = 0 := by split <;> omega
    rw [e0]
    have q3 := h3
    have w1 : wrap64 (z - u) = z - u := by unfold wrap64; omega
    clear hz hu h1 h2 h3 e0
    go_enter Tryz.func36, Tryz.ntmps36
    go_wp2
    go_ret
    exact ⟨rfl, rfl⟩
  rw [if_neg (by omega)]
  have q3 : 13 < z - u := by omega
  have w1 : wrap64 (z - u) = z - u := by unfold wrap64; omega
  have w2 : wrap64 (z - u - 13) = z - u - 13 := by unfold wrap64; omega
  clear hz hu h1 h2 h3
  go_enter Tryz.func36, Tryz.ntmps36
  go_wp2
  go_ret
  exact ⟨rfl, rfl⟩
end Go.Proofs.YtjjocnkockeacaaGreatDoor
