/- slices.Clone at the three types that a disk has. A log's small functions that read. A log's lists: more, cut, turned. with of no pool. -/
import Derived.Test.YtjjocnkockeacaaGreatDoorZa
import Derived.Test.YtjjocnkockeacaaGreatDoorZb
import Derived.Deep.QuietTactic
import Derived.Deep.Slices
import Derived.Deep.AppendLies
import Derived.Maps.AppendAt
import Derived.Laws.AppendOwnNone
import Derived.Deep.RegionLaw
import Derived.Deep.DeepCutAuto
namespace Go.Proofs.YtjjocnkockeacaaGreatDoor
open Go.RowKit Go.Lib
set_option maxRecDepth 100000

theorem clone_pf_some (b c n : Nat) (xs : List Value) (w : World) (hl : xs.length = n * 1) (hn : n ≤ 17592186044416) (hc : ∀ j u, xs[j]? = some u → w.cell? ((⟨b, 0, none⟩ : Addr).add j) = some u) (h1 : ∀ u ∈ xs, u.oneCell' = true) :
    Calls Tryz.prog 108 #[.slice (some ⟨b, 0, none⟩) n c] w fun e w' => ∃ v', e = .returned v' ∧ w'.ownsRow w.heap.size tPF 1 v' n xs ∧ Touch [] w w' := by
  have q22 : ∀ (w : World) (a : Option Addr) (n c n' c' : Nat), (binOp .eql 62 (.slice a n c) (.slice none n' c')).run Tryz.prog w = .ok (.bool a.isNone) w := fun w a n c n' c' => Lib.run_eql_slice_nil w _ _ a n c n' c' rfl
  have A := hid hc
  clear hc
  go_enter Tryz.func108, Tryz.ntmps108
  go_wp2_with (at_builtin; refine wpList_append_own _ rfl _ _ 62 rfl w.heap.size tPF _ (.pointer none) 1 8 rfl rfl rfl rfl rfl rfl (by omega) _ _ _ rfl (World.ownsRow_made w #[] 0 (Nat.le_refl _) (Nat.zero_le _) (by simp)) ⟨b, 0, none⟩ n c xs rfl ?qc1 ?qc2 ?qc3 ?qc4 ?qc5 ?qc6 ?_)
  case qc1 => exact hl
  case qc2 =>
    intro j u hj
    exact Lib.cell?_alloc_some _ (A.out j u hj)
  case qc3 => exact h1
  case qc4 => rw [Nat.zero_add]; unfold maxLen; omega
  case qc5 => rw [Nat.zero_add]; omega
  case qc6 => simp
  intro v' w1 hown hgrow hnil
  go_wp2
  go_ret
  refine ⟨v', rfl, by simpa using hown, ?_⟩
  exact ((Touch.refl [] w).alloc _).grown hgrow (by intro k hk; simp [Value.ownBlock] at hk; exact .inr (by omega))
theorem clone_pf_nil (w : World) :
    Calls Tryz.prog 108 #[.slice none 0 0] w fun e w' => e = .returned (.slice none 0 0) ∧ w' = w := by
  have q22 : ∀ (w : World) (a : Option Addr) (n c n' c' : Nat), (binOp .eql 62 (.slice a n c) (.slice none n' c')).run Tryz.prog w = .ok (.bool a.isNone) w := fun w a n c n' c' => Lib.run_eql_slice_nil w _ _ a n c n' c' rfl
  go_enter Tryz.func108, Tryz.ntmps108
  go_wp2
  go_ret
  exact ⟨rfl, rfl⟩

theorem clone_pf {base n : Nat} {v : Value} {xs : List Value} {w : World} (h : w.ownsRow base tPF 1 v n xs) (hn : n ≤ 17592186044416) (h1 : ∀ u ∈ xs, u.oneCell' = true) :
    Calls Tryz.prog 108 #[v] w fun e w' => ∃ v', e = .returned v' ∧ w'.ownsRow w.heap.size tPF 1 v' n xs ∧ Touch [] w w' := by
  rcases h.2 with ⟨rfl, rfl⟩ | ⟨g, cap, cur, rfl, hb, hh, r⟩
  · refine (clone_pf_nil w).mono ?_
    rintro e w' ⟨rfl, rfl⟩
    have : xs = [] := List.eq_nil_of_length_eq_zero (by have := h.1; omega)
    subst this
    exact ⟨_, rfl, World.ownsRow_nil _ _ _ _, Touch.refl _ _⟩
  · exact clone_pf_some g cap n xs w h.1 hn (h.cells rfl) h1

theorem clone_int_some (b c n : Nat) (xs : List Value) (w : World) (hl : xs.length = n * 1) (hn : n ≤ 17592186044416) (hc : ∀ j u, xs[j]? = some u → w.cell? ((⟨b, 0, none⟩ : Addr).add j) = some u) (h1 : ∀ u ∈ xs, u.oneCell' = true) :
    Calls Tryz.prog 55 #[.slice (some ⟨b, 0, none⟩) n c] w fun e w' => ∃ v', e = .returned v' ∧ w'.ownsRow w.heap.size tInt 1 v' n xs ∧ Touch [] w w' := by
  have q22 : ∀ (w : World) (a : Option Addr) (n c n' c' : Nat), (binOp .eql 45 (.slice a n c) (.slice none n' c')).run Tryz.prog w = .ok (.bool a.isNone) w := fun w a n c n' c' => Lib.run_eql_slice_nil w _ _ a n c n' c' rfl
  have A := hid hc
  clear hc
  go_enter Tryz.func55, Tryz.ntmps55
  go_wp2_with (at_builtin; refine wpList_append_own _ rfl _ _ 45 rfl w.heap.size tInt _ (.int .i64 0) 1 8 rfl rfl rfl rfl rfl rfl (by omega) _ _ _ rfl (World.ownsRow_made w #[] 0 (Nat.le_refl _) (Nat.zero_le _) (by simp)) ⟨b, 0, none⟩ n c xs rfl ?qc1 ?qc2 ?qc3 ?qc4 ?qc5 ?qc6 ?_)
  case qc1 => exact hl
  case qc2 =>
    intro j u hj
    exact Lib.cell?_alloc_some _ (A.out j u hj)
  case qc3 => exact h1
  case qc4 => rw [Nat.zero_add]; unfold maxLen; omega
  case qc5 => rw [Nat.zero_add]; omega
  case qc6 => simp
  intro v' w1 hown hgrow hnil
  go_wp2
  go_ret
  refine ⟨v', rfl, by simpa using hown, ?_⟩
  exact ((Touch.refl [] w).alloc _).grown hgrow (by intro k hk; simp [Value.ownBlock] at hk; exact .inr (by omega))
theorem clone_int_nil (w : World) :
    Calls Tryz.prog 55 #[.slice none 0 0] w fun e w' => e = .returned (.slice none 0 0) ∧ w' = w := by
  have q22 : ∀ (w : World) (a : Option Addr) (n c n' c' : Nat), (binOp .eql 45 (.slice a n c) (.slice none n' c')).run Tryz.prog w = .ok (.bool a.isNone) w := fun w a n c n' c' => Lib.run_eql_slice_nil w _ _ a n c n' c' rfl
  go_enter Tryz.func55, Tryz.ntmps55
  go_wp2
  go_ret
  exact ⟨rfl, rfl⟩

theorem clone_int {base n : Nat} {v : Value} {xs : List Value} {w : World} (h : w.ownsRow base tInt 1 v n xs) (hn : n ≤ 17592186044416) (h1 : ∀ u ∈ xs, u.oneCell' = true) :
    Calls Tryz.prog 55 #[v] w fun e w' => ∃ v', e = .returned v' ∧ w'.ownsRow w.heap.size tInt 1 v' n xs ∧ Touch [] w w' := by
  rcases h.2 with ⟨rfl, rfl⟩ | ⟨g, cap, cur, rfl, hb, hh, r⟩
  · refine (clone_int_nil w).mono ?_
    rintro e w' ⟨rfl, rfl⟩
    have : xs = [] := List.eq_nil_of_length_eq_zero (by have := h.1; omega)
    subst this
    exact ⟨_, rfl, World.ownsRow_nil _ _ _ _, Touch.refl _ _⟩
  · exact clone_int_some g cap n xs w h.1 hn (h.cells rfl) h1

theorem clone_u8_some (b c n : Nat) (xs : List Value) (w : World) (hl : xs.length = n * 1) (hn : n ≤ 70368744177664) (hc : ∀ j u, xs[j]? = some u → w.cell? ((⟨b, 0, none⟩ : Addr).add j) = some u) (h1 : ∀ u ∈ xs, u.oneCell' = true) :
    Calls Tryz.prog 98 #[.slice (some ⟨b, 0, none⟩) n c] w fun e w' => ∃ v', e = .returned v' ∧ w'.ownsRow w.heap.size tU8 1 v' n xs ∧ Touch [] w w' := by
  have q22 : ∀ (w : World) (a : Option Addr) (n c n' c' : Nat), (binOp .eql 117 (.slice a n c) (.slice none n' c')).run Tryz.prog w = .ok (.bool a.isNone) w := fun w a n c n' c' => Lib.run_eql_slice_nil w _ _ a n c n' c' rfl
  have A := hid hc
  clear hc
  go_enter Tryz.func98, Tryz.ntmps98
  go_wp2_with (at_builtin; refine wpList_append_own _ rfl _ _ 117 rfl w.heap.size tU8 _ (.int .u8 0) 1 1 rfl rfl rfl rfl rfl rfl (by omega) _ _ _ rfl (World.ownsRow_made w #[] 0 (Nat.le_refl _) (Nat.zero_le _) (by simp)) ⟨b, 0, none⟩ n c xs rfl ?qc1 ?qc2 ?qc3 ?qc4 ?qc5 ?qc6 ?_)
  case qc1 => exact hl
  case qc2 =>
    intro j u hj
    exact Lib.cell?_alloc_some _ (A.out j u hj)
  case qc3 => exact h1
  case qc4 => rw [Nat.zero_add]; unfold maxLen; omega
  case qc5 => rw [Nat.zero_add]; omega
  case qc6 => simp
  intro v' w1 hown hgrow hnil
  go_wp2
  go_ret
  refine ⟨v', rfl, by simpa using hown, ?_⟩
  exact ((Touch.refl [] w).alloc _).grown hgrow (by intro k hk; simp [Value.ownBlock] at hk; exact .inr (by omega))
theorem clone_u8_nil (w : World) :
    Calls Tryz.prog 98 #[.slice none 0 0] w fun e w' => e = .returned (.slice none 0 0) ∧ w' = w := by
  have q22 : ∀ (w : World) (a : Option Addr) (n c n' c' : Nat), (binOp .eql 117 (.slice a n c) (.slice none n' c')).run Tryz.prog w = .ok (.bool a.isNone) w := fun w a n c n' c' => Lib.run_eql_slice_nil w _ _ a n c n' c' rfl
  go_enter Tryz.func98, Tryz.ntmps98
  go_wp2
  go_ret
  exact ⟨rfl, rfl⟩

/-- A pool's bytes, copied. -/
theorem pv_of_own {w : World} {base n : Nat} {v : Value} {bs : List UInt8} (h : w.ownsRow base tU8 1 v n (bs.map fun b => Value.int .u8 b.toNat)) (hn : n = bs.length) : ∃ g, Pv w v bs g ∧ g = v.ownBlock := by
  subst hn
  rcases h.2 with ⟨rfl, h0⟩ | ⟨g, cap, cur, rfl, hb, hh, hc, hm, hs, ht⟩
  · exact ⟨none, .inl ⟨rfl, List.eq_nil_of_length_eq_zero h0, rfl⟩, rfl⟩
  · exact ⟨some g, .inr ⟨g, cap, rfl, ⟨cur, (0, 0), hh, .inl (Nat.zero_le _), hc, hm, by omega, by simpa using ht⟩, rfl⟩, rfl⟩
theorem clone_bytes {w : World} {v : Value} {bs : List UInt8} {g : Option Nat} (h : Pv w v bs g) (hn : bs.length ≤ 70368744177664) :
    Calls Tryz.prog 98 #[v] w fun e w' => ∃ v' g', e = .returned v' ∧ Pv w' v' bs g' ∧ (∀ k ∈ g'.toList, w.heap.size ≤ k) ∧ Touch [] w w' := by
  rcases h with ⟨rfl, rfl, rfl⟩ | ⟨b, c, rfl, hb, rfl⟩
  · refine (clone_u8_nil w).mono ?_
    rintro e w' ⟨rfl, rfl⟩
    exact ⟨_, none, rfl, .inl ⟨rfl, rfl, rfl⟩, by simp, Touch.refl _ _⟩
  · refine (clone_u8_some b c bs.length _ w (by simp) hn hb.cells (by simp [Value.oneCell'])).mono ?_
    rintro e w' ⟨v', rfl, ho, t⟩
    obtain ⟨g, h1, h2⟩ := pv_of_own ho rfl
    exact ⟨v', g, rfl, h1, by subst h2; exact own_base ho, t⟩
end Go.Proofs.YtjjocnkockeacaaGreatDoor

namespace Go.Proofs.YtjjocnkockeacaaGreatDoor
open Go.RowKit Go.Lib
set_option maxRecDepth 100000

theorem lg_cell {w : World} {b d : Nat} {S : Lg} {pv lv : Value} (h : w.heap[b]? = some (.cells (lgCells d S pv lv) tLog (0, 0))) :
    w.cell? ⟨b, 0, none⟩ = some (.pointer (some ⟨d, 0, none⟩)) ∧ w.cell? ⟨b, 1, none⟩ = some (.string nmP) ∧ w.cell? ⟨b, 2, none⟩ = some (.int .i64 S.size) ∧ w.cell? ⟨b, 3, none⟩ = some pv ∧ w.cell? ⟨b, 4, none⟩ = some (.int .i64 S.used) ∧ w.cell? ⟨b, 5, none⟩ = some lv ∧
    w.cell? ⟨b, 6, none⟩ = some (.int .i64 S.bodies.length) ∧ w.cell? ⟨b, 7, none⟩ = some (.int .i64 S.synced) ∧ w.cell? ⟨b, 8, none⟩ = some (.int .i64 S.mark) ∧ w.cell? ⟨b, 9, none⟩ = some (.int .i64 S.broken) :=
  ⟨cell_of h 0, cell_of h 1, cell_of h 2, cell_of h 3, cell_of h 4, cell_of h 5, cell_of h 6, cell_of h 7, cell_of h 8, cell_of h 9⟩

theorem lrefuses_any {w : World} {b d : Nat} {S : Lg} {pv lv : Value} (h : w.heap[b]? = some (.cells (lgCells d S pv lv) tLog (0, 0))) :
    Calls Tryz.prog 35 #[.pointer (some ⟨b, 0, none⟩)] w fun e w' => e = .returned (.int .i64 S.broken) ∧ w' = w := by
  obtain ⟨c0, -, -, -, -, -, -, -, -, c9⟩ := lg_cell h
  generalize S.broken = x at *
  clear h
  go_enter Tryz.func35, Tryz.ntmps35
  go_wp2
  go_ret
  exact ⟨rfl, rfl⟩
theorem lrefuses_nil (w : World) : Calls Tryz.prog 35 #[.pointer none] w fun e w' => e = .returned (.int .i64 1) ∧ w' = w := by
  go_enter Tryz.func35, Tryz.ntmps35
  go_wp2
  go_ret
  exact ⟨rfl, rfl⟩
theorem lrefuses_zero {w : World} {b : Nat} (h : w.cell? ⟨b, 0, none⟩ = some (.pointer none)) : Calls Tryz.prog 35 #[.pointer (some ⟨b, 0, none⟩)] w fun e w' => e = .returned (.int .i64 1) ∧ w' = w := by
  go_enter Tryz.func35, Tryz.ntmps35
  go_wp2
  go_ret
  exact ⟨rfl, rfl⟩

/-! ### list.bodies -/
/-- A row of texts that is read: n of them from the slice's place on. -/
def TxR (w : World) (x : Option Addr) (l : List ByteArray) : Prop := ∀ i (hi : i < l.length), ∃ g off, x = some ⟨g, off, none⟩ ∧ w.cell? ⟨g, off + i, none⟩ = some (.string l[i])
theorem TxR.touch {w w' : World} {x : Option Addr} {l : List ByteArray} (h : TxR w x l) (t : Touch [] w w') : TxR w' x l := by
  intro i hi
  obtain ⟨g, off, e, hc⟩ := h i hi
  exact ⟨g, off, e, t.cell hc⟩
theorem row_form {w : World} {base : Nat} {v : Value} {l : List ByteArray} (h : w.ownsRow base tStg 1 v l.length (txtVals l)) : ∃ x c, v = .slice x l.length c ∧ l.length ≤ c ∧ c ≤ maxLen ∧ v.ownBlock = x.map (·.block) ∧ TxR w x l ∧ (x = none → l = [] ∧ c = 0) ∧ (∀ a, x = some a → a = ⟨a.block, 0, none⟩) := by
  rcases h.2 with ⟨rfl, h0⟩ | ⟨g, cap, cur, rfl, hb, hg, hc, hm, hs, ht⟩
  · have : l = [] := List.eq_nil_of_length_eq_zero h0
    subst this
    exact ⟨none, 0, rfl, Nat.le_refl _, by unfold maxLen; omega, rfl, fun i hi => absurd hi (Nat.not_lt_zero _), fun _ => ⟨rfl, rfl⟩, fun a h => nomatch h⟩
  · refine ⟨_, cap, rfl, hc, hm, rfl, fun i hi => ⟨g, 0, rfl, ?_⟩, fun h => (nomatch h), fun a h => by cases h; rfl⟩
    have := h.cells (g := g) rfl i (.string l[i]) (by simp [txtVals, hi])
    rw [show (⟨g, 0, none⟩ : Addr).add i = ⟨g, 0 + i, none⟩ from by unfold Addr.add; split <;> simp_all] at this
    exact this
/-- A slice of bodies that is read: where its row lies. -/
structure RowS (w : World) (x : Option Addr) (c : Nat) (l : List ByteArray) (own : List Nat) : Prop where
  r : TxR w x l
  le : l.length ≤ c
  cap : c ≤ maxLen
  no : x = none → l = [] ∧ c = 0
  at_ : ∀ a, x = some a → a = ⟨a.block, 0, none⟩ ∧ a.block ∈ own
theorem RowS.touch {w w' : World} {x : Option Addr} {c : Nat} {l : List ByteArray} {own : List Nat} (h : RowS w x c l own) (t : Touch [] w w') : RowS w' x c l own := ⟨h.r.touch t, h.le, h.cap, h.no, h.at_⟩
theorem lbodies_any {w : World} {lv : Value} {l : List ByteArray} {own : List Nat} (h : LstAt w lv l own) (hn : l.length ≤ 1000000) :
    Calls Tryz.prog 39 #[.agg #[lv, .int .i64 l.length]] w fun e w' => (∃ x c, e = .returned (.slice x l.length c) ∧ RowS w' x c l own) ∧ Touch [] w w' := by
  rcases h with ⟨rfl, rfl, rfl⟩ | ⟨p, v, rfl, h2, h3, rfl⟩
  · go_enter Tryz.func39, Tryz.ntmps39
    go_wp2
    go_ret
    exact ⟨⟨none, 0, rfl, fun i hi => absurd hi (Nat.not_lt_zero _), Nat.le_refl _, by unfold maxLen; omega, fun _ => ⟨rfl, rfl⟩, fun a h => by cases h⟩, (Touch.refl _ _).alloc _⟩
  · obtain ⟨x, c, rfl, hc, hm, ho, hx, hz, ha⟩ := row_form h3
    have c0 : w.cell? ⟨p, 0, none⟩ = some (.slice x l.length c) := cell_of h2 0
    unfold ptr
    have HP : Hid (RowS w x c l (p :: (Value.slice x l.length c).ownBlock.toList)) := hid ⟨hx, hc, hm, hz, fun a h => by
      refine ⟨ha a h, ?_⟩
      subst h
      simp [Value.ownBlock]⟩
    have hm' : c ≤ 9223372036854775807 := hm
    clear h2 h3 hx hz ha hm ho
    have c0' : (w.alloc (.cells #[.pointer (some ⟨p, 0, none⟩), .int .i64 l.length] 28)).cell? ⟨p, 0, none⟩ = some (.slice x l.length c) := ((Touch.refl [] w).alloc _).cell c0
    generalize (Value.slice x l.length c).ownBlock.toList = O at *
    generalize hln : l.length = n at *
    go_enter Tryz.func39, Tryz.ntmps39
    go_wp2
    go_quiet (fail)
    go_wp2
    go_ret
    have T := ((Touch.refl [] w).alloc (.cells #[.pointer (some ⟨p, 0, none⟩), .int .i64 n] 28)).drewN
    refine ⟨⟨x, c, rfl, HP.out.touch (T _)⟩, T _⟩
/-! ### first, taken -/
def sumN (l : List (Nat × Nat)) : Nat := (l.map (·.2)).sum
theorem sumN_snoc {l : List (Nat × Nat)} {i : Nat} (h : i < l.length) : sumN (l.take (i + 1)) = sumN (l.take i) + l[i].2 := by
  unfold sumN
  rw [List.take_succ_eq_append_getElem h, List.map_append, List.sum_append]
  simp
theorem sumN_le (l : List (Nat × Nat)) (i : Nat) : sumN (l.take i) ≤ sumN l := by
  unfold sumN
  conv => rhs; rw [← List.take_append_drop i l]
  rw [List.map_append, List.sum_append]
  omega
theorem cat_takeL (l : List ByteArray) (k : Nat) : (cat (l.take k)).length ≤ (cat l).length := by
  conv => rhs; rw [← List.take_append_drop k l]
  unfold cat
  rw [List.flatMap_append, List.length_append]
  omega
/-- The parts of a log that are read. -/
def PtR (w : World) (x : Option Addr) (l : List (Nat × Nat)) : Prop := ∀ i (hi : i < l.length), ∃ g, x = some ⟨g, 0, none⟩ ∧ w.cell? ⟨g, i * 2, none⟩ = some (.int .i64 l[i].1) ∧ w.cell? ⟨g, i * 2 + 1, none⟩ = some (.int .i64 l[i].2)
theorem PtR.touch {w w' : World} {x : Option Addr} {l : List (Nat × Nat)} (h : PtR w x l) (t : Touch [] w w') : PtR w' x l := by
  intro i hi
  obtain ⟨g, e, h1, h2⟩ := h i hi
  exact ⟨g, e, t.cell h1, t.cell h2⟩
theorem partVals_get : ∀ (l : List (Nat × Nat)) (i : Nat) (hi : i < l.length), (partVals l)[i * 2]? = some (.int .i64 l[i].1) ∧ (partVals l)[i * 2 + 1]? = some (.int .i64 l[i].2)
  | [], i, h => absurd h (Nat.not_lt_zero _)
  | a :: r, 0, _ => ⟨rfl, rfl⟩
  | a :: r, i + 1, h => by
    obtain ⟨h1, h2⟩ := partVals_get r i (by simpa using h)
    have e : partVals (a :: r) = .int .i64 a.1 :: .int .i64 a.2 :: partVals r := rfl
    rw [e, show (i + 1) * 2 = i * 2 + 2 by omega]
    exact ⟨h1, h2⟩
theorem part_form {w : World} {base : Nat} {v : Value} {l : List (Nat × Nat)} (h : w.ownsRow base tPart 2 v l.length (partVals l)) : ∃ x c, v = .slice x l.length c ∧ l.length ≤ c ∧ c ≤ maxLen ∧ PtR w x l := by
  rcases h.2 with ⟨rfl, h0⟩ | ⟨g, cap, cur, rfl, hb, hg, hc, hm, hs, ht⟩
  · have : l = [] := List.eq_nil_of_length_eq_zero h0
    subst this
    exact ⟨none, 0, rfl, Nat.le_refl _, by unfold maxLen; omega, fun i hi => absurd hi (Nat.not_lt_zero _)⟩
  · refine ⟨_, cap, rfl, hc, hm, fun i hi => ⟨g, rfl, ?_, ?_⟩⟩
    · have := h.cells (g := g) rfl (i * 2) _ (partVals_get l i hi).1
      rwa [show (⟨g, 0, none⟩ : Addr).add (i * 2) = ⟨g, i * 2, none⟩ from by unfold Addr.add; split <;> simp_all] at this
    · have := h.cells (g := g) rfl (i * 2 + 1) _ (partVals_get l i hi).2
      rwa [show (⟨g, 0, none⟩ : Addr).add (i * 2 + 1) = ⟨g, i * 2 + 1, none⟩ from by unfold Addr.add; split <;> simp_all] at this
theorem first_any {w : World} {b d : Nat} {S : Lg} {pv lv : Value} {own : List Nat} (h : LgIs w d b S pv lv own) (m : Nat) (hm : m ≤ S.parts.length) (hl : S.parts.length ≤ 1000) (hs : sumN S.parts ≤ 1000000) :
    Calls Tryz.prog 45 #[.pointer (some ⟨b, 0, none⟩), .int .i64 m] w fun e w' => e = .returned (.int .i64 (sumN (S.parts.take m))) ∧ Touch [] w w' := by
  obtain ⟨-, -, -, c3, -, -, -, -, -, -⟩ := lg_cell h.cells
  obtain ⟨x, c, rfl, hc, -, hp⟩ := part_form h.parts
  have HP := hid hp
  clear h hp
  generalize S.parts = ps at *
  have HS := hid fun i => Nat.le_trans (sumN_le ps i) hs
  have HN := hid fun i (hi : i < ps.length) => sumN_snoc hi
  obtain ⟨n, hn⟩ : ∃ n, n = ps.length := ⟨_, rfl⟩
  rw [← hn] at hm hl c3 hc
  clear hs
  go_enter Tryz.func45, Tryz.ntmps45
  go_wp2
  go_loopw [5, 15] (fun nv iv wr => ∃ (i : Nat), i ≤ m ∧ iv = .int .i64 i ∧ nv = .int .i64 (sumN (ps.take i)) ∧ Hid (Touch [] w wr)) (fun _ iv _ => m - (RowKit.intOf iv).toNat)
  case atStart => exact ⟨0, Nat.zero_le _, rfl, rfl, hid (Touch.refl _ _)⟩
  case round =>
    obtain ⟨i, hi, rfl, rfl, T⟩ := hrel
    by_cases hlt : i < m
    · have hlt' : decide (i < m) = true := by simpa using hlt
      obtain ⟨g, rfl, g1, g2⟩ := HP.out i (by omega)
      have q1 := T.out.cell g1
      have q2 := T.out.cell g2
      have hN := hid (HN.out i (by omega))
      have hB := hid (HS.out (i + 1))
      clear g1 g2
      generalize ps[i] = a at *
      have w2 : Hid (wrap64 ((sumN (ps.take i) : Int) + (a.2 : Int)) = (sumN (ps.take i) : Int) + (a.2 : Int)) := hid (by have h1 := hN.out; have h2 := hB.out; unfold wrap64; omega)
      go_wp2
      go_roundw
      case rel => exact ⟨i + 1, by omega, by go_num, by rw [hN.out, w2.out]; go_num, hid (T.out.alloc _)⟩
      case measure => simp [RowKit.intOf]; omega
    · have hlt' : decide (i < m) = false := by simpa using hlt
      have e : i = m := by omega
      subst e
      go_wp2
      go_ret
      exact ⟨rfl, T.out⟩
theorem taken_any {w : World} {x : Option Addr} {l : List ByteArray} {n : Nat} (c : Nat) (h : TxR w x l) (hn : l.length = n) (hl : (cat l).length + 13 * l.length ≤ 1000000000) :
    Calls Tryz.prog 66 #[.slice x n c] w fun e w' => e = .returned (.int .i64 ((cat l).length + 13 * l.length : Nat)) ∧ Touch [] w w' := by
  have H := hid h
  clear h
  go_enter Tryz.func66, Tryz.ntmps66
  go_wp2
  go_loopw [3, 8] (fun nv iv wr => ∃ (i : Nat), i ≤ n ∧ iv = .int .i64 i ∧ nv = .int .i64 ((cat (l.take i)).length + 13 * i : Nat) ∧ Hid (Touch [] w wr)) (fun _ iv _ => n - (RowKit.intOf iv).toNat)
  case atStart => exact ⟨0, Nat.zero_le _, rfl, rfl, hid (Touch.refl _ _)⟩
  case round =>
    obtain ⟨i, hi, rfl, rfl, T⟩ := hrel
    by_cases hlt : i < n
    · have hlt' : decide (i < n) = true := by simpa using hlt
      obtain ⟨g, off, rfl, g1⟩ := H.out i (by omega)
      have q1 := T.out.cell g1
      have hN : Hid ((cat (l.take (i + 1))).length + 13 * (i + 1) = (cat (l.take i)).length + 13 * i + (l[i].size + 13) ∧ (cat (l.take i)).length + 13 * i + (l[i].size + 13) ≤ 1000000000) := hid (by
        have e := cat_takeL l (i + 1)
        rw [List.take_succ_eq_append_getElem (by omega), cat_snoc, List.length_append, list_len] at e ⊢
        omega)
      clear g1
      generalize l[i] = a at *
      have w1 : wrap64 ((a.size : Int) + 13) = (a.size : Int) + 13 := by have := hN.out.2; unfold wrap64; omega
      have w2 : Hid (wrap64 (((cat (l.take i)).length : Int) + 13 * (i : Int) + ((a.size : Int) + 13)) = ((cat (l.take i)).length : Int) + 13 * (i : Int) + ((a.size : Int) + 13)) := hid (by have := hN.out.2; unfold wrap64; omega)
      go_wp2
      go_roundw
      case rel => exact ⟨i + 1, by omega, by go_num, by rw [hN.out.1, w2.out]; go_num, hid T.out⟩
      case measure => simp [RowKit.intOf]; omega
    · have hlt' : decide (i < n) = false := by simpa using hlt
      have e : i = n := by omega
      subst e
      rw [List.take_of_length_le (by omega)]
      go_wp2
      go_ret
      refine ⟨?_, T.out⟩
      rw [hn]
      rfl
end Go.Proofs.YtjjocnkockeacaaGreatDoor

namespace Go.Proofs.YtjjocnkockeacaaGreatDoor
open Go.RowKit Go.Lib
set_option maxRecDepth 100000

theorem txtVals_get {l : List ByteArray} {j : Nat} {u : Value} (h : (txtVals l)[j]? = some u) : ∃ hj : j < l.length, u = .string l[j] := by
  unfold txtVals at h
  rw [List.getElem?_map] at h
  cases hj : l[j]? with
  | none => rw [hj] at h; cases h
  | some t =>
    rw [hj] at h
    obtain ⟨hlt, rfl⟩ := List.getElem?_eq_some_iff.1 hj
    exact ⟨hlt, (Option.some.inj h).symm⟩
theorem TxR.news {w : World} {ad : Addr} {l : List ByteArray} (h : TxR w (some ad) l) : ∀ j u, (txtVals l)[j]? = some u → w.cell? (ad.add j) = some u := by
  intro j u hu
  obtain ⟨hj, rfl⟩ := txtVals_get hu
  obtain ⟨g, off, e, hc⟩ := h j hj
  obtain rfl := Option.some.inj e
  rw [show (⟨g, off, none⟩ : Addr).add j = ⟨g, off + j, none⟩ from by unfold Addr.add; split <;> simp_all]
  exact hc
theorem infoStg : (Tryz.prog.info? tStg).map (fun i => (i.zero, i.size, i.bytes)) = some (some (.string ⟨#[]⟩), 1, 16) := by kernel_rfl
theorem txtVals_one (l : List ByteArray) : ∀ u ∈ txtVals l, u.oneCell' = true := by
  intro u hu
  obtain ⟨s, _, rfl⟩ := List.mem_map.1 hu
  rfl
/-- append of texts that came in, nil or not: the run. -/
theorem run_append_tx {w : World} (ty : TypeId) {v : Value} {n m c : Nat} {xs : List Value} {ax : Option Addr} {l : List ByteArray} (hown : w.ownsRow 0 tStg 1 v n xs) (hm : m = l.length) (htx : TxR w ax l) (hnone : ax = none → l = [] ∧ c = 0) (hb : n + m ≤ 1000000) :
    ∃ y cap w', (Builtin.append_ #[43, 43] ty #[v, .slice ax m c]).run Tryz.prog w = .ok (.slice y (n + m) cap) w' ∧ w'.ownsRow 0 tStg 1 (.slice y (n + m) cap) (n + m) (xs ++ txtVals l) ∧ w.grownBy w' v.ownBlock ∧ ∀ g ∈ (Value.slice y (n + m) cap).ownBlock.toList, g ∈ v.ownBlock.toList ∨ w.heap.size ≤ g := by
  obtain ⟨i0, hi, hz0, hz1, hz2⟩ := info_parts infoStg
  subst hm
  cases ax with
  | none =>
    obtain ⟨rfl, rfl⟩ := hnone rfl
    have hr := run_append_owned_none (P := Tryz.prog) (w := w) 0 43 ty tStg i0 1 Tryz.underlying43 hi v n xs hown
    have hf : ∃ y cap, v = .slice y n cap := by
      rcases hown.2 with ⟨rfl, h0⟩ | ⟨g, cap, cur, rfl, _⟩
      · exact ⟨none, 0, by rw [h0]⟩
      · exact ⟨_, cap, rfl⟩
    obtain ⟨y, cap, rfl⟩ := hf
    exact ⟨y, cap, w, hr, by simpa [txtVals] using hown, ⟨rfl, rfl, rfl, Nat.le_refl _, fun _ _ _ => rfl⟩, fun g hg => .inl hg⟩
  | some ad =>
    obtain ⟨v', w', hr, h2, h3, _, h5⟩ := run_append_own_at (P := Tryz.prog) w 0 43 ty tStg i0 (.string ⟨#[]⟩) 1 16 Tryz.underlying43 hi hz0 hz1 hz2 rfl (by decide) v n xs hown ad l.length c (txtVals l) (by rw [txtVals_len]; omega) htx.news (txtVals_one l) (by unfold maxLen; omega) (by omega) (Nat.zero_le _)
    have hf : ∃ y cap, v' = .slice y (n + l.length) cap := by
      rcases h2.2 with ⟨rfl, h0⟩ | ⟨g, cap, cur, rfl, _⟩
      · exact ⟨none, 0, by rw [h0]⟩
      · exact ⟨_, cap, rfl⟩
    obtain ⟨y, cap, rfl⟩ := hf
    refine ⟨y, cap, w', hr, h2, h3, fun g hg => ?_⟩
    rcases h5 with h5 | h5
    · rw [h5] at hg; exact .inl hg
    · rw [h5] at hg
      simp at hg
      exact .inr (by omega)
theorem step_append_tx {w : World} {ops : Array Oper} {o : Oper} {a : Act} {K : Act → World → Prop} {Q : Exit → Act → World → Prop} {E : Prop} (hgd : o.guard = none) (s x : Operand)
    (ho : o.op = .call { callee := .builtin .append, args := #[s, x], argTypes := #[43, 43] })
    (v : Value) (n m c : Nat) (xs : List Value) (ax : Option Addr) (l : List ByteArray) (hs : a.eval s = v) (hown : w.ownsRow 0 tStg 1 v n xs) (hx : a.eval x = .slice ax m c) (hm : m = l.length) (htx : TxR w ax l) (hnone : ax = none → l = [] ∧ c = 0) (hb : n + m ≤ 1000000)
    (h : ∀ y cap w', w'.ownsRow 0 tStg 1 (.slice y (n + m) cap) (n + m) (xs ++ txtVals l) → w.grownBy w' v.ownBlock → (∀ g ∈ (Value.slice y (n + m) cap).ownBlock.toList, g ∈ v.ownBlock.toList ∨ w.heap.size ≤ g) → K (a.put o.dst (.slice y (n + m) cap)) w') :
    if Region.wanted o (yielded ops a.tmps) = true then Oper.wp Tryz.prog o a w K Q else E := by
  rw [if_pos (by simp [Region.wanted, hgd])]
  obtain ⟨y, cap, w', hr, h2, h3, h4⟩ := run_append_tx o.type hown hm htx hnone hb
  unfold Oper.wp execOp
  simp only [ho, resolve, invoke, builtin, Sem.run_bind, Sem.run_pure, Result.andThen_ok, List.map_toArray, List.map_cons, List.map_nil, hs, hx, hr]
  exact h y cap w' h2 h3 h4
theorem grown_block {w w' : World} {v : Value} {k : Nat} {cs : Array Value} {ty : TypeId} {fz : Nat × Nat} (hg : w.grownBy w' v.ownBlock) (h : w.heap[k]? = some (.cells cs ty fz)) (hk : k ∉ v.ownBlock.toList) : w'.heap[k]? = some (.cells cs ty fz) := by
  refine (hg.block k (lt_of_block h) fun e => ?_).trans h
  rw [← e] at hk
  simp at hk
/-- A list that is told: in blocks of O, or new ones; of what was there O is turned. -/
def ListRet (w : World) (O : List Nat) (l : List ByteArray) (e : Ending) (w' : World) : Prop :=
  ∃ lv own, e = .returned (.agg #[lv, .int .i64 l.length]) ∧ LstAt w' lv l own ∧ (∀ i ∈ own, i ∈ O ∨ w.heap.size ≤ i) ∧ Touch O w w'
theorem txtVals_app (a b : List ByteArray) : txtVals a ++ txtVals b = txtVals (a ++ b) := by simp [txtVals]
/-- Behind the append of with: the pool's block, the two boxes, the row. -/
structure WMid (w wx : World) (p : Nat) (v : Value) (l more : List ByteArray) (y : Option Addr) (c : Nat) : Prop where
  pool : wx.heap[p]? = some (.cells #[.slice y (l.length + more.length) c] tLPool (0, 0))
  box : wx.heap[w.heap.size]? = some (.cells #[.pointer (some ⟨p, 0, none⟩), .int .i64 l.length] 28 (0, 0))
  res : wx.heap[w.heap.size + 1]? = some (.cells #[.pointer none, .int .i64 0] 28 (0, 0))
  t : Touch (p :: v.ownBlock.toList) w wx
  row : wx.ownsRow 0 tStg 1 (.slice y (l.length + more.length) c) (l.length + more.length) (txtVals l ++ txtVals more)
  from_ : ∀ g ∈ (Value.slice y (l.length + more.length) c).ownBlock.toList, g ∈ v.ownBlock.toList ∨ w.heap.size ≤ g
set_option maxHeartbeats 1000000 in
theorem lwith_some {w : World} {p : Nat} {v : Value} {l more : List ByteArray} {x : Option Addr} {c : Nat} {P : List Nat} (hp' : w.heap[p]? = some (.cells #[v] tLPool (0, 0))) (hr : w.ownsRow 0 tStg 1 v l.length (txtVals l)) (hn : l.length ≤ 100000) (hx : RowS w x c more P) (hm : more.length ≤ 100000) :
    Calls Tryz.prog 67 #[.agg #[.pointer (some ⟨p, 0, none⟩), .int .i64 l.length], .slice x more.length c] w (ListRet w (p :: v.ownBlock.toList) (l ++ more)) := by
  obtain ⟨y, k, rfl, hk, hkm, -⟩ := row_form hr
  have hp := hid hp'
  have kneq : ((l.length : Int) != (l.length : Int)) = false := by simp
  obtain ⟨W1, hW⟩ : ∃ W1, W1 = ((w.alloc (.cells #[.pointer (some ⟨p, 0, none⟩), .int .i64 l.length] 28)).alloc (.cells #[.pointer none, .int .i64 0] 28)) := ⟨_, rfl⟩
  have T1 : Touch [] w W1 := by rw [hW]; exact ((Touch.refl [] w).alloc _).alloc _
  have b0 : W1.heap[w.heap.size]? = some (.cells #[.pointer (some ⟨p, 0, none⟩), .int .i64 l.length] 28 (0, 0)) := by
    rw [hW]; exact heap_alloc_keep (heap_alloc_new w _) _
  have b1 : W1.heap[w.heap.size + 1]? = some (.cells #[.pointer none, .int .i64 0] 28 (0, 0)) := by
    rw [hW]; have := heap_alloc_new (w.alloc (.cells #[.pointer (some ⟨p, 0, none⟩), .int .i64 l.length] 28)) (.cells #[.pointer none, .int .i64 0] 28); simpa using this
  have b2 : W1.heap[p]? = some (.cells #[.slice y l.length k] tLPool (0, 0)) := (T1.block p (lt_of_block hp') (by simp)).trans hp'
  have r0 : W1.cell? ⟨w.heap.size, 0, none⟩ = some (.pointer (some ⟨p, 0, none⟩)) := cell_of b0 0
  have r1 : W1.cell? ⟨w.heap.size, 1, none⟩ = some (.int .i64 l.length) := cell_of b0 1
  have r2 : W1.cell? ⟨p, 0, none⟩ = some (.slice y l.length k) := cell_of b2 0
  go_enter Tryz.func67, Tryz.ntmps67
  go_wp2
  rw [← hW]
  have T1h := hid T1
  have b0h := hid b0
  have b1h := hid b1
  have b2h := hid b2
  have hrh := hid hr
  have hxh := hid hx
  clear b0 b1 b2 hr hx T1 hp'
  clear hW
  go_quiet (fail)
  go_wp2
  have T2 : Hid (Touch [] W1 (W1.drewN nq)) := hid ((Touch.refl _ _).drewN _)
  have e0 : (W1.drewN nq).cell? ⟨w.heap.size, 0, none⟩ = some (.pointer (some ⟨p, 0, none⟩)) := T2.out.cell r0
  have e1 : (W1.drewN nq).cell? ⟨w.heap.size, 1, none⟩ = some (.int .i64 l.length) := T2.out.cell r1
  have e2 : (W1.drewN nq).cell? ⟨p, 0, none⟩ = some (.slice y l.length k) := T2.out.cell r2
  obtain ⟨W2, hW2⟩ : ∃ W2, W2 = W1.drewN nq := ⟨_, rfl⟩
  rw [← hW2] at e0 e1 e2 T2 ⊢
  have T3 : Hid (Touch [] w W2) := hid (T1h.out.trans T2.out (by simp))
  have b02 : Hid (W2.heap[w.heap.size]? = some (.cells #[.pointer (some ⟨p, 0, none⟩), .int .i64 l.length] 28 (0, 0))) := hid ((T2.out.block _ (lt_of_block b0h.out) (by simp)).trans b0h.out)
  have b12 : Hid (W2.heap[w.heap.size + 1]? = some (.cells #[.pointer none, .int .i64 0] 28 (0, 0))) := hid ((T2.out.block _ (lt_of_block b1h.out) (by simp)).trans b1h.out)
  have b22 : Hid (W2.heap[p]? = some (.cells #[.slice y l.length k] tLPool (0, 0))) := hid ((T2.out.block _ (lt_of_block b2h.out) (by simp)).trans b2h.out)
  have f2 : W2.frozen? ⟨p, 0, none⟩ = false := free_of b22.out 0
  have d0 : W2.drew.cell? ⟨w.heap.size, 0, none⟩ = some (.pointer (some ⟨p, 0, none⟩)) := e0
  have d2 : W2.drew.cell? ⟨p, 0, none⟩ = some (.slice y l.length k) := e2
  have n2 : Hid (p ∉ (Value.slice y l.length k).ownBlock.toList) := hid fun hm => by
    rcases hrh.out.2 with ⟨he, _⟩ | ⟨g, cap, cur, he, _, hg, _⟩
    · simp only [Value.slice.injEq] at he; rw [he.1] at hm; simp [Value.ownBlock] at hm
    · simp only [Value.slice.injEq] at he; rw [he.1] at hm; simp [Value.ownBlock] at hm; exact ne_type hp.out hg (by decide) hm
  have n0 : Hid (∀ i ∈ (Value.slice y l.length k).ownBlock.toList, i < w.heap.size) := hid (own_lt hrh.out)
  clear r0 r1 r2 hW2 b0h b1h b2h T2 T1h
  have np : w.heap.size ≠ p ∧ w.heap.size + 1 ≠ p := by have := lt_of_block hp.out; omega
  have NP := hid np
  clear np
  go_cut [] (fun wx => ∃ y3 c3, Hid (WMid w wx p (.slice y l.length k) l more y3 c3))
  case first =>
    go_region_law (refine step_append_tx rfl (.tmp 31) (.tmp 32) rfl (.slice y l.length k) l.length more.length c (txtVals l) x more (by simp [Act.eval]) (own_touch hrh.out (T3.out.drew) (by simp)) (by simp [Act.eval]) rfl (hxh.out.r.touch T3.out.drew) hxh.out.no (by omega) ?_
                   intro y3 c3 w3 hG3 hgr3 hfrom3
                   have b23 : w3.heap[p]? = some (.cells #[.slice y l.length k] tLPool (0, 0)) := grown_block hgr3 b22.out n2.out
                   have b03 : Hid (w3.heap[w.heap.size]? = some (.cells #[.pointer (some ⟨p, 0, none⟩), .int .i64 l.length] 28 (0, 0))) := hid (grown_block hgr3 b02.out fun hm => Nat.lt_irrefl _ (n0.out _ hm))
                   have b13 : Hid (w3.heap[w.heap.size + 1]? = some (.cells #[.pointer none, .int .i64 0] 28 (0, 0))) := hid (grown_block hgr3 b12.out fun hm => by have := n0.out _ hm; omega)
                   have q2 : w3.cell? ⟨p, 0, none⟩ = some (.slice y l.length k) := cell_of b23 0
                   have z2 : w3.frozen? ⟨p, 0, none⟩ = false := free_of b23 0
                   have q0 : w3.cell? ⟨w.heap.size, 0, none⟩ = some (.pointer (some ⟨p, 0, none⟩)) := cell_of b03.out 0
                   have q1 : w3.cell? ⟨w.heap.size, 1, none⟩ = some (.int .i64 l.length) := cell_of b03.out 1
                   have B23 := hid b23
                   have G3 := hid hG3
                   have GR3 := hid hgr3
                   have FR3 := hid hfrom3
                   clear b23 hG3 hgr3 hfrom3)
    all_goals
      go_wp2_with fail
      go_meet
      refine ⟨y3, c3, hid ⟨heap_set B23.out _, (heap_set_other _ NP.out.1).trans b03.out, (heap_set_other _ NP.out.2).trans b13.out, (((T3.out.mono (by simp)).drew).grown GR3.out fun k hk => .inl (by simp [hk])).setCell (.inl (by simp)) _, ?_, fun g hg => ?_⟩⟩
      · exact own_touch G3.out ((Touch.refl [p] w3).setCell (.inl (by simp)) _) (fun k hk hp2 => by
          obtain rfl : k = p := by simpa using hp2
          rcases FR3.out k hk with h1 | h1
          · exact n2.out h1
          · have := lt_of_block b22.out; simp at h1; omega)
      · rcases FR3.out g hg with h1 | h1
        · exact .inl h1
        · exact .inr (Nat.le_trans T3.out.size h1)
  case rest =>
    obtain ⟨y3, c3, M⟩ := hcut
    have s0 : wc.cell? ⟨w.heap.size, 0, none⟩ = some (.pointer (some ⟨p, 0, none⟩)) := cell_of M.out.box 0
    have s1 : wc.cell? ⟨w.heap.size, 1, none⟩ = some (.int .i64 l.length) := cell_of M.out.box 1
    have s2 : wc.cell? ⟨p, 0, none⟩ = some (.slice y3 (l.length + more.length) c3) := cell_of M.out.pool 0
    have z1 : wc.frozen? ⟨w.heap.size, 1, none⟩ = false := free_of M.out.box 1
    have v0 : wc.cell? ⟨w.heap.size + 1, 0, none⟩ = some (.pointer none) := cell_of M.out.res 0
    have v1 : wc.cell? ⟨w.heap.size + 1, 1, none⟩ = some (.int .i64 0) := cell_of M.out.res 1
    have y0 : wc.frozen? ⟨w.heap.size + 1, 0, none⟩ = false := free_of M.out.res 0
    have y1 : wc.frozen? ⟨w.heap.size + 1, 1, none⟩ = false := free_of M.out.res 1
    clear e0 e1 e2 f2 d0 d2
    go_wp2
    obtain ⟨W5, hW5⟩ : ∃ W5, W5 = (((wc.setCell ⟨w.heap.size, 1, none⟩ (.int .i64 ((l.length : Int) + (more.length : Int)))).setCell ⟨w.heap.size + 1, 0, none⟩ (.pointer (some ⟨p, 0, none⟩))).setCell ⟨w.heap.size + 1, 1, none⟩ (.int .i64 ((l.length : Int) + (more.length : Int)))) := ⟨_, rfl⟩
    have t5 : Touch [w.heap.size, w.heap.size + 1] wc W5 := by rw [hW5]; exact (((Touch.refl _ _).setCell (.inl (by simp)) _).setCell (.inl (by simp)) _).setCell (.inl (by simp)) _
    have e5 : W5.heap[w.heap.size + 1]? = some (.cells #[.pointer (some ⟨p, 0, none⟩), .int .i64 ((l.length : Int) + (more.length : Int))] 28 (0, 0)) := by
      rw [hW5]
      exact heap_set (heap_set ((heap_set_other _ (by simp)).trans M.out.res) _) _
    rw [← hW5]
    have r0 : W5.cell? ⟨w.heap.size + 1, 0, none⟩ = some (.pointer (some ⟨p, 0, none⟩)) := cell_of e5 0
    have r1 : W5.cell? ⟨w.heap.size + 1, 1, none⟩ = some (.int .i64 ((l.length : Int) + (more.length : Int))) := cell_of e5 1
    refine bodyPost_ret (v := .agg #[.pointer (some ⟨p, 0, none⟩), .int .i64 ((l.length : Int) + (more.length : Int))]) (by simp [results, Tryz.results67, go_sem, r0, r1]) rfl ?_
    have hlen : (l ++ more).length = l.length + more.length := List.length_append
    have hrow : W5.ownsRow 0 tStg 1 (.slice y3 (l.length + more.length) c3) (l ++ more).length (txtVals (l ++ more)) := by
      rw [hlen, ← txtVals_app]
      refine own_touch M.out.row t5 fun k hk hm => ?_
      have : k = w.heap.size ∨ k = w.heap.size + 1 := by simpa using hm
      rcases row_type M.out.row (ts := [tStg]) (by simp) k hk with ⟨cs, ty, fz, hb, hty⟩
      obtain rfl : ty = tStg := by simpa using hty
      rcases this with rfl | rfl
      · exact ne_type hb M.out.box (by decide) rfl
      · exact ne_type hb M.out.res (by decide) rfl
    refine ⟨.pointer (some ⟨p, 0, none⟩), p :: (Value.slice y3 (l.length + more.length) c3).ownBlock.toList, by rw [hlen]; simp, .inr ⟨p, _, rfl, ?_, hrow, rfl⟩, ?_, ?_⟩
    · exact (t5.block p (lt_of_block M.out.pool) (by have := NP.out; simp; omega)).trans M.out.pool
    · intro i hi
      rcases List.mem_cons.1 hi with rfl | hi
      · exact .inl (by simp)
      · rcases M.out.from_ i hi with h1 | h1
        · exact .inl (List.mem_cons_of_mem _ h1)
        · exact .inr h1
    · exact M.out.t.trans t5 (by intro i hi; right; have : i = w.heap.size ∨ i = w.heap.size + 1 := by simpa using hi
                                 omega)
end Go.Proofs.YtjjocnkockeacaaGreatDoor

namespace Go.Proofs.YtjjocnkockeacaaGreatDoor
open Go.RowKit Go.Lib
set_option maxRecDepth 100000

theorem clone_tx_nil (w : World) : Calls Tryz.prog 83 #[.slice none 0 0] w fun e w' => e = .returned (.slice none 0 0) ∧ w' = w := by
  have q22 : ∀ (w : World) (a : Option Addr) (n c n' c' : Nat), (binOp .eql 43 (.slice a n c) (.slice none n' c')).run Tryz.prog w = .ok (.bool a.isNone) w := fun w a n c n' c' => Lib.run_eql_slice_nil w _ _ a n c n' c' rfl
  go_enter Tryz.func83, Tryz.ntmps83
  go_wp2
  go_ret
  exact ⟨rfl, rfl⟩
theorem lbodies_nil (w : World) : Calls Tryz.prog 39 #[.agg #[.pointer none, .int .i64 0]] w fun e w' => e = .returned (.slice none 0 0) ∧ Touch [] w w' := by
  go_enter Tryz.func39, Tryz.ntmps39
  go_wp2
  go_ret
  exact ⟨rfl, (Touch.refl _ _).alloc _⟩
theorem step_append_tx0 {w : World} {ops : Array Oper} {o : Oper} {a : Act} {K : Act → World → Prop} {Q : Exit → Act → World → Prop} {E : Prop} (hgd : o.guard = none) (s x : Operand)
    (ho : o.op = .call { callee := .builtin .append, args := #[s, x], argTypes := #[43, 43] })
    (c : Nat) (ax : Option Addr) (l : List ByteArray) (hs : a.eval s = .slice none 0 0) (hx : a.eval x = .slice ax l.length c) (htx : TxR w ax l) (hnone : ax = none → l = [] ∧ c = 0) (hb : l.length ≤ 1000000)
    (h : ∀ y cap w', w'.ownsRow 0 tStg 1 (.slice y l.length cap) l.length (txtVals l) → Touch [] w w' → (∀ g ∈ (Value.slice y l.length cap).ownBlock.toList, w.heap.size ≤ g) → K (a.put o.dst (.slice y l.length cap)) w') :
    if Region.wanted o (yielded ops a.tmps) = true then Oper.wp Tryz.prog o a w K Q else E := by
  refine step_append_tx hgd s x ho (.slice none 0 0) 0 l.length c [] ax l hs ⟨rfl, .inl ⟨rfl, rfl⟩⟩ hx rfl htx hnone (by omega) ?_
  intro y cap w' h1 h2 h3
  rw [Nat.zero_add, List.nil_append] at h1
  rw [Nat.zero_add] at h3 ⊢
  refine h y cap w' h1 ((Touch.refl [] w).grown h2 (fun b hb => by cases hb)) fun g hg => ?_
  rcases h3 g hg with h4 | h4
  · simp [Value.ownBlock] at h4
  · exact h4
structure NMid (w wx : World) (q : Nat) (more : List ByteArray) (y : Option Addr) (c : Nat) : Prop where
  pool : wx.heap[q]? = some (.cells #[.slice y more.length c] tLPool (0, 0))
  box : wx.heap[w.heap.size]? = some (.cells #[.pointer (some ⟨q, 0, none⟩), .int .i64 0] 28 (0, 0))
  res : wx.heap[w.heap.size + 1]? = some (.cells #[.pointer none, .int .i64 0] 28 (0, 0))
  t : Touch [] w wx
  row : wx.ownsRow 0 tStg 1 (.slice y more.length c) more.length (txtVals more)
  from_ : ∀ g ∈ (Value.slice y more.length c).ownBlock.toList, w.heap.size ≤ g
set_option maxHeartbeats 1000000 in
theorem lwith_none {w : World} {more : List ByteArray} {x : Option Addr} {c : Nat} {P : List Nat} (hx : RowS w x c more P) (hm : more.length ≤ 100000) :
    Calls Tryz.prog 67 #[.agg #[.pointer none, .int .i64 0], .slice x more.length c] w (ListRet w [] more) := by
  obtain ⟨W1, hW⟩ : ∃ W1, W1 = ((w.alloc (.cells #[.pointer none, .int .i64 0] 28)).alloc (.cells #[.pointer none, .int .i64 0] 28)) := ⟨_, rfl⟩
  have T1 : Touch [] w W1 := by rw [hW]; exact ((Touch.refl [] w).alloc _).alloc _
  have b0 : W1.heap[w.heap.size]? = some (.cells #[.pointer none, .int .i64 0] 28 (0, 0)) := by
    rw [hW]; exact heap_alloc_keep (heap_alloc_new w _) _
  have b1 : W1.heap[w.heap.size + 1]? = some (.cells #[.pointer none, .int .i64 0] 28 (0, 0)) := by
    rw [hW]; have := heap_alloc_new (w.alloc (.cells #[.pointer none, .int .i64 0] 28)) (.cells #[.pointer none, .int .i64 0] 28); simpa using this
  have r0 : W1.cell? ⟨w.heap.size, 0, none⟩ = some (.pointer none) := cell_of b0 0
  have r1 : W1.cell? ⟨w.heap.size, 1, none⟩ = some (.int .i64 0) := cell_of b0 1
  go_enter Tryz.func67, Tryz.ntmps67
  go_wp2
  rw [← hW]
  have T1h := hid T1
  have b0h := hid b0
  have b1h := hid b1
  have hxh := hid hx
  clear b0 b1 hx T1
  clear hW
  go_quiet (fail)
  have T2 : Hid (Touch [] W1 (W1.drewN nq)) := hid ((Touch.refl _ _).drewN _)
  have e0 : (W1.drewN nq).cell? ⟨w.heap.size, 0, none⟩ = some (.pointer none) := T2.out.cell r0
  have e1 : (W1.drewN nq).cell? ⟨w.heap.size, 1, none⟩ = some (.int .i64 0) := T2.out.cell r1
  obtain ⟨W2, hW2⟩ : ∃ W2, W2 = W1.drewN nq := ⟨_, rfl⟩
  rw [← hW2] at e0 e1 T2 ⊢
  have BB : Hid (W2.heap[w.heap.size]? = some (.cells #[.pointer none, .int .i64 0] 28 (0, 0))) := hid (touch_other T2.out b0h.out (by simp))
  have BC : Hid (W2.heap[w.heap.size + 1]? = some (.cells #[.pointer none, .int .i64 0] 28 (0, 0))) := hid (touch_other T2.out b1h.out (by simp))
  clear r0 r1 hW2 b0h b1h
  have LB := hid lbodies_nil
  have CN := hid clone_tx_nil
  go_wp2_with fail
  with_reducible refine (LB.out _).mono ?_
  rintro e w3 ⟨rfl, t3⟩
  have TA := hid t3
  have BA := hid (touch_other t3 BB.out (by simp))
  have BR := hid (touch_other t3 BC.out (by simp))
  have s0 : ∀ o : Obj, (w3.alloc o).cell? ⟨w.heap.size, 0, none⟩ = some (.pointer none) := fun o => cell_alloc BA.out 0 o
  have z0 : ∀ o : Obj, (w3.alloc o).frozen? ⟨w.heap.size, 0, none⟩ = false := fun o => free_of (heap_alloc_keep BA.out o) 0
  clear t3 e0 e1
  go_wp2_with (go_at_call 83; with_reducible refine (CN.out _).mono ?_; rintro e w4 ⟨rfl, hw4⟩; rw [hw4])
  obtain ⟨q, hq⟩ : ∃ q, q = w3.heap.size := ⟨_, rfl⟩
  obtain ⟨W3, hW3⟩ : ∃ W3, W3 = (w3.alloc (.cells #[.slice none 0 0] tLPool)).setCell ⟨w.heap.size, 0, none⟩ (.pointer (some ⟨w3.heap.size, 0, none⟩)) := ⟨_, rfl⟩
  have hq1 : w.heap.size + 1 < q := by rw [hq]; exact lt_of_block BR.out
  have b02 : Hid (W3.heap[w.heap.size]? = some (.cells #[.pointer (some ⟨q, 0, none⟩), .int .i64 0] 28 (0, 0))) := hid (by rw [hW3, hq]; exact heap_set (heap_alloc_keep BA.out _) _)
  have b12 : Hid (W3.heap[w.heap.size + 1]? = some (.cells #[.pointer none, .int .i64 0] 28 (0, 0))) := hid (by rw [hW3]; exact (heap_set_other _ (by simp)).trans (heap_alloc_keep BR.out _))
  have b22 : Hid (W3.heap[q]? = some (.cells #[.slice none 0 0] tLPool (0, 0))) := hid (by rw [hW3, hq]; exact (heap_set_other _ (by simp; omega)).trans (heap_alloc_new w3 _))
  have T3 : Hid (Touch [] w W3) := hid (by rw [hW3]; exact (((T1h.out.trans T2.out (by simp)).trans TA.out (by simp)).alloc _).setCell (.inr (Nat.le_refl _)) _)
  rw [← hq] at hW3 ⊢
  rw [← hW3]
  clear hW3 s0 z0 BA BR
  have e0 : W3.cell? ⟨w.heap.size, 0, none⟩ = some (.pointer (some ⟨q, 0, none⟩)) := cell_of b02.out 0
  have e1 : W3.cell? ⟨w.heap.size, 1, none⟩ = some (.int .i64 0) := cell_of b02.out 1
  have e2 : W3.cell? ⟨q, 0, none⟩ = some (.slice none 0 0) := cell_of b22.out 0
  have f2 : W3.frozen? ⟨q, 0, none⟩ = false := free_of b22.out 0
  have d0 : W3.drew.cell? ⟨w.heap.size, 0, none⟩ = some (.pointer (some ⟨q, 0, none⟩)) := e0
  have d2 : W3.drew.cell? ⟨q, 0, none⟩ = some (.slice none 0 0) := e2
  have NP : Hid (w.heap.size ≠ q ∧ w.heap.size + 1 ≠ q ∧ w.heap.size ≤ q) := hid (by omega)
  clear hq1 hq T1h T2 TA BB BC
  go_cut [] (fun wx => ∃ y3 c3, Hid (NMid w wx q more y3 c3))
  case first =>
    go_region_law (refine step_append_tx0 rfl (.tmp 31) (.tmp 32) rfl c x more (by simp [Act.eval]) (by simp [Act.eval]) (hxh.out.r.touch T3.out.drew) hxh.out.no (by omega) ?_
                   intro y3 c3 w3 hG3 hgr3 hfrom3
                   have b23 : w3.heap[q]? = some (.cells #[.slice none 0 0] tLPool (0, 0)) := touch_other hgr3 b22.out (by simp)
                   have b03 : Hid (w3.heap[w.heap.size]? = some (.cells #[.pointer (some ⟨q, 0, none⟩), .int .i64 0] 28 (0, 0))) := hid (touch_other hgr3 b02.out (by simp))
                   have b13 : Hid (w3.heap[w.heap.size + 1]? = some (.cells #[.pointer none, .int .i64 0] 28 (0, 0))) := hid (touch_other hgr3 b12.out (by simp))
                   have q2 : w3.cell? ⟨q, 0, none⟩ = some (.slice none 0 0) := cell_of b23 0
                   have z2 : w3.frozen? ⟨q, 0, none⟩ = false := free_of b23 0
                   have q0 : w3.cell? ⟨w.heap.size, 0, none⟩ = some (.pointer (some ⟨q, 0, none⟩)) := cell_of b03.out 0
                   have q1 : w3.cell? ⟨w.heap.size, 1, none⟩ = some (.int .i64 0) := cell_of b03.out 1
                   have B23 := hid b23
                   have G3 := hid hG3
                   have GR3 := hid hgr3
                   have FR3 := hid hfrom3
                   clear b23 hG3 hgr3 hfrom3)
    all_goals
      go_wp2_with fail
      go_meet
      refine ⟨y3, c3, hid ⟨heap_set B23.out _, (heap_set_other _ NP.out.1).trans b03.out, (heap_set_other _ NP.out.2.1).trans b13.out, ((T3.out.drew).trans GR3.out (by simp)).setCell (.inr NP.out.2.2) _, ?_, fun g hg => ?_⟩⟩
      · exact own_touch G3.out ((Touch.refl [q] w3).setCell (.inl (by simp)) _) (fun k hk hp2 => by
          obtain rfl : k = q := by simpa using hp2
          have h1 := FR3.out k hk
          have := lt_of_block b22.out
          simp at h1
          omega)
      · exact Nat.le_trans T3.out.size (FR3.out g hg)
  case rest =>
    obtain ⟨y3, c3, M⟩ := hcut
    have s0 : wc.cell? ⟨w.heap.size, 0, none⟩ = some (.pointer (some ⟨q, 0, none⟩)) := cell_of M.out.box 0
    have s1 : wc.cell? ⟨w.heap.size, 1, none⟩ = some (.int .i64 0) := cell_of M.out.box 1
    have s2 : wc.cell? ⟨q, 0, none⟩ = some (.slice y3 more.length c3) := cell_of M.out.pool 0
    have z1 : wc.frozen? ⟨w.heap.size, 1, none⟩ = false := free_of M.out.box 1
    have v0 : wc.cell? ⟨w.heap.size + 1, 0, none⟩ = some (.pointer none) := cell_of M.out.res 0
    have v1 : wc.cell? ⟨w.heap.size + 1, 1, none⟩ = some (.int .i64 0) := cell_of M.out.res 1
    have y0 : wc.frozen? ⟨w.heap.size + 1, 0, none⟩ = false := free_of M.out.res 0
    have y1 : wc.frozen? ⟨w.heap.size + 1, 1, none⟩ = false := free_of M.out.res 1
    clear e0 e1 e2 f2 d0 d2
    go_wp2
    obtain ⟨W5, hW5⟩ : ∃ W5, W5 = (((wc.setCell ⟨w.heap.size, 1, none⟩ (.int .i64 (more.length : Int))).setCell ⟨w.heap.size + 1, 0, none⟩ (.pointer (some ⟨q, 0, none⟩))).setCell ⟨w.heap.size + 1, 1, none⟩ (.int .i64 (more.length : Int))) := ⟨_, rfl⟩
    have t5 : Touch [w.heap.size, w.heap.size + 1] wc W5 := by rw [hW5]; exact (((Touch.refl _ _).setCell (.inl (by simp)) _).setCell (.inl (by simp)) _).setCell (.inl (by simp)) _
    have e5 : W5.heap[w.heap.size + 1]? = some (.cells #[.pointer (some ⟨q, 0, none⟩), .int .i64 (more.length : Int)] 28 (0, 0)) := by
      rw [hW5]
      exact heap_set (heap_set ((heap_set_other _ (by simp)).trans M.out.res) _) _
    rw [← hW5]
    have r0 : W5.cell? ⟨w.heap.size + 1, 0, none⟩ = some (.pointer (some ⟨q, 0, none⟩)) := cell_of e5 0
    have r1 : W5.cell? ⟨w.heap.size + 1, 1, none⟩ = some (.int .i64 (more.length : Int)) := cell_of e5 1
    refine bodyPost_ret (v := .agg #[.pointer (some ⟨q, 0, none⟩), .int .i64 (more.length : Int)]) (by simp [results, Tryz.results67, go_sem, r0, r1]) rfl ?_
    have hrow : W5.ownsRow 0 tStg 1 (.slice y3 more.length c3) more.length (txtVals more) := by
      refine own_touch M.out.row t5 fun k hk hm => ?_
      have : k = w.heap.size ∨ k = w.heap.size + 1 := by simpa using hm
      rcases row_type M.out.row (ts := [tStg]) (by simp) k hk with ⟨cs, ty, fz, hb, hty⟩
      obtain rfl : ty = tStg := by simpa using hty
      rcases this with rfl | rfl
      · exact ne_type hb M.out.box (by decide) rfl
      · exact ne_type hb M.out.res (by decide) rfl
    refine ⟨.pointer (some ⟨q, 0, none⟩), q :: (Value.slice y3 more.length c3).ownBlock.toList, rfl, .inr ⟨q, _, rfl, ?_, hrow, rfl⟩, ?_, ?_⟩
    · exact (t5.block q (lt_of_block M.out.pool) (by have := NP.out; simp; omega)).trans M.out.pool
    · intro i hi
      rcases List.mem_cons.1 hi with rfl | hi
      · exact .inr NP.out.2.2
      · exact .inr (M.out.from_ i hi)
    · exact M.out.t.trans t5 (by intro i hi; right; have : i = w.heap.size ∨ i = w.heap.size + 1 := by simpa using hi
                                 omega)
/-- with, whatever the list. -/
theorem lwith_any {w : World} {lv : Value} {l more : List ByteArray} {own : List Nat} {x : Option Addr} {c n m : Nat} {P : List Nat} (h : LstAt w lv l own) (hn : l.length = n) (hn2 : n ≤ 100000) (hx : RowS w x c more P) (hm : more.length = m) (hm2 : m ≤ 100000) :
    Calls Tryz.prog 67 #[.agg #[lv, .int .i64 n], .slice x m c] w (ListRet w own (l ++ more)) := by
  subst hn hm
  rcases h with ⟨rfl, rfl, rfl⟩ | ⟨p, v, rfl, h2, h3, rfl⟩
  · exact lwith_none hx hm2
  · exact lwith_some h2 h3 hn2 hx hm2
end Go.Proofs.YtjjocnkockeacaaGreatDoor
