/- codec.In: 'Text'; codec.Out: 'Done', 'Len'; codec.Digits. Plain facts on the bytes that are put and read: no walk. What the functions of chapter 1 that handle a float64's bits return: codec's and the laws' own answer's. The laws' own writer, told by the same states as codec's. What the laws' own reader returns and leaves, told by the same states as codec's. -/
import Derived.Test.YtjjocnkockeacaaGreatDoorIn
import Derived.Test.YtjjocnkockeacaaGreatDoorZj
import Derived.Test.YtjjocnkockeacaaGreatDoorShelf
import Derived.Deep.CutBlock
namespace Go.Proofs.YtjjocnkockeacaaGreatDoor
set_option maxRecDepth 100000
open Go.RowKit Go.Lib

/-- Text(most). -/
def iText (st : List UInt8 × Int) (most : Int) : List UInt8 × (List UInt8 × Int) :=
  if (iTake st 4).2.2 = 0 ∧ most < (val (iTake st 4).1 : Int) then ([], ([], 2)) else iTake (iTake st 4).2 (val (iTake st 4).1)

/-! ### Out: Done, Len -/
/-- What Done tells. -/
def pDone (st : List UInt8 × Int) : Value := .tuple #[.string ⟨(if st.2 = 0 then st.1 else []).toArray⟩, .int .i64 st.2]

theorem done_st (o : Nat) (F : List Nat) (st : List UInt8 × Int) (w : World) (h : OutIs w o F st) :
    Calls Tryz.prog 90 #[.pointer (some ⟨o, 0, none⟩)] w fun e w' => e = .returned (pDone st) ∧ ∃ n, w.drewN n = w' := by
  obtain ⟨bs, er⟩ := st
  rcases h with ⟨h0, h⟩ | ⟨h, _⟩
  · obtain rfl : er = 0 := h0
    have hd : pDone (bs, 0) = .tuple #[.string ⟨bs.toArray⟩, .int .i64 0] := by simp [pDone]
    rw [hd]
    rcases h with ⟨h, hb, _⟩ | ⟨p, g, cap, h, hp, hg, _, _, _, _⟩
    · obtain rfl : bs = [] := hb
      have c2 : w.cell? ⟨o, 2, none⟩ = some (.int .i64 0) := cell_of h 2
      have C := hid (text_none o w h)
      clear h
      go_enter Tryz.func90, Tryz.ntmps90
      go_wp2_with (go_at_call 118; refine C.out.mono ?_; rintro e w1 ⟨rfl, rfl⟩)
      go_ret2
      exact ⟨rfl, 0, rfl⟩
    · have c2 : w.cell? ⟨o, 2, none⟩ = some (.int .i64 0) := cell_of h 2
      have C := hid (text_some o p g cap bs _ w h hp hg)
      clear h hp hg
      go_enter Tryz.func90, Tryz.ntmps90
      go_wp2_with (go_at_call 118; refine C.out.mono ?_; rintro e w1 ⟨rfl, n, rfl⟩)
      go_ret2
      exact ⟨rfl, n, rfl⟩
  · obtain ⟨he, pv, u, h⟩ := h
    have c2 : w.cell? ⟨o, 2, none⟩ = some (.int .i64 er) := cell_of h 2
    have hd : pDone (bs, er) = .tuple #[.string ⟨#[]⟩, .int .i64 er] := by simp only [pDone]; rw [if_neg he]
    rw [hd]
    have hb2 : (er != 0) = true := by simpa using he
    clear h he hd
    go_enter Tryz.func90, Tryz.ntmps90
    go_wp2
    go_quiet (fail)
    go_wp2
    go_ret2
    exact ⟨rfl, _, rfl⟩
theorem done_nil (w : World) :
    Calls Tryz.prog 90 #[.pointer none] w fun e w' => e = .returned (.tuple #[.string ⟨#[]⟩, .int .i64 1]) ∧ w = w' := by
  go_enter Tryz.func90, Tryz.ntmps90
  go_wp2
  go_ret2
  exact ⟨rfl, rfl⟩
/-! ### Digits -/
end Go.Proofs.YtjjocnkockeacaaGreatDoor

namespace Go.Proofs.YtjjocnkockeacaaGreatDoor
set_option maxRecDepth 100000
open Go.RowKit Go.Lib

theorem be_succ (n v : Nat) : be (n + 1) v = be n (v / 256) ++ [UInt8.ofNat v] := by
  unfold be
  rw [List.range_succ, List.map_append, List.map_singleton]
  congr 1
  · apply List.map_congr_left
    intro k hk
    rw [List.mem_range] at hk
    rw [show n + 1 - 1 - k = (n - 1 - k) + 1 by omega, Nat.mul_add, Nat.pow_add, Nat.mul_comm (2 ^ (8 * (n - 1 - k))), ← Nat.div_div_eq_div_mul]
  · simp

theorem val_be : ∀ n v : Nat, val (be n v) = v % 256 ^ n
  | 0, v => by simp [be, val, Nat.mod_one]
  | n + 1, v => by
    have e : 256 ^ (n + 1) = 256 * 256 ^ n := by rw [Nat.pow_succ, Nat.mul_comm]
    rw [be_succ, val_snoc, val_be n (v / 256), UInt8.toNat_ofNat', e, Nat.mod_mul]
    omega

theorem be_val : ∀ l : List UInt8, be l.length (val l) = l := by
  intro l
  suffices h : ∀ (n : Nat) (l : List UInt8), l.length = n → be n (val l) = l from h _ l rfl
  intro n
  induction n with
  | zero => intro l hl; rw [List.eq_nil_of_length_eq_zero hl]; simp [be]
  | succ n ih =>
    intro l hl
    have hne : l ≠ [] := by intro e; subst e; simp at hl
    have hd := List.dropLast_concat_getLast hne
    have hlen : l.dropLast.length = n := by rw [List.length_dropLast]; omega
    have hv : val l = val l.dropLast * 256 + (l.getLast hne).toNat := by
      have := val_snoc l.dropLast (l.getLast hne)
      rw [hd] at this
      exact this
    have hc := (l.getLast hne).toNat_lt
    rw [be_succ, hv, show (val l.dropLast * 256 + (l.getLast hne).toNat) / 256 = val l.dropLast by omega, ih _ hlen]
    conv => rhs; rw [← hd]
    congr 2
    apply UInt8.toNat_inj.1
    rw [UInt8.toNat_ofNat']
    omega

/-- A text that is put into a new one. -/
theorem text_new (l : List UInt8) (h : l.length ≤ 65536) : pText ([], 0) l = (be 4 l.length ++ l, 0) := by
  unfold pText
  rw [if_neg (by omega)]
  simp [pPut]

theorem iTake_bad (st : List UInt8 × Int) (n : Nat) (h : st.2 ≠ 0) : iTake st n = ([], st) := by unfold iTake; rw [if_pos h]
theorem iTake_short (r : List UInt8) (n : Nat) (h : r.length < n) : iTake (r, 0) n = ([], ([], 5)) := by simp [iTake, h]
theorem iTake_good (r : List UInt8) (n : Nat) (h : n ≤ r.length) : iTake (r, 0) n = (r.take n, (r.drop n, 0)) := by simp [iTake]; omega

/-- A text of which something is cut off. -/
theorem text_cut (l : List UInt8) (cut : Nat) (h : l.length ≤ 1000) (hc : cut < l.length + 4) (most : Int) (hm : (l.length : Int) ≤ most) : iText ((be 4 l.length ++ l).take cut, 0) most = ([], ([], 5)) := by
  have hb := be_length 4 l.length
  have hlen : ((be 4 l.length ++ l).take cut).length = cut := by rw [List.length_take, List.length_append, hb]; omega
  by_cases h4 : cut < 4
  · unfold iText
    rw [iTake_short _ 4 (by omega)]
    simp [iTake]
  · have ht : ((be 4 l.length ++ l).take cut).take 4 = be 4 l.length := by
      rw [List.take_take, Nat.min_eq_left (by omega), List.take_append_of_le_length (by omega), List.take_of_length_le (by omega)]
    unfold iText
    rw [iTake_good _ 4 (by omega), ht]
    simp only []
    rw [val_be, Nat.mod_eq_of_lt (by omega), if_neg (by omega), iTake_short _ _ (by rw [List.length_drop]; omega)]
end Go.Proofs.YtjjocnkockeacaaGreatDoor

namespace Go.Proofs.YtjjocnkockeacaaGreatDoor
set_option maxRecDepth 100000
open Go.RowKit Go.Lib

def nanBits : Nat := 9221120237041090560
/-- Are these the bits of a NaN? -/
def nanB (b : Nat) : Bool := FloatKind.f64.format.order b b != some .eq
/-- The one NaN for each. -/
def canon (b : Nat) : Nat := if nanB b = true then nanBits else b
theorem canon_nan {b : Nat} (h : nanB b = true) : canon b = nanBits := by unfold canon; rw [if_pos h]
theorem canon_num {b : Nat} (h : nanB b = false) : canon b = b := by unfold canon; rw [if_neg (by rw [h]; decide)]
theorem nanB_nan : nanB nanBits = true := by decide +kernel
theorem canon_canon (b : Nat) : canon (canon b) = canon b := by
  by_cases h : nanB b = true
  · rw [canon_nan h, canon_nan nanB_nan]
  · have h2 : nanB b = false := by simpa using h
    rw [canon_num h2, canon_num h2]
theorem canon_zero : canon 0 = 0 := canon_num (by decide +kernel)
theorem canon_lt {b : Nat} (h : b < 18446744073709551616) : canon b < 18446744073709551616 := by
  unfold canon
  split
  · unfold nanBits; omega
  · exact h

/-- I64: any int in eight bytes, a negative one as its complement. -/
def wordOf (v : Int) : Nat := (v % 18446744073709551616).toNat
theorem wordOf_eq (v : Int) : IntKind.u64.wrap v = ((wordOf v : Nat) : Int) := by rw [IntKind.wrap_u64]; unfold wordOf; omega
theorem i64_st (o : Nat) (F : List Nat) (st : List UInt8 × Int) (v : Int) (w : World) (h : OutIs w o F st) (hb : st.1.length + 8 ≤ 140737488355328) :
    Calls Tryz.prog 89 #[.pointer (some ⟨o, 0, none⟩), .int .i64 v] w fun e w' => e = .returned (.pointer (some ⟨o, 0, none⟩)) ∧ StPost o F (pPut st (be 8 (wordOf v))) w w' := by
  have C := hid (number_st o F st 8 (wordOf v) w h (by omega) (by decide) (by decide))
  rw [← wordOf_eq] at C
  clear h
  go_enter Tryz.func89, Tryz.ntmps89
  go_wp2_with (go_at_call 117; refine C.out.mono ?_; rintro e w' ⟨rfl, hp⟩)
  go_ret
  exact ⟨rfl, hp⟩
theorem i64_nil (v : Int) (w : World) :
    Calls Tryz.prog 89 #[.pointer none, .int .i64 v] w fun e w' => e = .returned (.pointer none) ∧ Touch [] w w' := by
  have C := hid (number_nil 8 (wordOf v) w (by decide) (by decide))
  rw [← wordOf_eq] at C
  go_enter Tryz.func89, Tryz.ntmps89
  go_wp2_with (go_at_call 117; refine C.out.mono ?_; rintro e w' ⟨rfl, hp⟩)
  go_ret
  exact ⟨rfl, hp⟩

end Go.Proofs.YtjjocnkockeacaaGreatDoor

namespace Go.Proofs.YtjjocnkockeacaaGreatDoor
set_option maxRecDepth 100000
open Go.RowKit Go.Lib

def byteCells (l : List UInt8) : List Value := l.map fun b => Value.int .u8 b.toNat

theorem ownsRow_same {w w' : World} {v : Value} {n : Nat} {xs : List Value} (h : w.ownsRow 0 tByte 1 v n xs) (hb : ∀ g, v.ownBlock = some g → w'.heap[g]? = w.heap[g]?) : w'.ownsRow 0 tByte 1 v n xs := by
  obtain ⟨h1, h2 | ⟨g, cap, cur, hv, h3, h4, h5⟩⟩ := h
  · exact ⟨h1, .inl h2⟩
  · refine ⟨h1, .inr ⟨g, cap, cur, hv, h3, (hb g ?_).trans h4, h5⟩⟩
    rw [hv]; rfl
theorem ownsRow_lt {w : World} {v : Value} {n : Nat} {xs : List Value} (h : w.ownsRow 0 tByte 1 v n xs) : ∀ g, v.ownBlock = some g → g < w.heap.size := by
  intro g hg
  obtain ⟨_, ⟨rfl, _⟩ | ⟨g', cap, cur, rfl, _, h4, _⟩⟩ := h
  · simp [Value.ownBlock] at hg
  · simp [Value.ownBlock] at hg
    subst hg
    exact lt_of_block h4
theorem byte_append (st : List UInt8) (c : UInt8) : byteCells (st ++ [c]) = byteCells st ++ [.int .u8 c.toNat] := by simp [byteCells]
theorem byteCells_len (l : List UInt8) : (byteCells l).length = l.length := by simp [byteCells]

theorem be_take (n v k : Nat) (h : k < n) : (be n v).take (k + 1) = (be n v).take k ++ [UInt8.ofNat (v / 2 ^ (8 * (n - 1 - k)))] := by
  rw [List.take_succ_eq_append_getElem (by rw [be_length]; exact h)]
  simp [be]

end Go.Proofs.YtjjocnkockeacaaGreatDoor

namespace Go.Proofs.YtjjocnkockeacaaGreatDoor
set_option maxRecDepth 100000
open Go.RowKit Go.Lib

theorem val_step2 (V c : Nat) (hV : V < 72057594037927936) (hc : c < 256) : IntKind.u64.wrap (IntKind.u64.wrap ((V : Int) * 256) + IntKind.u64.wrap (c : Int)) = ((V * 256 + c : Nat) : Int) := by
  simp only [IntKind.wrap_u64]; omega

theorem iTake_err (st : List UInt8 × Int) (n : Nat) (h : (iTake st n).2.2 ≠ 0) : (iTake st n).1 = [] := by
  unfold iTake at *
  split
  · rfl
  · rename_i h1
    split
    · rfl
    · rename_i h2
      rw [if_neg h1, if_neg h2] at h
      exact absurd rfl h

end Go.Proofs.YtjjocnkockeacaaGreatDoor
