/- 'alive' of the laws of chapter 2: it returns true. -/
import Derived.Test.YtfmaeaaaiagcbaaChkc
namespace Go.Proofs.Ytfmaeaaaiagcbaa
open Go.RowKit Go.Lib

theorem texts_two (w : World) (a b : ByteArray) (ha : a.size ≤ maxLen) (hb : b.size ≤ maxLen) : TextsAt (w.alloc (.cells #[.string a, .string b] 9)) w.heap.size 0 [a, b] := by
  intro i h
  have hh := heap_alloc_new w (.cells #[.string a, .string b] 9)
  rw [Nat.zero_add, cell_of hh i]
  match i, h with
  | 0, _ => exact ⟨rfl, ha⟩
  | 1, _ => exact ⟨rfl, hb⟩
  | k + 2, hk => simp at hk; omega

def abc : ByteArray := ⟨#[97, 98, 99]⟩
theorem bytes_ext {a b : ByteArray} (h : a.data.toList = b.data.toList) : a = b := ByteArray.ext (Array.ext' h)
theorem sealed_head (s : ByteArray) : (sealed s).extract 0 4 = ⟨(four (crc s.data.toList)).toArray⟩ := by
  apply bytes_ext
  rw [extract_data, sealed_list]
  exact List.take_left' (four_length _)
theorem sealed_tail (s : ByteArray) : (sealed s).extract 4 (sealed s).size = s := by
  apply bytes_ext
  rw [extract_data, sealed_list, sealed_size]
  rw [List.drop_left' (four_length _), List.take_of_length_le (by rw [list_len]; omega)]
/-- What was sealed is opened. -/
theorem open_sealed (s : ByteArray) : openOf ((sealed s).extract 0 4) ((sealed s).extract 4 (sealed s).size) = .tuple #[.string s, .int .i64 0] := by
  rw [sealed_head, sealed_tail]
  unfold openOf
  rw [if_pos rfl]
theorem crc_nine : crc (cat [⟨#[49, 50, 51, 52]⟩, ⟨#[53, 54, 55, 56, 57]⟩]) = 3421780262 := by decide +kernel

set_option maxHeartbeats 1000000 in
theorem alive_true (w : World) :
    Calls Try.prog 8 #[] w fun e w' => e = .returned (.bool true) ∧ Touch [] w w' := by
  have C := hid (seal_any abc w (by decide))
  have D := hid fun (w1 : World) => open_long (sealed abc) w1 (by rw [sealed_size]; decide) (by rw [sealed_size]; decide)
  rw [open_sealed] at D
  have E := hid fun (w1 : World) => sum_some w1.heap.size 0 2 [⟨#[49, 50, 51, 52]⟩, ⟨#[53, 54, 55, 56, 57]⟩] (w1.alloc (.cells #[.string ⟨#[49, 50, 51, 52]⟩, .string ⟨#[53, 54, 55, 56, 57]⟩] 9)) (by decide) (texts_two w1 _ _ (by decide) (by decide))
  rw [crc_nine] at E
  unfold abc at *
  go_enter Try.func8, Try.ntmps8
  go_wp2_with (first | (go_at_call 14; refine C.out.mono ?_; rintro e w1 ⟨rfl, h1⟩) | (go_at_call 10; refine (D.out _).mono ?_; rintro e w2 ⟨rfl, h2⟩) | (go_at_call 12; refine (E.out _).mono ?_; rintro e w3 ⟨rfl, h3⟩))
  go_ret
  exact ⟨rfl, ((h1.trans h2 (by simp)).alloc _).trans h3 (by simp)⟩
end Go.Proofs.Ytfmaeaaaiagcbaa
