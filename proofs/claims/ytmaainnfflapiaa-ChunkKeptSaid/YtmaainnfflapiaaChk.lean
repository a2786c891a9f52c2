/- What the functions of package check, and of the laws' own answer to it, return. -/
import Derived.Test.YtmaainnfflapiaaCrc
import Derived.Test.YtmaainnfflapiaaLists
namespace Go.Proofs.Ytmaainnfflapiaa
set_option maxRecDepth 100000
open Go.RowKit Go.Lib

abbrev tB : TypeId := 5

/-- '[]byte(s)' at this world, its world under a name. -/
theorem conv_name (s : ByteArray) (w : World) : ∃ (W : World) (cp : Nat), Hid (W = bytesWorld w tB s ∧ cp = grownCap w s.size 0 tB) ∧
    (convert 9 52 (.string s)).run Try.prog w = .ok (.slice (some ⟨w.heap.size, 0, none⟩) s.size cp) W :=
  ⟨_, _, ⟨rfl, rfl⟩, Go.Lib.run_convert_string_bytes (P := Try.prog) w 9 52 tB s rfl rfl rfl⟩

theorem take_getD (s : ByteArray) (k : Nat) (h : k < s.size) : s.data.toList.take (k + 1) = s.data.toList.take k ++ [s.data.toList.getD k 0] := by
  have h2 : k < s.data.toList.length := by rw [list_len]; exact h
  rw [List.take_succ_eq_append_getElem h2, List.getD_eq_getElem?_getD, List.getElem?_eq_getElem h2]
  rfl

set_option maxHeartbeats 1000000 in
theorem add_any (x : BitVec 32) (s : ByteArray) (w : World) (hs : s.size ≤ maxLen) :
    Calls Try.prog 94 #[.int .u32 (x.toNat : Int), .string s] w fun e w' => e = .returned (.int .u32 ((eats x s.data.toList).toNat : Int)) ∧ Touch [] w w' := by
  unfold maxLen at hs
  obtain ⟨W, cp, HW, hconv⟩ := conv_name s w
  have HC : Hid (∀ j (h : j < s.size), W.cell? ⟨w.heap.size, j, none⟩ = some (.int .u8 ((s.data.toList.getD j 0).toNat : Int))) := fun j h => by rw [HW.out.1]; exact bytesWorld_cell w tB s j h
  have HT : Hid (Touch [] w W) := by rw [HW.out.1]; exact touch_bytes w tB s
  go_enter Try.func94, Try.ntmps94
  go_wp2
  go_loop [0, 11] (fun xv iv => ∃ k : Nat, k ≤ s.size ∧ iv = .int .i64 k ∧ xv = .int .u32 ((eats x (s.data.toList.take k)).toNat : Int)) (fun _ iv => s.size - (RowKit.intOf iv).toNat)
  case atStart => exact ⟨0, Nat.zero_le _, rfl, rfl⟩
  case round =>
    obtain ⟨k, hk, rfl, rfl⟩ := hrel
    by_cases hlt : k < s.size
    · have hc := HC.out k hlt
      have hsn := take_getD s k hlt
      generalize s.data.toList.getD k 0 = c at *
      have hn : Hid (eats x (s.data.toList.take (k + 1)) = ticks 8 (eats x (s.data.toList.take k) ^^^ BitVec.ofNat 32 c.toNat)) := by rw [hsn, eats_snoc]; rfl
      clear hsn
      generalize eats x (s.data.toList.take k) = y at *
      have hb := c.toNat_lt
      have hbI : (c.toNat : Int) ≤ 255 := by omega
      have hx := xor_byte y c
      generalize y ^^^ BitVec.ofNat 32 c.toNat = z at *
      go_wp2
      clear hx hc
      go_loop [0, 19] (fun xv jv => ∃ j : Nat, j ≤ 8 ∧ jv = .int .i64 j ∧ xv = .int .u32 ((ticks j z).toNat : Int)) (fun _ jv => 8 - (RowKit.intOf jv).toNat)
      case atStart => exact ⟨0, Nat.zero_le _, rfl, rfl⟩
      case round =>
        obtain ⟨j, hj, rfl, rfl⟩ := hrel
        by_cases hj8 : j < 8
        · have hjI : (j : Int) < 8 := by omega
          have ht := hid (tick_go (ticks j z))
          go_wp2
          go_round
          case rel => exact ⟨j + 1, by omega, by go_num, by rw [ht.out]; rfl⟩
          case measure => simp [RowKit.intOf]; omega
        · have h8 : j = 8 := by omega
          subst h8
          go_wp2
          go_round
          case rel => exact ⟨k + 1, by omega, by go_num, by rw [hn.out]⟩
          case measure => simp [RowKit.intOf]; omega
    · have he : s.data.toList.take k = s.data.toList := List.take_of_length_le (by rw [list_len]; omega)
      rw [he]
      clear he
      go_wp2
      go_ret
      exact ⟨rfl, HT.out⟩


set_option maxHeartbeats 1000000 in
theorem sum_x (x : Option Addr) (cap : Nat) (l : List ByteArray) (w : World) (hlen : l.length ≤ 9223372036854775807) (hc : TextsX w x l) :
    Calls Try.prog 84 #[.slice x l.length cap] w fun e w' => e = .returned (.int .u32 (crc (cat l) : Int)) ∧ Touch [] w w' := by
  have HC := hid hc; clear hc
  have Hlen := hid hlen; clear hlen
  go_enter Try.func84, Try.ntmps84
  go_wp2
  go_loopw [3, 8] (fun xv iv wr => ∃ k : Nat, k ≤ l.length ∧ iv = .int .i64 k ∧ xv = .int .u32 ((eats ones (cat (l.take k))).toNat : Int) ∧ Touch [] w wr) (fun _ iv _ => l.length - (RowKit.intOf iv).toNat)
  case atStart => exact ⟨0, Nat.zero_le _, rfl, rfl, Touch.refl _ _⟩
  case round =>
    obtain ⟨k, hk, rfl, rfl, ht⟩ := hrel
    have hl := Hlen.out
    by_cases hlt : k < l.length
    · obtain ⟨b, off, rfl, g1, g2⟩ := HC.out k hlt
      have g3 := ht.cell g1
      have hsn : l.take (k + 1) = l.take k ++ [l[k]] := List.take_succ_eq_append_getElem hlt
      generalize l[k] = s at *
      have hn : Hid (eats ones (cat (l.take (k + 1))) = eats (eats ones (cat (l.take k))) s.data.toList) := by rw [hsn, cat_snoc, eats_append]; rfl
      have C := hid (add_any (eats ones (cat (l.take k))) s wr g2)
      have HT := hid ht
      generalize eats ones (cat (l.take k)) = y at *
      have hl2 : decide (k < l.length) = true := by simpa using hlt
      clear g1 hsn ht g2
      go_wp2_with (go_at_call 94; refine C.out.mono ?_; rintro e w1 ⟨rfl, h1⟩)
      go_roundw
      case rel => exact ⟨k + 1, by omega, by go_num, by rw [hn.out], HT.out.trans h1 (by simp)⟩
      case measure => simp [RowKit.intOf]; omega
    · have he : l.take k = l := List.take_of_length_le (by omega)
      rw [he]
      have HT := hid ht
      have hl2 : decide (k < l.length) = false := by simpa using hlt
      have hz := hid (end_go (eats ones (cat l)))
      clear he ht hl
      go_wp2
      go_ret
      exact ⟨by rw [hz.out]; rfl, HT.out⟩

theorem sum_some (b off cap : Nat) (l : List ByteArray) (w : World) (hlen : l.length ≤ 9223372036854775807) (hc : TextsAt w b off l) :
    Calls Try.prog 84 #[.slice (some ⟨b, off, none⟩) l.length cap] w fun e w' => e = .returned (.int .u32 (crc (cat l) : Int)) ∧ Touch [] w w' :=
  sum_x _ cap l w hlen fun i hi => ⟨b, off, rfl, hc i hi⟩
theorem sum_none (x : Option Addr) (cap : Nat) (w : World) :
    Calls Try.prog 84 #[.slice x 0 cap] w fun e w' => e = .returned (.int .u32 (crc [] : Int)) ∧ Touch [] w w' :=
  sum_x x cap [] w (by decide) fun i hi => absurd hi (Nat.not_lt_zero i)
end Go.Proofs.Ytmaainnfflapiaa
