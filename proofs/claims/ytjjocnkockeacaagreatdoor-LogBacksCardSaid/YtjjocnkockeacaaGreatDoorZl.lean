/- The sum of chapter 2 as plain mathematics: words of 32 bits, one bit after the other; no walk. What the functions of package check, and of the laws' own answer to it, return. check's Seal and Open, and the laws' own. -/
import Derived.Test.YtjjocnkockeacaaGreatDoorBase
import Derived.Test.YtjjocnkockeacaaGreatDoorZb
import Derived.Deep.RegionHeld3
namespace Go.Proofs.YtjjocnkockeacaaGreatDoor
set_option maxRecDepth 100000
open Go.RowKit Go.Lib

def polyB : BitVec 32 := 3988292384#32
/-- One bit of one byte. -/
def tick (x : BitVec 32) : BitVec 32 := if x.getLsbD 0 = true then (x >>> 1) ^^^ polyB else x >>> 1
def ticks : Nat → BitVec 32 → BitVec 32
  | 0, x => x
  | n + 1, x => tick (ticks n x)
/-- One byte. -/
def eat (x : BitVec 32) (c : UInt8) : BitVec 32 := ticks 8 (x ^^^ BitVec.ofNat 32 c.toNat)
def eats (x : BitVec 32) (l : List UInt8) : BitVec 32 := l.foldl eat x
def ones : BitVec 32 := 4294967295#32
def crc (l : List UInt8) : Nat := (eats ones l ^^^ ones).toNat

theorem eats_append (x : BitVec 32) (a b : List UInt8) : eats x (a ++ b) = eats (eats x a) b := by simp [eats]
theorem eats_snoc (x : BitVec 32) (a : List UInt8) (c : UInt8) : eats x (a ++ [c]) = eat (eats x a) c := by simp [eats]
theorem eats_nil (x : BitVec 32) : eats x [] = x := rfl
theorem crc_lt (l : List UInt8) : crc l < 4294967296 := (eats ones l ^^^ ones).isLt

theorem tick_top (x : BitVec 32) : (tick x).getLsbD 31 = x.getLsbD 0 := by
  unfold tick
  have hp : polyB.getLsbD 31 = true := by decide
  split
  · rename_i h
    rw [h, BitVec.getLsbD_xor, hp, BitVec.getLsbD_ushiftRight, BitVec.getLsbD_of_ge _ _ (by omega)]
    rfl
  · rename_i h
    rw [BitVec.getLsbD_ushiftRight, BitVec.getLsbD_of_ge _ _ (by omega)]
    simpa using h

theorem tick_inj {x y : BitVec 32} (h : tick x = tick y) : x = y := by
  have h0 : x.getLsbD 0 = y.getLsbD 0 := by rw [← tick_top x, ← tick_top y, h]
  have h1 : x >>> 1 = y >>> 1 := by
    unfold tick at h
    rw [h0] at h
    split at h
    · exact (BitVec.xor_left_inj polyB).1 h
    · exact h
  apply BitVec.eq_of_getLsbD_eq
  intro i hi
  rcases i with _ | i
  · exact h0
  · have := congrArg (fun z : BitVec 32 => z.getLsbD i) h1
    simp only [BitVec.getLsbD_ushiftRight] at this
    rwa [Nat.add_comm] at this

theorem ticks_inj : ∀ (n : Nat) {x y : BitVec 32}, ticks n x = ticks n y → x = y
  | 0, _, _, h => h
  | n + 1, _, _, h => ticks_inj n (tick_inj h)

theorem eat_inj_left {x y : BitVec 32} {c : UInt8} (h : eat x c = eat y c) : x = y := (BitVec.xor_left_inj _).1 (ticks_inj 8 h)
theorem eat_inj_right {x : BitVec 32} {c d : UInt8} (h : eat x c = eat x d) : c = d := by
  have h1 := (BitVec.xor_right_inj _).1 (ticks_inj 8 h)
  have h2 := congrArg BitVec.toNat h1
  have hc := c.toNat_lt
  have hd := d.toNat_lt
  rw [BitVec.toNat_ofNat, BitVec.toNat_ofNat, Nat.mod_eq_of_lt (by omega), Nat.mod_eq_of_lt (by omega)] at h2
  exact UInt8.toNat_inj.1 h2
theorem eats_inj : ∀ (l : List UInt8) {x y : BitVec 32}, eats x l = eats y l → x = y
  | [], _, _, h => h
  | c :: l, _, _, h => eat_inj_left (eats_inj l (by simpa [eats] using h))

theorem crc_of_eats {a b : List UInt8} (h : crc a = crc b) : eats ones a = eats ones b := (BitVec.xor_left_inj _).1 (BitVec.eq_of_toNat_eq h)
/-- One byte that is changed is told. -/
theorem crc_changed (a b : List UInt8) (c d : UInt8) (h : crc (a ++ c :: b) = crc (a ++ d :: b)) : c = d := by
  have h1 := crc_of_eats h
  rw [eats_append, eats_append] at h1
  exact eat_inj_right (eats_inj b (by simpa [eats] using h1))

/-! What Go's words of 32 bits come to. -/
theorem ofInt_toNat (x : BitVec 32) : BitVec.ofInt IntKind.u32.bits (x.toNat : Int) = x := by
  show BitVec.ofInt 32 (x.toNat : Int) = x
  simp
theorem bits_xor_bv (x y : BitVec 32) : bits .xor .u32 (x.toNat : Int) (y.toNat : Int) = ((x ^^^ y).toNat : Int) := by
  have hb : (x ^^^ y).toNat < 4294967296 := (x ^^^ y).isLt
  unfold bits
  simp only []
  rw [ofInt_toNat, ofInt_toNat]
  show IntKind.u32.wrap (((x ^^^ y).toNat : Nat) : Int) = _
  generalize (x ^^^ y).toNat = z at hb
  exact IntWalk.u32_in _ (by omega)
theorem bits_and_one (x : BitVec 32) : bits .and .u32 (x.toNat : Int) 1 = if x.getLsbD 0 = true then 1 else 0 := by
  have h1 : (x &&& 1#32) = if x.getLsbD 0 = true then 1#32 else 0#32 := by
    apply BitVec.eq_of_getLsbD_eq
    intro i hi
    rw [BitVec.getLsbD_and]
    rcases i with _ | i
    · cases x.getLsbD 0 <;> rfl
    · have e1 : (1#32).getLsbD (i + 1) = false := by simp [BitVec.getLsbD_one]
      rw [e1, Bool.and_false]
      split
      · exact e1.symm
      · simp
  have e : (1 : Int) = ((1#32 : BitVec 32).toNat : Int) := rfl
  unfold bits
  simp only []
  rw [ofInt_toNat]
  have e2 : BitVec.ofInt IntKind.u32.bits 1 = (1#32 : BitVec 32) := rfl
  rw [e2]
  show IntKind.u32.wrap (((x &&& 1#32).toNat : Nat) : Int) = _
  rw [h1]
  split <;> decide
theorem shift_bv (x : BitVec 32) : (x.toNat : Int) / (2 : Int) = ((x >>> 1).toNat : Int) := by
  rw [BitVec.toNat_ushiftRight, Nat.shiftRight_eq_div_pow]
  omega
theorem odd_bv (x : BitVec 32) : x.getLsbD 0 = decide (x.toNat % 2 = 1) := by
  rw [BitVec.getLsbD, Nat.testBit_zero]
theorem tick_even (x : BitVec 32) (h : x.toNat % 2 = 0) : tick x = x >>> 1 := by unfold tick; rw [odd_bv, if_neg (by simp; omega)]
theorem tick_odd (x : BitVec 32) (h : x.toNat % 2 = 1) : tick x = (x >>> 1) ^^^ polyB := by unfold tick; rw [odd_bv, if_pos (by simpa using h)]
theorem xor_ones (x : BitVec 32) : (x ^^^ ones).toNat = 4294967295 - x.toNat := by
  have h : ones = BitVec.allOnes 32 := rfl
  rw [h, BitVec.xor_allOnes, BitVec.toNat_not]
theorem xor_byte (x : BitVec 32) (c : UInt8) : bits .xor .u32 (x.toNat : Int) (c.toNat : Int) = ((x ^^^ BitVec.ofNat 32 c.toNat).toNat : Int) := by
  have hc := c.toNat_lt
  have h : ((BitVec.ofNat 32 c.toNat).toNat : Int) = (c.toNat : Int) := by rw [BitVec.toNat_ofNat, Nat.mod_eq_of_lt (by omega)]
  rw [← h]
  exact bits_xor_bv x _
theorem tick_go (x : BitVec 32) : bits .xor .u32 ((x.toNat : Int) / 2) (bits .and .u32 (x.toNat : Int) 1 * 3988292384 % 4294967296) = ((tick x).toNat : Int) := by
  rw [bits_and_one, shift_bv]
  unfold tick
  split
  · rw [show (1 * 3988292384 % 4294967296 : Int) = ((polyB.toNat : Nat) : Int) by decide, bits_xor_bv]
  · rw [show (0 * 3988292384 % 4294967296 : Int) = (((0#32 : BitVec 32).toNat : Nat) : Int) by decide, bits_xor_bv]
    simp
theorem tick_ref (x : BitVec 32) (h : x.toNat % 2 = 1) : bits .xor .u32 ((x.toNat : Int) / 2) 3988292384 = ((tick x).toNat : Int) := by
  rw [tick_odd x h, shift_bv]
  exact bits_xor_bv _ polyB
theorem tick_ref0 (x : BitVec 32) (h : x.toNat % 2 = 0) : (x.toNat : Int) / 2 = ((tick x).toNat : Int) := by
  rw [tick_even x h, shift_bv]
theorem end_go (x : BitVec 32) : bits .xor .u32 (x.toNat : Int) 4294967295 = ((x ^^^ ones).toNat : Int) := bits_xor_bv x ones
theorem end_ref (x : BitVec 32) : (4294967295 : Int) - (x.toNat : Int) = ((x ^^^ ones).toNat : Int) := by
  rw [xor_ones]
  have : x.toNat < 4294967296 := x.isLt
  omega
theorem polyB_nat : polyB.toNat = 3988292384 := rfl
theorem ones_nat : ones.toNat = 4294967295 := rfl
end Go.Proofs.YtjjocnkockeacaaGreatDoor

namespace Go.Proofs.YtjjocnkockeacaaGreatDoor
set_option maxRecDepth 100000
open Go.RowKit Go.Lib

abbrev tB : TypeId := 5

/-- '[]byte(s)' at this world, its world under a name. -/
theorem conv_name (s : ByteArray) (w : World) : ∃ (W : World) (cp : Nat), Hid (W = bytesWorld w tB s ∧ cp = grownCap w s.size 0 tB) ∧
    (convert 9 117 (.string s)).run Tryz.prog w = .ok (.slice (some ⟨w.heap.size, 0, none⟩) s.size cp) W :=
  ⟨_, _, ⟨rfl, rfl⟩, Go.Lib.run_convert_string_bytes (P := Tryz.prog) w 9 117 tB s rfl rfl rfl⟩

theorem take_getD (s : ByteArray) (k : Nat) (h : k < s.size) : s.data.toList.take (k + 1) = s.data.toList.take k ++ [s.data.toList.getD k 0] := by
  have h2 : k < s.data.toList.length := by rw [list_len]; exact h
  rw [List.take_succ_eq_append_getElem h2, List.getD_eq_getElem?_getD, List.getElem?_eq_getElem h2]
  rfl

set_option maxHeartbeats 1000000 in
theorem add_any (x : BitVec 32) (s : ByteArray) (w : World) (hs : s.size ≤ maxLen) :
    Calls Tryz.prog 163 #[.int .u32 (x.toNat : Int), .string s] w fun e w' => e = .returned (.int .u32 ((eats x s.data.toList).toNat : Int)) ∧ Touch [] w w' := by
  unfold maxLen at hs
  obtain ⟨W, cp, HW, hconv⟩ := conv_name s w
  have HC : Hid (∀ j (h : j < s.size), W.cell? ⟨w.heap.size, j, none⟩ = some (.int .u8 ((s.data.toList.getD j 0).toNat : Int))) := fun j h => by rw [HW.out.1]; exact bytesWorld_cell w tB s j h
  have HT : Hid (Touch [] w W) := by rw [HW.out.1]; exact touch_bytes w tB s
  go_enter Tryz.func163, Tryz.ntmps163
  go_wp2
  go_loop [0, 11] (fun xv iv => ∃ k : Nat, k ≤ s.size ∧ iv = .int .i64 k ∧ xv = .int .u32 ((eats x (s.data.toList.take k)).toNat : Int)) (fun _ iv => s.size - (RowKit.intOf iv).toNat)
  case atStart => exact ⟨0, Nat.zero_le _, rfl, rfl⟩
  case round =>
    obtain ⟨k, hk, rfl, rfl⟩ := hrel
    by_cases hlt : k < s.size
    · have hc := HC.out k hlt
      have hsn := take_getD s k hlt
      generalize s.data.toList.getD k 0 = c at *
      have hn : Hid (eats x (s.data.toList.take (k + 1)) = ticks 8 (eats x (s.data.toList.take k) ^^^ BitVec.ofNat 32 c.toNat)) := by rw [hsn, eats_snoc]; rfl
      clear hsn
      generalize eats x (s.data.toList.take k) = y at *
      have hb := c.toNat_lt
      have hbI : (c.toNat : Int) ≤ 255 := by omega
      have hx := xor_byte y c
      generalize y ^^^ BitVec.ofNat 32 c.toNat = z at *
      go_wp2
      clear hx hc
      go_loop [0, 19] (fun xv jv => ∃ j : Nat, j ≤ 8 ∧ jv = .int .i64 j ∧ xv = .int .u32 ((ticks j z).toNat : Int)) (fun _ jv => 8 - (RowKit.intOf jv).toNat)
      case atStart => exact ⟨0, Nat.zero_le _, rfl, rfl⟩
      case round =>
        obtain ⟨j, hj, rfl, rfl⟩ := hrel
        by_cases hj8 : j < 8
        · have hjI : (j : Int) < 8 := by omega
          have ht := hid (tick_go (ticks j z))
          go_wp2
          go_round
          case rel => exact ⟨j + 1, by omega, by go_num, by rw [ht.out]; rfl⟩
          case measure => simp [RowKit.intOf]; omega
        · have h8 : j = 8 := by omega
          subst h8
          go_wp2
          go_round
          case rel => exact ⟨k + 1, by omega, by go_num, by rw [hn.out]⟩
          case measure => simp [RowKit.intOf]; omega
    · have he : s.data.toList.take k = s.data.toList := List.take_of_length_le (by rw [list_len]; omega)
      rw [he]
      clear he
      go_wp2
      go_ret
      exact ⟨rfl, HT.out⟩


set_option maxHeartbeats 1000000 in
theorem sum_x (x : Option Addr) (cap : Nat) (l : List ByteArray) (w : World) (hlen : l.length ≤ 9223372036854775807) (hc : TextsX w x l) :
    Calls Tryz.prog 145 #[.slice x l.length cap] w fun e w' => e = .returned (.int .u32 (crc (cat l) : Int)) ∧ Touch [] w w' := by
  have HC := hid hc; clear hc
  have Hlen := hid hlen; clear hlen
  go_enter Tryz.func145, Tryz.ntmps145
  go_wp2
  go_loopw [3, 8] (fun xv iv wr => ∃ k : Nat, k ≤ l.length ∧ iv = .int .i64 k ∧ xv = .int .u32 ((eats ones (cat (l.take k))).toNat : Int) ∧ Touch [] w wr) (fun _ iv _ => l.length - (RowKit.intOf iv).toNat)
  case atStart => exact ⟨0, Nat.zero_le _, rfl, rfl, Touch.refl _ _⟩
  case round =>
    obtain ⟨k, hk, rfl, rfl, ht⟩ := hrel
    have hl := Hlen.out
    by_cases hlt : k < l.length
    · obtain ⟨b, off, rfl, g1, g2⟩ := HC.out k hlt
      have g3 := ht.cell g1
      have hsn : l.take (k + 1) = l.take k ++ [l[k]] := List.take_succ_eq_append_getElem hlt
      generalize l[k] = s at *
      have hn : Hid (eats ones (cat (l.take (k + 1))) = eats (eats ones (cat (l.take k))) s.data.toList) := by rw [hsn, cat_snoc, eats_append]; rfl
      have C := hid (add_any (eats ones (cat (l.take k))) s wr g2)
      have HT := hid ht
      generalize eats ones (cat (l.take k)) = y at *
      have hl2 : decide (k < l.length) = true := by simpa using hlt
      clear g1 hsn ht g2
      go_wp2_with (go_at_call 163; refine C.out.mono ?_; rintro e w1 ⟨rfl, h1⟩)
      go_roundw
      case rel => exact ⟨k + 1, by omega, by go_num, by rw [hn.out], HT.out.trans h1 (by simp)⟩
      case measure => simp [RowKit.intOf]; omega
    · have he : l.take k = l := List.take_of_length_le (by omega)
      rw [he]
      have HT := hid ht
      have hl2 : decide (k < l.length) = false := by simpa using hlt
      have hz := hid (end_go (eats ones (cat l)))
      clear he ht hl
      go_wp2
      go_ret
      exact ⟨by rw [hz.out]; rfl, HT.out⟩

theorem sum_some (b off cap : Nat) (l : List ByteArray) (w : World) (hlen : l.length ≤ 9223372036854775807) (hc : TextsAt w b off l) :
    Calls Tryz.prog 145 #[.slice (some ⟨b, off, none⟩) l.length cap] w fun e w' => e = .returned (.int .u32 (crc (cat l) : Int)) ∧ Touch [] w w' :=
  sum_x _ cap l w hlen fun i hi => ⟨b, off, rfl, hc i hi⟩
theorem sum_none (x : Option Addr) (cap : Nat) (w : World) :
    Calls Tryz.prog 145 #[.slice x 0 cap] w fun e w' => e = .returned (.int .u32 (crc [] : Int)) ∧ Touch [] w w' :=
  sum_x x cap [] w (by decide) fun i hi => absurd hi (Nat.not_lt_zero i)
end Go.Proofs.YtjjocnkockeacaaGreatDoor

namespace Go.Proofs.YtjjocnkockeacaaGreatDoor
set_option maxRecDepth 100000
open Go.RowKit Go.Lib

/-- A sum's bytes. -/
def four (n : Nat) : List UInt8 := [UInt8.ofNat (n / 16777216), UInt8.ofNat (n / 65536), UInt8.ofNat (n / 256), UInt8.ofNat n]
theorem four_length (n : Nat) : (four n).length = 4 := rfl
theorem u8_nat (a : Nat) (x : Int) (h : x = ((a % 256 : Nat) : Int)) : Value.int .u8 x = .int .u8 ((UInt8.ofNat a).toNat : Int) := by
  rw [h, UInt8.toNat_ofNat']

theorem conv_four (n : Nat) (h : n < 4294967296) (w : World) :
    (convert 117 9 (.slice (some ⟨w.heap.size, 0, none⟩) 4 4)).run Tryz.prog (w.alloc (.cells #[.int .u8 ((n : Int) / 16777216), .int .u8 ((n : Int) / 65536 % 256), .int .u8 ((n : Int) / 256 % 256), .int .u8 ((n : Int) % 256)] tB)) =
      .ok (.string ⟨(four n).toArray⟩) (w.alloc (.cells #[.int .u8 ((n : Int) / 16777216), .int .u8 ((n : Int) / 65536 % 256), .int .u8 ((n : Int) / 256 % 256), .int .u8 ((n : Int) % 256)] tB)) := by
  have hb := heap_alloc_new w (.cells #[.int .u8 ((n : Int) / 16777216), .int .u8 ((n : Int) / 65536 % 256), .int .u8 ((n : Int) / 256 % 256), .int .u8 ((n : Int) % 256)] tB)
  have e0 : Value.int .u8 ((n : Int) / 16777216) = .int .u8 ((UInt8.ofNat (n / 16777216)).toNat : Int) := u8_nat _ _ (by omega)
  have e1 : Value.int .u8 ((n : Int) / 65536 % 256) = .int .u8 ((UInt8.ofNat (n / 65536)).toNat : Int) := u8_nat _ _ (by omega)
  have e2 : Value.int .u8 ((n : Int) / 256 % 256) = .int .u8 ((UInt8.ofNat (n / 256)).toNat : Int) := u8_nat _ _ (by omega)
  have e3 : Value.int .u8 ((n : Int) % 256) = .int .u8 ((UInt8.ofNat n).toNat : Int) := u8_nat _ _ (by omega)
  rw [e0, e1, e2, e3] at hb ⊢
  clear e0 e1 e2 e3
  generalize (w.alloc (.cells #[.int .u8 ((UInt8.ofNat (n / 16777216)).toNat : Int), .int .u8 ((UInt8.ofNat (n / 65536)).toNat : Int), .int .u8 ((UInt8.ofNat (n / 256)).toNat : Int), .int .u8 ((UInt8.ofNat n).toNat : Int)] tB)) = W at *
  exact run_convert_bytes_back W 117 9 tB ⟨w.heap.size, 0, none⟩ 4 (four n) rfl rfl rfl fun j hj => by
    rw [show (⟨w.heap.size, 0, none⟩ : Addr).add j = ⟨w.heap.size, j, none⟩ from by unfold Addr.add; split <;> simp_all]
    rw [cell_of hb j]
    match j, hj with
    | 0, _ => rfl
    | 1, _ => rfl
    | 2, _ => rfl
    | 3, _ => rfl
    | k + 4, hk => rw [four_length] at hk; omega

end Go.Proofs.YtjjocnkockeacaaGreatDoor
