/- The sum of chapter 2 as plain mathematics: words of 32 bits, one bit after the other; no walk. -/
import Derived.Test.YtdjcpdlfapfmkaaGreatBase
namespace Go.Proofs.YtdjcpdlfapfmkaaGreat
set_option maxRecDepth 100000
open Go.RowKit Go.Lib

def polyB : BitVec 32 := 3988292384#32
/-- One bit of one byte. -/
def tick (x : BitVec 32) : BitVec 32 := if x.getLsbD 0 = true then (x >>> 1) ^^^ polyB else x >>> 1
def ticks : Nat → BitVec 32 → BitVec 32
  | 0, x => x
  | n + 1, x => tick (ticks n x)
/-- One byte. -/
def eat (x : BitVec 32) (c : UInt8) : BitVec 32 := ticks 8 (x ^^^ BitVec.ofNat 32 c.toNat)
def eats (x : BitVec 32) (l : List UInt8) : BitVec 32 := l.foldl eat x
def ones : BitVec 32 := 4294967295#32
def crc (l : List UInt8) : Nat := (eats ones l ^^^ ones).toNat

theorem eats_append (x : BitVec 32) (a b : List UInt8) : eats x (a ++ b) = eats (eats x a) b := by simp [eats]
theorem eats_snoc (x : BitVec 32) (a : List UInt8) (c : UInt8) : eats x (a ++ [c]) = eat (eats x a) c := by simp [eats]
theorem eats_nil (x : BitVec 32) : eats x [] = x := rfl
theorem crc_lt (l : List UInt8) : crc l < 4294967296 := (eats ones l ^^^ ones).isLt

theorem tick_top (x : BitVec 32) : (tick x).getLsbD 31 = x.getLsbD 0 := by
  unfold tick
  have hp : polyB.getLsbD 31 = true := by decide
  split
  · rename_i h
    rw [h, BitVec.getLsbD_xor, hp, BitVec.getLsbD_ushiftRight, BitVec.getLsbD_of_ge _ _ (by omega)]
    rfl
  · rename_i h
    rw [BitVec.getLsbD_ushiftRight, BitVec.getLsbD_of_ge _ _ (by omega)]
    simpa using h

theorem tick_inj {x y : BitVec 32} (h : tick x = tick y) : x = y := by
  have h0 : x.getLsbD 0 = y.getLsbD 0 := by rw [← tick_top x, ← tick_top y, h]
  have h1 : x >>> 1 = y >>> 1 := by
    unfold tick at h
    rw [h0] at h
    split at h
    · exact (BitVec.xor_left_inj polyB).1 h
    · exact h
  apply BitVec.eq_of_getLsbD_eq
  intro i hi
  rcases i with _ | i
  · exact h0
  · have := congrArg (fun z : BitVec 32 => z.getLsbD i) h1
    simp only [BitVec.getLsbD_ushiftRight] at this
    rwa [Nat.add_comm] at this

theorem ticks_inj : ∀ (n : Nat) {x y : BitVec 32}, ticks n x = ticks n y → x = y
  | 0, _, _, h => h
  | n + 1, _, _, h => ticks_inj n (tick_inj h)

theorem eat_inj_left {x y : BitVec 32} {c : UInt8} (h : eat x c = eat y c) : x = y := (BitVec.xor_left_inj _).1 (ticks_inj 8 h)
theorem eat_inj_right {x : BitVec 32} {c d : UInt8} (h : eat x c = eat x d) : c = d := by
  have h1 := (BitVec.xor_right_inj _).1 (ticks_inj 8 h)
  have h2 := congrArg BitVec.toNat h1
  have hc := c.toNat_lt
  have hd := d.toNat_lt
  rw [BitVec.toNat_ofNat, BitVec.toNat_ofNat, Nat.mod_eq_of_lt (by omega), Nat.mod_eq_of_lt (by omega)] at h2
  exact UInt8.toNat_inj.1 h2
theorem eats_inj : ∀ (l : List UInt8) {x y : BitVec 32}, eats x l = eats y l → x = y
  | [], _, _, h => h
  | c :: l, _, _, h => eat_inj_left (eats_inj l (by simpa [eats] using h))

theorem crc_of_eats {a b : List UInt8} (h : crc a = crc b) : eats ones a = eats ones b := (BitVec.xor_left_inj _).1 (BitVec.eq_of_toNat_eq h)
/-- One byte that is changed is told. -/
theorem crc_changed (a b : List UInt8) (c d : UInt8) (h : crc (a ++ c :: b) = crc (a ++ d :: b)) : c = d := by
  have h1 := crc_of_eats h
  rw [eats_append, eats_append] at h1
  exact eat_inj_right (eats_inj b (by simpa [eats] using h1))

/-! What Go's words of 32 bits come to. -/
theorem ofInt_toNat (x : BitVec 32) : BitVec.ofInt IntKind.u32.bits (x.toNat : Int) = x := by
  show BitVec.ofInt 32 (x.toNat : Int) = x
  simp
theorem bits_xor_bv (x y : BitVec 32) : bits .xor .u32 (x.toNat : Int) (y.toNat : Int) = ((x ^^^ y).toNat : Int) := by
  have hb : (x ^^^ y).toNat < 4294967296 := (x ^^^ y).isLt
  unfold bits
  simp only []
  rw [ofInt_toNat, ofInt_toNat]
  show IntKind.u32.wrap (((x ^^^ y).toNat : Nat) : Int) = _
  generalize (x ^^^ y).toNat = z at hb
  exact IntWalk.u32_in _ (by omega)
theorem bits_and_one (x : BitVec 32) : bits .and .u32 (x.toNat : Int) 1 = if x.getLsbD 0 = true then 1 else 0 := by
  have h1 : (x &&& 1#32) = if x.getLsbD 0 = true then 1#32 else 0#32 := by
    apply BitVec.eq_of_getLsbD_eq
    intro i hi
    rw [BitVec.getLsbD_and]
    rcases i with _ | i
    · cases x.getLsbD 0 <;> rfl
    · have e1 : (1#32).getLsbD (i + 1) = false := by simp [BitVec.getLsbD_one]
      rw [e1, Bool.and_false]
      split
      · exact e1.symm
      · simp
  have e : (1 : Int) = ((1#32 : BitVec 32).toNat : Int) := rfl
  unfold bits
  simp only []
  rw [ofInt_toNat]
  have e2 : BitVec.ofInt IntKind.u32.bits 1 = (1#32 : BitVec 32) := rfl
  rw [e2]
  show IntKind.u32.wrap (((x &&& 1#32).toNat : Nat) : Int) = _
  rw [h1]
  split <;> decide
theorem shift_bv (x : BitVec 32) : (x.toNat : Int) / (2 : Int) = ((x >>> 1).toNat : Int) := by
  rw [BitVec.toNat_ushiftRight, Nat.shiftRight_eq_div_pow]
  omega
theorem odd_bv (x : BitVec 32) : x.getLsbD 0 = decide (x.toNat % 2 = 1) := by
  rw [BitVec.getLsbD, Nat.testBit_zero]
theorem tick_even (x : BitVec 32) (h : x.toNat % 2 = 0) : tick x = x >>> 1 := by unfold tick; rw [odd_bv, if_neg (by simp; omega)]
theorem tick_odd (x : BitVec 32) (h : x.toNat % 2 = 1) : tick x = (x >>> 1) ^^^ polyB := by unfold tick; rw [odd_bv, if_pos (by simpa using h)]
theorem xor_ones (x : BitVec 32) : (x ^^^ ones).toNat = 4294967295 - x.toNat := by
  have h : ones = BitVec.allOnes 32 := rfl
  rw [h, BitVec.xor_allOnes, BitVec.toNat_not]
theorem xor_byte (x : BitVec 32) (c : UInt8) : bits .xor .u32 (x.toNat : Int) (c.toNat : Int) = ((x ^^^ BitVec.ofNat 32 c.toNat).toNat : Int) := by
  have hc := c.toNat_lt
  have h : ((BitVec.ofNat 32 c.toNat).toNat : Int) = (c.toNat : Int) := by rw [BitVec.toNat_ofNat, Nat.mod_eq_of_lt (by omega)]
  rw [← h]
  exact bits_xor_bv x _
theorem tick_go (x : BitVec 32) : bits .xor .u32 ((x.toNat : Int) / 2) (bits .and .u32 (x.toNat : Int) 1 * 3988292384 % 4294967296) = ((tick x).toNat : Int) := by
  rw [bits_and_one, shift_bv]
  unfold tick
  split
  · rw [show (1 * 3988292384 % 4294967296 : Int) = ((polyB.toNat : Nat) : Int) by decide, bits_xor_bv]
  · rw [show (0 * 3988292384 % 4294967296 : Int) = (((0#32 : BitVec 32).toNat : Nat) : Int) by decide, bits_xor_bv]
    simp
theorem tick_ref (x : BitVec 32) (h : x.toNat % 2 = 1) : bits .xor .u32 ((x.toNat : Int) / 2) 3988292384 = ((tick x).toNat : Int) := by
  rw [tick_odd x h, shift_bv]
  exact bits_xor_bv _ polyB
theorem tick_ref0 (x : BitVec 32) (h : x.toNat % 2 = 0) : (x.toNat : Int) / 2 = ((tick x).toNat : Int) := by
  rw [tick_even x h, shift_bv]
theorem end_go (x : BitVec 32) : bits .xor .u32 (x.toNat : Int) 4294967295 = ((x ^^^ ones).toNat : Int) := bits_xor_bv x ones
theorem end_ref (x : BitVec 32) : (4294967295 : Int) - (x.toNat : Int) = ((x ^^^ ones).toNat : Int) := by
  rw [xor_ones]
  have : x.toNat < 4294967296 := x.isLt
  omega
theorem polyB_nat : polyB.toNat = 3988292384 := rfl
theorem ones_nat : ones.toNat = 4294967295 := rfl
end Go.Proofs.YtdjcpdlfapfmkaaGreat
