/- What real.hex and real.unhex return. -/
import Derived.Test.YtiglfdefeaddmaaReal
namespace Go.Proofs.Ytiglfdefeaddmaa
open Go.RowKit Go.Lib

/-- A hexadecimal digit's byte. -/
def hexC (d : Nat) : Nat := if d < 10 then 48 + d else 87 + d
def hexD (b k : Nat) : Nat := b / 16 ^ k % 16
/-- The sixteen digits of a number's bits. -/
def hexs (b : Nat) : List UInt8 := (List.range 16).map fun i => UInt8.ofNat (hexC (hexD b (15 - i)))
theorem hexC_byte (d : Nat) (h : d < 16) : ((UInt8.ofNat (hexC d)).toNat : Int) = (hexC d : Int) := by
  rw [UInt8.toNat_ofNat']
  unfold hexC
  split <;> omega
theorem hexD_lt (b k : Nat) : hexD b k < 16 := Nat.mod_lt _ (by decide)

theorem shr_bits (b k : Nat) (hb : Wd b) : bits .and .u64 ((b : Int) / 2 ^ (4 * k)) 15 = (hexD b k : Int) := by
  have h1 : ((b : Int) / 2 ^ (4 * k)) = ((b / 16 ^ k : Nat) : Int) := by
    rw [show (16 : Nat) = 2 ^ 4 from rfl, ← Nat.pow_mul, Int.natCast_ediv]
    rfl
  rw [h1]
  have h2 : b / 16 ^ k < 18446744073709551616 := Nat.lt_of_le_of_lt (Nat.div_le_self _ _) hb.lt
  have h3 := bits_and (b / 16 ^ k) 15 h2 (by decide)
  rw [and_15] at h3
  exact h3

def digB : ByteArray := ⟨#[48, 49, 50, 51, 52, 53, 54, 55, 56, 57, 97, 98, 99, 100, 101, 102]⟩
theorem digB_at (d : Nat) (h : d < digB.size) : digB[d].toNat = hexC d := by
  have h2 : ∀ x : Fin 16, (digB.data[x.1]'x.2).toNat = hexC x.1 := by decide
  exact h2 ⟨d, h⟩

end Go.Proofs.Ytiglfdefeaddmaa
