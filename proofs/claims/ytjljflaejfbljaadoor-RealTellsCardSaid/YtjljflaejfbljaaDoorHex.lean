/- What real.hex and real.unhex return. -/
import Derived.Test.YtjljflaejfbljaaDoorReal
namespace Go.Proofs.YtjljflaejfbljaaDoor
open Go.RowKit Go.Lib

/-- A hexadecimal digit's byte. -/
def hexC (d : Nat) : Nat := if d < 10 then 48 + d else 87 + d
def hexD (b k : Nat) : Nat := b / 16 ^ k % 16
/-- The sixteen digits of a number's bits. -/
def hexs (b : Nat) : List UInt8 := (List.range 16).map fun i => UInt8.ofNat (hexC (hexD b (15 - i)))
theorem hexC_byte (d : Nat) (h : d < 16) : ((UInt8.ofNat (hexC d)).toNat : Int) = (hexC d : Int) := by
  rw [UInt8.toNat_ofNat']
  unfold hexC
  split <;> omega
theorem hexD_lt (b k : Nat) : hexD b k < 16 := Nat.mod_lt _ (by decide)

theorem shr_bits (b k : Nat) (hb : Wd b) : bits .and .u64 ((b : Int) / 2 ^ (4 * k)) 15 = (hexD b k : Int) := by
  have h1 : ((b : Int) / 2 ^ (4 * k)) = ((b / 16 ^ k : Nat) : Int) := by
    rw [show (16 : Nat) = 2 ^ 4 from rfl, ← Nat.pow_mul, Int.natCast_ediv]
    rfl
  rw [h1]
  have h2 : b / 16 ^ k < 18446744073709551616 := Nat.lt_of_le_of_lt (Nat.div_le_self _ _) hb.lt
  have h3 := bits_and (b / 16 ^ k) 15 h2 (by decide)
  rw [and_15] at h3
  exact h3

def digB : ByteArray := ⟨#[48, 49, 50, 51, 52, 53, 54, 55, 56, 57, 97, 98, 99, 100, 101, 102]⟩
theorem digB_at (d : Nat) (h : d < digB.size) : digB[d].toNat = hexC d := by
  have h2 : ∀ x : Fin 16, (digB.data[x.1]'x.2).toNat = hexC x.1 := by decide
  exact h2 ⟨d, h⟩

/-- The row of digits behind k rounds. -/
def HexRel (b k : Nat) (w wr : World) : Prop := ∃ cs : Array Value, wr = w.alloc (.cells cs 64) ∧ cs.size = 16 ∧ ∀ j, j < k → cs[15 - j]? = some (.int .u8 (hexC (hexD b j) : Int))

set_option maxHeartbeats 1000000 in
theorem hex_any (b : Nat) (w : World) (hb : Wd b) :
    Calls Tryd.prog 46 #[.int .u64 b] w fun e w' => e = .returned (.string ⟨(hexs b).toArray⟩) ∧ Touch [] w w' := by
  go_enter Tryd.func46, Tryd.ntmps46
  go_wp2
  go_loopw [5] (fun kv wr => ∃ k : Nat, k ≤ 16 ∧ kv = .int .i64 k ∧ HexRel b k w wr) (fun kv _ => 16 - (intOf kv).toNat)
  case atStart => exact ⟨0, Nat.zero_le _, rfl, _, rfl, rfl, fun j hj => absurd hj (Nat.not_lt_zero j)⟩
  case round =>
    obtain ⟨k, hk, rfl, cs, rfl, hcs, hall⟩ := hrel
    have Hall := hid hall; clear hall
    by_cases hlt : k < 16
    · obtain ⟨x, hx⟩ : ∃ x, cs[15 - k]? = some x := ⟨cs[15 - k], by simp⟩
      have hd := shr_bits b k hb
      have hd1 : (hexD b k : Int) < 16 := by have := hexD_lt b k; omega
      have hd0 : (0 : Int) ≤ (hexD b k : Int) := by omega
      have hat := fun h => hid (digB_at (hexD b k) h)
      have hnx : Hid (∀ (v : Value), v = .int .u8 (hexC (hexD b k) : Int) → ∀ j, j < k + 1 → (cs.setIfInBounds (15 - k) v)[15 - j]? = some (.int .u8 (hexC (hexD b j) : Int))) := by
        rintro v rfl j hj
        by_cases hjk : j = k
        · subst hjk
          rw [Array.getElem?_setIfInBounds_self_of_lt (by omega)]
        · rw [Array.getElem?_setIfInBounds_ne (by omega)]
          exact Hall.out j (by omega)
      generalize hexD b k = d at *
      go_wp2
      go_roundw
      case rel =>
        refine ⟨k + 1, by omega, by go_num, _, rfl, by simpa using hcs, hnx.out _ ?_⟩
        exact congrArg (fun n : Nat => Value.int .u8 (n : Int)) (hat (show d < 16 by omega)).out
      case measure => simp [intOf]; omega
    · obtain rfl : k = 16 := by omega
      have hl : (hexs b).length = 16 := by simp [hexs]
      have hconv : (convert 61 9 (.slice (some ⟨w.heap.size, 0, none⟩) 16 16)).run Tryd.prog (w.alloc (.cells cs 64)) = .ok (.string ⟨(hexs b).toArray⟩) (w.alloc (.cells cs 64)) := by
        have := run_convert_bytes_back (P := Tryd.prog) (w.alloc (.cells cs 64)) 61 9 5 ⟨w.heap.size, 0, none⟩ 16 (hexs b) rfl rfl rfl (fun j hj => by
          have hj2 : j < 16 := by rw [hl] at hj; exact hj
          have hadd : (⟨w.heap.size, 0, none⟩ : Addr).add j = ⟨w.heap.size, j, none⟩ := by unfold Addr.add; split <;> simp_all
          have hq := Hall.out (15 - j) (by omega)
          rw [show 15 - (15 - j) = j by omega] at hq
          rw [hadd, cell_of (heap_alloc_new w (.cells cs 64)) j, hq]
          simp only [hexs, List.getElem_map, List.getElem_range]
          rw [hexC_byte _ (hexD_lt _ _)])
        rw [hl] at this
        exact this
      clear hcs hk
      go_wp2
      go_ret
      exact ⟨rfl, (Touch.refl _ _).alloc _⟩
end Go.Proofs.YtjljflaejfbljaaDoor
