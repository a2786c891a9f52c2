/- check's Seal and Open, and the laws' own. -/
import Derived.Test.YtmaainnfflapiaaChk
import Derived.Deep.RegionHeld3
namespace Go.Proofs.Ytmaainnfflapiaa
set_option maxRecDepth 100000
open Go.RowKit Go.Lib

/-- A sum's bytes. -/
def four (n : Nat) : List UInt8 := [UInt8.ofNat (n / 16777216), UInt8.ofNat (n / 65536), UInt8.ofNat (n / 256), UInt8.ofNat n]
theorem four_length (n : Nat) : (four n).length = 4 := rfl
theorem u8_nat (a : Nat) (x : Int) (h : x = ((a % 256 : Nat) : Int)) : Value.int .u8 x = .int .u8 ((UInt8.ofNat a).toNat : Int) := by
  rw [h, UInt8.toNat_ofNat']

theorem conv_four (n : Nat) (h : n < 4294967296) (w : World) :
    (convert 52 9 (.slice (some ⟨w.heap.size, 0, none⟩) 4 4)).run Try.prog (w.alloc (.cells #[.int .u8 ((n : Int) / 16777216), .int .u8 ((n : Int) / 65536 % 256), .int .u8 ((n : Int) / 256 % 256), .int .u8 ((n : Int) % 256)] tB)) =
      .ok (.string ⟨(four n).toArray⟩) (w.alloc (.cells #[.int .u8 ((n : Int) / 16777216), .int .u8 ((n : Int) / 65536 % 256), .int .u8 ((n : Int) / 256 % 256), .int .u8 ((n : Int) % 256)] tB)) := by
  have hb := heap_alloc_new w (.cells #[.int .u8 ((n : Int) / 16777216), .int .u8 ((n : Int) / 65536 % 256), .int .u8 ((n : Int) / 256 % 256), .int .u8 ((n : Int) % 256)] tB)
  have e0 : Value.int .u8 ((n : Int) / 16777216) = .int .u8 ((UInt8.ofNat (n / 16777216)).toNat : Int) := u8_nat _ _ (by omega)
  have e1 : Value.int .u8 ((n : Int) / 65536 % 256) = .int .u8 ((UInt8.ofNat (n / 65536)).toNat : Int) := u8_nat _ _ (by omega)
  have e2 : Value.int .u8 ((n : Int) / 256 % 256) = .int .u8 ((UInt8.ofNat (n / 256)).toNat : Int) := u8_nat _ _ (by omega)
  have e3 : Value.int .u8 ((n : Int) % 256) = .int .u8 ((UInt8.ofNat n).toNat : Int) := u8_nat _ _ (by omega)
  rw [e0, e1, e2, e3] at hb ⊢
  clear e0 e1 e2 e3
  generalize (w.alloc (.cells #[.int .u8 ((UInt8.ofNat (n / 16777216)).toNat : Int), .int .u8 ((UInt8.ofNat (n / 65536)).toNat : Int), .int .u8 ((UInt8.ofNat (n / 256)).toNat : Int), .int .u8 ((UInt8.ofNat n).toNat : Int)] tB)) = W at *
  exact run_convert_bytes_back W 52 9 tB ⟨w.heap.size, 0, none⟩ 4 (four n) rfl rfl rfl fun j hj => by
    rw [show (⟨w.heap.size, 0, none⟩ : Addr).add j = ⟨w.heap.size, j, none⟩ from by unfold Addr.add; split <;> simp_all]
    rw [cell_of hb j]
    match j, hj with
    | 0, _ => rfl
    | 1, _ => rfl
    | 2, _ => rfl
    | 3, _ => rfl
    | k + 4, hk => rw [four_length] at hk; omega

/-- The laws' own sum. -/
theorem refSum_any (s : ByteArray) (w : World) (hs : s.size ≤ maxLen) :
    Calls Try.prog 60 #[.string s] w fun e w' => e = .returned (.int .u32 (crc s.data.toList : Int)) ∧ w = w' := by
  unfold maxLen at hs
  go_enter Try.func60, Try.ntmps60
  go_wp2
  go_loop [3, 4] (fun xv iv => ∃ k : Nat, k ≤ s.size ∧ iv = .int .i64 k ∧ xv = .int .u32 ((eats ones (s.data.toList.take k)).toNat : Int)) (fun _ iv => s.size - (RowKit.intOf iv).toNat)
  case atStart => exact ⟨0, Nat.zero_le _, rfl, rfl⟩
  case round =>
    obtain ⟨k, hk, rfl, rfl⟩ := hrel
    by_cases hlt : k < s.size
    · have hsn := take_getD s k hlt
      have hsg : s.data.toList.getD k 0 = s[k] := by
        have h2 : k < s.data.toList.length := by rw [list_len]; exact hlt
        rw [List.getD_eq_getElem?_getD, List.getElem?_eq_getElem h2]
        rfl
      rw [hsg] at hsn
      clear hsg
      have hn : Hid (eats ones (s.data.toList.take (k + 1)) = ticks 8 (eats ones (s.data.toList.take k) ^^^ BitVec.ofNat 32 s[k].toNat)) := by rw [hsn, eats_snoc]; rfl
      clear hsn
      generalize eats ones (s.data.toList.take k) = y at *
      have hb := s[k].toNat_lt
      have hbI : (s[k].toNat : Int) ≤ 255 := by omega
      have hx := xor_byte y s[k]
      generalize y ^^^ BitVec.ofNat 32 s[k].toNat = z at *
      go_wp2
      clear hx
      go_loop [3, 5] (fun xv jv => ∃ j : Nat, j ≤ 8 ∧ jv = .int .i64 j ∧ xv = .int .u32 ((ticks j z).toNat : Int)) (fun _ jv => 8 - (RowKit.intOf jv).toNat)
      case atStart => exact ⟨0, Nat.zero_le _, rfl, rfl⟩
      case round =>
        obtain ⟨j, hj, rfl, rfl⟩ := hrel
        by_cases hj8 : j < 8
        · have hjI : (j : Int) < 8 := by omega
          have hts : Hid (ticks (j + 1) z = tick (ticks j z)) := rfl
          generalize ticks j z = t at *
          have htl : t.toNat < 4294967296 := t.isLt
          by_cases hodd : t.toNat % 2 = 1
          · have q : (((t.toNat : Nat) : Int) % 2 == 1) = true := by rw [beq_iff_eq]; omega
            have ht := hid (tick_ref t hodd)
            clear hodd
            go_wp2
            go_round
            case rel => exact ⟨j + 1, by omega, by go_num, by rw [ht.out, hts.out]⟩
            case measure => simp [RowKit.intOf]; omega
          · have q : (((t.toNat : Nat) : Int) % 2 == 1) = false := by rw [beq_eq_false_iff_ne]; omega
            have ht := hid (tick_ref0 t (by omega))
            clear hodd
            go_wp2
            go_round
            case rel => exact ⟨j + 1, by omega, by go_num, by rw [ht.out, hts.out]⟩
            case measure => simp [RowKit.intOf]; omega
        · have h8 : j = 8 := by omega
          subst h8
          go_wp2
          go_round
          case rel => exact ⟨k + 1, by omega, by go_num, by rw [hn.out]⟩
          case measure => simp [RowKit.intOf]; omega
    · have he : s.data.toList.take k = s.data.toList := List.take_of_length_le (by rw [list_len]; omega)
      rw [he]
      clear he
      have hz := hid (end_ref (eats ones s.data.toList))
      have hlt2 := (eats ones s.data.toList).isLt
      go_wp2
      go_ret
      exact ⟨by rw [hz.out]; rfl, rfl⟩
end Go.Proofs.Ytmaainnfflapiaa
