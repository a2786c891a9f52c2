/- What the laws' own Digits returns: the same as codec's. -/
import Derived.Test.YtepbflcmghkieaaDoorRefNum
namespace Go.Proofs.YtepbflcmghkieaaDoor
open Go.RowKit Go.Lib

/-- The loop's head: what is still to be told, and what is told. -/
def DigRel (N0 n : Nat) (w : World) (S : ByteArray) (wr : World) : Prop := decDigits n ++ S.data.toList = decDigits N0 ∧ Touch [] w wr ∧ S.size + (decDigits n).length ≤ 30

theorem dig_start (N0 : Nat) (w : World) (h : N0 ≤ 9223372036854775808) : DigRel N0 N0 w ⟨#[]⟩ w := by
  refine ⟨by simp, Touch.refl _ _, ?_⟩
  have h4 : (10 : Nat) ^ (18 + 1) = 10000000000000000000 := by decide
  have h5 := ndig_le 18 N0 (by omega)
  rw [decDigits_length]
  show 0 + _ ≤ 30
  omega

theorem dig_last {N0 n : Nat} {w wr : World} {S b : ByteArray} (h : DigRel N0 n w S wr) (hb : b = ⟨#[UInt8.ofNat (48 + n % 10)]⟩) (hn : n < 10) : (b ++ S) = ⟨(decDigits N0).toArray⟩ := by
  apply str_eq
  rw [← h.1, hb, decDigits, dif_pos hn, Nat.mod_eq_of_lt hn]
  simp
theorem dig_next {N0 n : Nat} {w wr : World} {S b : ByteArray} (h : DigRel N0 n w S wr) (hb : b = ⟨#[UInt8.ofNat (48 + n % 10)]⟩) (hn : ¬ n < 10) (o : Obj) : DigRel N0 (n / 10) w (b ++ S) (wr.alloc o) := by
  have e : decDigits n = decDigits (n / 10) ++ [UInt8.ofNat (48 + n % 10)] := by rw [decDigits, dif_neg hn]
  obtain ⟨h1, h2, h3⟩ := h
  rw [e] at h1 h3
  refine ⟨by rw [← h1, hb]; simp, h2.alloc o, ?_⟩
  rw [List.length_append, List.length_singleton] at h3
  rw [ByteArray.size_append, hb]
  show 1 + S.size + _ ≤ 30
  omega

set_option maxRecDepth 100000 in
set_option maxHeartbeats 1000000 in
theorem refDig_pos (N0 : Nat) (w : World) (h : N0 ≤ 9223372036854775807) :
    Calls Tryd.prog 21 #[.int .i64 N0] w fun e w' => e = .returned (.string ⟨(decDigits N0).toArray⟩) ∧ Touch [] w w' := by
  have h0 : (0 : Int) ≤ N0 := by omega
  obtain ⟨bf, hbf, hconv⟩ : ∃ bf : Nat → ByteArray, Hid (∀ d, d < 10 → bf d = ⟨#[UInt8.ofNat (48 + d)]⟩) ∧ ∀ (d : Nat) (w1 : World), (convert 59 9 (.slice (some ⟨w1.heap.size, 0, none⟩) 1 1)).run Tryd.prog (w1.alloc (.cells #[.int .u8 (48 + (d : Int) % 10)] 5)) = .ok (.string (bf (d % 10))) (w1.alloc (.cells #[.int .u8 (48 + (d : Int) % 10)] 5)) :=
    ⟨fun d => ⟨#[UInt8.ofNat (48 + d)]⟩, fun _ _ => rfl, fun d w1 => by
      refine run_convert_bytes_back (P := Tryd.prog) _ 59 9 5 ⟨w1.heap.size, 0, none⟩ 1 [UInt8.ofNat (48 + d % 10)] rfl rfl rfl (fun j hj => ?_)
      obtain rfl : j = 0 := by simpa using hj
      have hadd : (⟨w1.heap.size, 0, none⟩ : Addr).add 0 = ⟨w1.heap.size, 0, none⟩ := by unfold Addr.add; split <;> simp_all
      rw [hadd, cell_of (heap_alloc_new w1 (.cells #[.int .u8 (48 + (d : Int) % 10)] 5)) 0]
      simp
      omega⟩
  have H := hid h; clear h
  go_enter Tryd.func21, Tryd.ntmps21
  go_wp2
  go_loopw [0, 3, 5] (fun vv sv _ wr => ∃ (n : Nat) (S : ByteArray), vv = .int .i64 n ∧ sv = .string S ∧ DigRel N0 n w S wr ∧ n ≤ N0) (fun vv _ _ _ => (RowKit.intOf vv).toNat)
  case atStart => exact ⟨N0, ⟨#[]⟩, rfl, rfl, dig_start N0 w (by have := H.out; omega), Nat.le_refl _⟩
  case round =>
    obtain ⟨n, S, rfl, rfl, hR, hn⟩ := hrel
    have HR := hid hR; clear hR
    have hb1 : (0 : Int) ≤ n := by omega
    have hb2 : (n : Int) ≤ 9223372036854775807 := by have := H.out; omega
    have hS : S.size ≤ 30 := by have := HR.out.2.2; omega
    have hbe := hid (hbf.out (n % 10) (Nat.mod_lt _ (by decide)))
    have hbs : (bf (n % 10)).size ≤ 1 := by rw [hbe.out]; exact Nat.le_refl 1
    by_cases h10 : n < 10
    · have hlast := hid (dig_last HR.out hbe.out h10)
      have hz : ((n : Int) / 10 == 0) = true := by simp; omega
      have hT := hid (HR.out.2.1)
      clear h10
      go_wp2
      go_ret
      exact ⟨by rw [← hlast.out]; rfl, hT.out.alloc _⟩
    · have hnext := hid (dig_next HR.out hbe.out h10)
      have hz : ((n : Int) / 10 == 0) = false := by simp; omega
      have H10 := hid h10; clear h10
      go_wp2
      go_roundw
      case rel => exact ⟨n / 10, _, by go_num, rfl, hnext.out _, by omega⟩
      case measure => simp [RowKit.intOf]; have := H10.out; omega

theorem neg_last {N0 : Nat} {S b : ByteArray} (h : (b ++ S) = ⟨(decDigits N0).toArray⟩) : (⟨#[45]⟩ : ByteArray) ++ (b ++ S) = ⟨(45 :: decDigits N0).toArray⟩ := by
  apply str_eq
  rw [h]
  simp

set_option maxRecDepth 100000 in
set_option maxHeartbeats 1000000 in
theorem refDig_neg (N0 : Nat) (w : World) (h : N0 ≤ 9223372036854775808) (hN1 : 1 ≤ N0) :
    Calls Tryd.prog 21 #[.int .i64 (-(N0 : Int))] w fun e w' => e = .returned (.string ⟨(45 :: decDigits N0).toArray⟩) ∧ Touch [] w w' := by
  have h0 : -(N0 : Int) < 0 := by omega
  obtain ⟨bf, hbf, hconv⟩ : ∃ bf : Nat → ByteArray, Hid (∀ d, d < 10 → bf d = ⟨#[UInt8.ofNat (48 + d)]⟩) ∧ ∀ (d : Nat) (w1 : World), (convert 59 9 (.slice (some ⟨w1.heap.size, 0, none⟩) 1 1)).run Tryd.prog (w1.alloc (.cells #[.int .u8 (48 + (d : Int) % 10)] 5)) = .ok (.string (bf (d % 10))) (w1.alloc (.cells #[.int .u8 (48 + (d : Int) % 10)] 5)) :=
    ⟨fun d => ⟨#[UInt8.ofNat (48 + d)]⟩, fun _ _ => rfl, fun d w1 => by
      refine run_convert_bytes_back (P := Tryd.prog) _ 59 9 5 ⟨w1.heap.size, 0, none⟩ 1 [UInt8.ofNat (48 + d % 10)] rfl rfl rfl (fun j hj => ?_)
      obtain rfl : j = 0 := by simpa using hj
      have hadd : (⟨w1.heap.size, 0, none⟩ : Addr).add 0 = ⟨w1.heap.size, 0, none⟩ := by unfold Addr.add; split <;> simp_all
      rw [hadd, cell_of (heap_alloc_new w1 (.cells #[.int .u8 (48 + (d : Int) % 10)] 5)) 0]
      simp
      omega⟩
  have hconv0 : ∀ w1 : World, (convert 59 9 (.slice (some ⟨w1.heap.size, 0, none⟩) 1 1)).run Tryd.prog (w1.alloc (.cells #[.int .u8 48] 5)) = .ok (.string (bf 0)) (w1.alloc (.cells #[.int .u8 48] 5)) := hconv 0
  have H := hid h; clear h
  go_enter Tryd.func21, Tryd.ntmps21
  go_wp2
  go_loopw [0, 3, 5] (fun vv sv _ wr => ∃ (n : Nat) (S : ByteArray), vv = .int .i64 (-(n : Int)) ∧ sv = .string S ∧ DigRel N0 n w S wr ∧ n ≤ N0) (fun vv _ _ _ => (-(RowKit.intOf vv)).toNat)
  case atStart => exact ⟨N0, ⟨#[]⟩, rfl, rfl, dig_start N0 w (by have := H.out; omega), Nat.le_refl _⟩
  case round =>
    obtain ⟨n, S, rfl, rfl, hR, hn⟩ := hrel
    have HR := hid hR; clear hR
    have hb1 : (0 : Int) ≤ n := by omega
    have hb2 : (n : Int) ≤ 9223372036854775808 := by have := H.out; omega
    have hS : S.size ≤ 30 := by have := HR.out.2.2; omega
    have hbe := hid (hbf.out (n % 10) (Nat.mod_lt _ (by decide)))
    have hbs : (bf (n % 10)).size ≤ 1 := by rw [hbe.out]; exact Nat.le_refl 1
    have hq : (-(n : Int)).tdiv 10 = -((n : Int) / 10) := by rw [Int.neg_tdiv, Int.tdiv_eq_ediv_of_nonneg (by omega)]
    by_cases hd0 : n % 10 = 0
    · have ht : (-(n : Int)).tmod 10 = 0 := by
        have e : (-(n : Int)).tmod 10 = -((n : Int) % 10) := by rw [Int.neg_tmod, Int.tmod_eq_emod_of_nonneg (by omega)]
        rw [e]; omega
      rw [hd0] at hbe hbs
      have Hd0 := hid hd0; clear hd0
      by_cases h10 : n < 10
      · have hlast := hid (neg_last (dig_last (b := bf 0) HR.out (by rw [Hd0.out]; exact hbe.out) h10))
        have hz : (-((n : Int) / 10) == 0) = true := by simp; omega
        have hT := hid (HR.out.2.1)
        clear h10
        go_wp2
        go_ret
        exact ⟨by rw [← hlast.out]; rfl, hT.out.alloc _⟩
      · have hnext := hid (dig_next (b := bf 0) HR.out (by rw [Hd0.out]; exact hbe.out) h10)
        have hz : (-((n : Int) / 10) == 0) = false := by simp; omega
        have H10 := hid h10; clear h10
        go_wp2
        go_roundw
        case rel => exact ⟨n / 10, _, by go_num, rfl, hnext.out _, by omega⟩
        case measure => simp [RowKit.intOf]; have := H10.out; omega
    · have ht : (-(n : Int)).tmod 10 = -((n : Int) % 10) := by rw [Int.neg_tmod, Int.tmod_eq_emod_of_nonneg (by omega)]
      have hp : (0 : Int) < (n : Int) % 10 := by omega
      clear hd0
      by_cases h10 : n < 10
      · have hlast := hid (neg_last (dig_last HR.out hbe.out h10))
        have hz : (-((n : Int) / 10) == 0) = true := by simp; omega
        have hT := hid (HR.out.2.1)
        clear h10
        go_wp2
        go_ret
        exact ⟨by rw [← hlast.out]; rfl, hT.out.alloc _⟩
      · have hnext := hid (dig_next HR.out hbe.out h10)
        have hz : (-((n : Int) / 10) == 0) = false := by simp; omega
        have H10 := hid h10; clear h10
        go_wp2
        go_roundw
        case rel => exact ⟨n / 10, _, by go_num, rfl, hnext.out _, by omega⟩
        case measure => simp [RowKit.intOf]; have := H10.out; omega

theorem refDigits_any (v : Int) (w : World) (h0 : -9223372036854775808 ≤ v) (h1 : v ≤ 9223372036854775807) :
    Calls Tryd.prog 21 #[.int .i64 v] w fun e w' => e = .returned (.string ⟨(itoa v).toArray⟩) ∧ Touch [] w w' := by
  unfold itoa
  by_cases hv : v < 0
  · rw [if_pos hv]
    have e : v = -((v.natAbs : Nat) : Int) := by omega
    have := refDig_neg v.natAbs w (by omega) (by omega)
    rw [← e] at this
    exact this
  · rw [if_neg hv]
    have e : v = ((v.toNat : Nat) : Int) := by omega
    have := refDig_pos v.toNat w (by omega)
    rw [← e] at this
    exact this
end Go.Proofs.YtepbflcmghkieaaDoor
