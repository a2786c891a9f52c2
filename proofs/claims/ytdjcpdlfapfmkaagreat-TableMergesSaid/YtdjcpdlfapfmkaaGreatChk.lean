/- What the functions of package check, and of the laws' own answer to it, return. check's Seal and Open, and the laws' own. check's Seal and Open: their contracts. 'alive' of the laws of chapter 2: it returns true. -/
import Derived.Test.YtdjcpdlfapfmkaaGreatCrc
import Derived.Test.YtdjcpdlfapfmkaaGreatLists
import Derived.Test.YtdjcpdlfapfmkaaGreatShelf
import Derived.Deep.RegionHeld3
namespace Go.Proofs.YtdjcpdlfapfmkaaGreat
set_option maxRecDepth 100000
open Go.RowKit Go.Lib

abbrev tB : TypeId := 5

/-- '[]byte(s)' at this world, its world under a name. -/
theorem conv_name (s : ByteArray) (w : World) : ∃ (W : World) (cp : Nat), Hid (W = bytesWorld w tB s ∧ cp = grownCap w s.size 0 tB) ∧
    (convert 9 123 (.string s)).run Tryz.prog w = .ok (.slice (some ⟨w.heap.size, 0, none⟩) s.size cp) W :=
  ⟨_, _, ⟨rfl, rfl⟩, Go.Lib.run_convert_string_bytes (P := Tryz.prog) w 9 123 tB s rfl rfl rfl⟩

theorem take_getD (s : ByteArray) (k : Nat) (h : k < s.size) : s.data.toList.take (k + 1) = s.data.toList.take k ++ [s.data.toList.getD k 0] := by
  have h2 : k < s.data.toList.length := by rw [list_len]; exact h
  rw [List.take_succ_eq_append_getElem h2, List.getD_eq_getElem?_getD, List.getElem?_eq_getElem h2]
  rfl

set_option maxHeartbeats 1000000 in
theorem chadd_any (x : BitVec 32) (s : ByteArray) (w : World) (hs : s.size ≤ maxLen) :
    Calls Tryz.prog 113 #[.int .u32 (x.toNat : Int), .string s] w fun e w' => e = .returned (.int .u32 ((eats x s.data.toList).toNat : Int)) ∧ Touch [] w w' := by
  unfold maxLen at hs
  obtain ⟨W, cp, HW, hconv⟩ := conv_name s w
  have HC : Hid (∀ j (h : j < s.size), W.cell? ⟨w.heap.size, j, none⟩ = some (.int .u8 ((s.data.toList.getD j 0).toNat : Int))) := fun j h => by rw [HW.out.1]; exact bytesWorld_cell w tB s j h
  have HT : Hid (Touch [] w W) := by rw [HW.out.1]; exact touch_bytes w tB s
  go_enter Tryz.func113, Tryz.ntmps113
  go_wp2
  go_loop [0, 11] (fun xv iv => ∃ k : Nat, k ≤ s.size ∧ iv = .int .i64 k ∧ xv = .int .u32 ((eats x (s.data.toList.take k)).toNat : Int)) (fun _ iv => s.size - (RowKit.intOf iv).toNat)
  case atStart => exact ⟨0, Nat.zero_le _, rfl, rfl⟩
  case round =>
    obtain ⟨k, hk, rfl, rfl⟩ := hrel
    by_cases hlt : k < s.size
    · have hc := HC.out k hlt
      have hsn := take_getD s k hlt
      generalize s.data.toList.getD k 0 = c at *
      have hn : Hid (eats x (s.data.toList.take (k + 1)) = ticks 8 (eats x (s.data.toList.take k) ^^^ BitVec.ofNat 32 c.toNat)) := by rw [hsn, eats_snoc]; rfl
      clear hsn
      generalize eats x (s.data.toList.take k) = y at *
      have hb := c.toNat_lt
      have hbI : (c.toNat : Int) ≤ 255 := by omega
      have hx := xor_byte y c
      generalize y ^^^ BitVec.ofNat 32 c.toNat = z at *
      go_wp2
      clear hx hc
      go_loop [0, 19] (fun xv jv => ∃ j : Nat, j ≤ 8 ∧ jv = .int .i64 j ∧ xv = .int .u32 ((ticks j z).toNat : Int)) (fun _ jv => 8 - (RowKit.intOf jv).toNat)
      case atStart => exact ⟨0, Nat.zero_le _, rfl, rfl⟩
      case round =>
        obtain ⟨j, hj, rfl, rfl⟩ := hrel
        by_cases hj8 : j < 8
        · have hjI : (j : Int) < 8 := by omega
          have ht := hid (tick_go (ticks j z))
          go_wp2
          go_round
          case rel => exact ⟨j + 1, by omega, by go_num, by rw [ht.out]; rfl⟩
          case measure => simp [RowKit.intOf]; omega
        · have h8 : j = 8 := by omega
          subst h8
          go_wp2
          go_round
          case rel => exact ⟨k + 1, by omega, by go_num, by rw [hn.out]⟩
          case measure => simp [RowKit.intOf]; omega
    · have he : s.data.toList.take k = s.data.toList := List.take_of_length_le (by rw [list_len]; omega)
      rw [he]
      clear he
      go_wp2
      go_ret
      exact ⟨rfl, HT.out⟩


set_option maxHeartbeats 1000000 in
theorem sum_x (x : Option Addr) (cap : Nat) (l : List ByteArray) (w : World) (hlen : l.length ≤ 9223372036854775807) (hc : TextsX w x l) :
    Calls Tryz.prog 85 #[.slice x l.length cap] w fun e w' => e = .returned (.int .u32 (crc (cat l) : Int)) ∧ Touch [] w w' := by
  have HC := hid hc; clear hc
  have Hlen := hid hlen; clear hlen
  go_enter Tryz.func85, Tryz.ntmps85
  go_wp2
  go_loopw [3, 8] (fun xv iv wr => ∃ k : Nat, k ≤ l.length ∧ iv = .int .i64 k ∧ xv = .int .u32 ((eats ones (cat (l.take k))).toNat : Int) ∧ Touch [] w wr) (fun _ iv _ => l.length - (RowKit.intOf iv).toNat)
  case atStart => exact ⟨0, Nat.zero_le _, rfl, rfl, Touch.refl _ _⟩
  case round =>
    obtain ⟨k, hk, rfl, rfl, ht⟩ := hrel
    have hl := Hlen.out
    by_cases hlt : k < l.length
    · obtain ⟨b, off, rfl, g1, g2⟩ := HC.out k hlt
      have g3 := ht.cell g1
      have hsn : l.take (k + 1) = l.take k ++ [l[k]] := List.take_succ_eq_append_getElem hlt
      generalize l[k] = s at *
      have hn : Hid (eats ones (cat (l.take (k + 1))) = eats (eats ones (cat (l.take k))) s.data.toList) := by rw [hsn, cat_snoc, eats_append]; rfl
      have C := hid (chadd_any (eats ones (cat (l.take k))) s wr g2)
      have HT := hid ht
      generalize eats ones (cat (l.take k)) = y at *
      have hl2 : decide (k < l.length) = true := by simpa using hlt
      clear g1 hsn ht g2
      go_wp2_with (go_at_call 113; refine C.out.mono ?_; rintro e w1 ⟨rfl, h1⟩)
      go_roundw
      case rel => exact ⟨k + 1, by omega, by go_num, by rw [hn.out], HT.out.trans h1 (by simp)⟩
      case measure => simp [RowKit.intOf]; omega
    · have he : l.take k = l := List.take_of_length_le (by omega)
      rw [he]
      have HT := hid ht
      have hl2 : decide (k < l.length) = false := by simpa using hlt
      have hz := hid (end_go (eats ones (cat l)))
      clear he ht hl
      go_wp2
      go_ret
      exact ⟨by rw [hz.out]; rfl, HT.out⟩

theorem sum_some (b off cap : Nat) (l : List ByteArray) (w : World) (hlen : l.length ≤ 9223372036854775807) (hc : TextsAt w b off l) :
    Calls Tryz.prog 85 #[.slice (some ⟨b, off, none⟩) l.length cap] w fun e w' => e = .returned (.int .u32 (crc (cat l) : Int)) ∧ Touch [] w w' :=
  sum_x _ cap l w hlen fun i hi => ⟨b, off, rfl, hc i hi⟩
theorem sum_none (x : Option Addr) (cap : Nat) (w : World) :
    Calls Tryz.prog 85 #[.slice x 0 cap] w fun e w' => e = .returned (.int .u32 (crc [] : Int)) ∧ Touch [] w w' :=
  sum_x x cap [] w (by decide) fun i hi => absurd hi (Nat.not_lt_zero i)
end Go.Proofs.YtdjcpdlfapfmkaaGreat

namespace Go.Proofs.YtdjcpdlfapfmkaaGreat
set_option maxRecDepth 100000
open Go.RowKit Go.Lib

/-- A sum's bytes. -/
def four (n : Nat) : List UInt8 := [UInt8.ofNat (n / 16777216), UInt8.ofNat (n / 65536), UInt8.ofNat (n / 256), UInt8.ofNat n]
theorem four_length (n : Nat) : (four n).length = 4 := rfl
theorem u8_nat (a : Nat) (x : Int) (h : x = ((a % 256 : Nat) : Int)) : Value.int .u8 x = .int .u8 ((UInt8.ofNat a).toNat : Int) := by
  rw [h, UInt8.toNat_ofNat']

theorem conv_four (n : Nat) (h : n < 4294967296) (w : World) :
    (convert 123 9 (.slice (some ⟨w.heap.size, 0, none⟩) 4 4)).run Tryz.prog (w.alloc (.cells #[.int .u8 ((n : Int) / 16777216), .int .u8 ((n : Int) / 65536 % 256), .int .u8 ((n : Int) / 256 % 256), .int .u8 ((n : Int) % 256)] tB)) =
      .ok (.string ⟨(four n).toArray⟩) (w.alloc (.cells #[.int .u8 ((n : Int) / 16777216), .int .u8 ((n : Int) / 65536 % 256), .int .u8 ((n : Int) / 256 % 256), .int .u8 ((n : Int) % 256)] tB)) := by
  have hb := heap_alloc_new w (.cells #[.int .u8 ((n : Int) / 16777216), .int .u8 ((n : Int) / 65536 % 256), .int .u8 ((n : Int) / 256 % 256), .int .u8 ((n : Int) % 256)] tB)
  have e0 : Value.int .u8 ((n : Int) / 16777216) = .int .u8 ((UInt8.ofNat (n / 16777216)).toNat : Int) := u8_nat _ _ (by omega)
  have e1 : Value.int .u8 ((n : Int) / 65536 % 256) = .int .u8 ((UInt8.ofNat (n / 65536)).toNat : Int) := u8_nat _ _ (by omega)
  have e2 : Value.int .u8 ((n : Int) / 256 % 256) = .int .u8 ((UInt8.ofNat (n / 256)).toNat : Int) := u8_nat _ _ (by omega)
  have e3 : Value.int .u8 ((n : Int) % 256) = .int .u8 ((UInt8.ofNat n).toNat : Int) := u8_nat _ _ (by omega)
  rw [e0, e1, e2, e3] at hb ⊢
  clear e0 e1 e2 e3
  generalize (w.alloc (.cells #[.int .u8 ((UInt8.ofNat (n / 16777216)).toNat : Int), .int .u8 ((UInt8.ofNat (n / 65536)).toNat : Int), .int .u8 ((UInt8.ofNat (n / 256)).toNat : Int), .int .u8 ((UInt8.ofNat n).toNat : Int)] tB)) = W at *
  exact run_convert_bytes_back W 123 9 tB ⟨w.heap.size, 0, none⟩ 4 (four n) rfl rfl rfl fun j hj => by
    rw [show (⟨w.heap.size, 0, none⟩ : Addr).add j = ⟨w.heap.size, j, none⟩ from by unfold Addr.add; split <;> simp_all]
    rw [cell_of hb j]
    match j, hj with
    | 0, _ => rfl
    | 1, _ => rfl
    | 2, _ => rfl
    | 3, _ => rfl
    | k + 4, hk => rw [four_length] at hk; omega

theorem laid_any (n : Nat) (h : (n : Int) < 4294967296) (w : World) :
    Calls Tryz.prog 84 #[.int .u32 (n : Int)] w fun e w' => e = .returned (.string ⟨(four n).toArray⟩) ∧ Touch [] w w' := by
  have hconv := conv_four n (by omega) w
  go_enter Tryz.func84, Tryz.ntmps84
  go_wp2
  go_ret
  exact ⟨rfl, (Touch.refl _ _).alloc _⟩
end Go.Proofs.YtdjcpdlfapfmkaaGreat

namespace Go.Proofs.YtdjcpdlfapfmkaaGreat
set_option maxRecDepth 100000
open Go.RowKit Go.Lib

theorem sum_one (b cap : Nat) (s : ByteArray) (w : World) (hs : s.size ≤ maxLen) (hc : w.cell? ⟨b, 0, none⟩ = some (.string s)) :
    Calls Tryz.prog 85 #[.slice (some ⟨b, 0, none⟩) 1 cap] w fun e w' => e = .returned (.int .u32 (crc s.data.toList : Int)) ∧ Touch [] w w' := by
  have h := sum_some b 0 cap [s] w (by simp) (fun i hi => by
    have : i = 0 := by simpa using hi
    subst this
    exact ⟨by simpa using hc, by simpa using hs⟩)
  rw [cat_one] at h
  exact h

/-- What Seal makes. -/
def sealed (s : ByteArray) : ByteArray := ⟨(four (crc s.data.toList) ++ s.data.toList).toArray⟩
theorem sealed_list (s : ByteArray) : (sealed s).data.toList = four (crc s.data.toList) ++ s.data.toList := by simp [sealed]
theorem sealed_size (s : ByteArray) : (sealed s).size = s.size + 4 := by
  rw [← list_len, sealed_list, List.length_append, four_length, list_len]; omega
theorem sealed_eq (s : ByteArray) : (⟨(four (crc s.data.toList)).toArray⟩ : ByteArray) ++ s = sealed s := by
  apply ByteArray.ext
  apply Array.ext'
  rw [sealed_list]
  simp

theorem seal_any (s : ByteArray) (w : World) (hs : s.size ≤ 100000) :
    Calls Tryz.prog 35 #[.string s] w fun e w' => e = .returned (.string (sealed s)) ∧ Touch [] w w' := by
  have C := hid (sum_one w.heap.size 1 s (w.alloc (.cells #[.string s] 9)) (by unfold maxLen; omega) (cell_of (heap_alloc_new w _) 0))
  have D := hid fun (w1 : World) => laid_any (crc s.data.toList) (by have := crc_lt s.data.toList; omega) w1
  have E := hid (sealed_eq s)
  generalize crc s.data.toList = n at *
  have hl : (four n).length + s.size ≤ 9223372036854775807 := by rw [four_length]; omega
  go_enter Tryz.func35, Tryz.ntmps35
  go_wp2_with (first | (go_at_call 85; refine C.out.mono ?_; rintro e w1 ⟨rfl, h1⟩) | (go_at_call 84; refine (D.out _).mono ?_; rintro e w2 ⟨rfl, h2⟩))
  go_ret
  exact ⟨by rw [← E.out]; rfl, (((Touch.refl _ _).alloc _).trans h1 (by simp)).trans h2 (by simp)⟩

/-- What Open tells of a text with its sum p and what stands behind it. -/
def openOf (p q : ByteArray) : Value :=
  if p = ⟨(four (crc q.data.toList)).toArray⟩ then .tuple #[.string q, .int .i64 0] else .tuple #[.string ⟨#[]⟩, .int .i64 7]

theorem open_test (p q : ByteArray) : (p.toList == four (crc q.data.toList)) = decide (p = ⟨(four (crc q.data.toList)).toArray⟩) := by
  rw [Bool.eq_iff_iff, beq_iff_eq, decide_eq_true_iff, ByteArray.toList_eq]
  constructor
  · intro h
    rw [← h]
  · intro h
    rw [h]

theorem open_short (b : ByteArray) (w : World) (h : (b.size : Int) < 4) :
    Calls Tryz.prog 38 #[.string b] w fun e w' => e = .returned (.tuple #[.string ⟨#[]⟩, .int .i64 5]) ∧ w = w' := by
  go_enter Tryz.func38, Tryz.ntmps38
  go_wp2
  go_ret2
  exact ⟨rfl, rfl⟩

theorem extract_le (b : ByteArray) (h : b.size ≤ 100000) : (b.extract 4 b.size).size ≤ 100000 := by
  rw [ByteArray.size_extract]; omega

theorem clone_any (s : ByteArray) (w : World) (h : s.size ≤ 281474976710656) :
    Calls Tryz.prog 89 #[.string s] w fun e w' => e = .returned (.string s) ∧ Touch [] w w' := by
  have C := hid (Tryz.stringslite_Clone s w h)
  clear h
  go_enter Tryz.func89, Tryz.ntmps89
  go_wp2_with (go_at_call 114; refine C.out.mono ?_; rintro e w' ⟨rfl, h1⟩)
  go_ret
  exact ⟨rfl, Touch.of_below h1⟩

set_option maxHeartbeats 1000000 in
theorem open_long (b : ByteArray) (w : World) (h : (4 : Int) ≤ b.size) (hs : b.size ≤ 100000) :
    Calls Tryz.prog 38 #[.string b] w fun e w' => e = .returned (openOf (b.extract 0 4) (b.extract 4 b.size)) ∧ Touch [] w w' := by
  have hq := extract_le b hs
  have C := hid fun (n : Nat) => sum_one w.heap.size 1 (b.extract 4 b.size) ((w.drewN n).alloc (.cells #[.string (b.extract 4 b.size)] 9)) (by unfold maxLen; omega) (by have := cell_of (heap_alloc_new (w.drewN n) (.cells #[.string (b.extract 4 b.size)] 9)) 0; rw [drewN_heap] at this; exact this)
  have D := hid fun (w1 : World) => laid_any (crc (b.extract 4 b.size).data.toList) (by have := crc_lt (b.extract 4 b.size).data.toList; omega) w1
  have L := hid fun (w1 : World) => clone_any (b.extract 4 b.size) w1 (by omega)
  by_cases he : b.extract 0 4 = ⟨(four (crc (b.extract 4 b.size).data.toList)).toArray⟩
  · have hR := hid (show openOf (b.extract 0 4) (b.extract 4 b.size) = .tuple #[.string (b.extract 4 b.size), .int .i64 0] by unfold openOf; rw [if_pos he])
    have t1 : ((b.extract 0 4).toList == four (crc (b.extract 4 b.size).data.toList)) = true := by rw [open_test]; exact decide_eq_true he
    clear he
    go_enter Tryz.func38, Tryz.ntmps38
    go_wp2
    go_quiet (fail)
    generalize hqe : b.extract 4 b.size = q at C D L t1 hq ⊢
    have HQ := hid hqe
    clear hqe
    generalize b.extract 0 4 = p at t1 ⊢
    generalize crc q.data.toList = n at *
    go_wp2_with (first | (go_at_call 85; refine (C.out _).mono ?_; rintro e w1 ⟨rfl, h1⟩) | (go_at_call 84; refine (D.out _).mono ?_; rintro e w2 ⟨rfl, h2⟩) | (go_at_call 89; refine (L.out _).mono ?_; rintro e w3 ⟨rfl, h3⟩))
    go_ret2
    exact ⟨by rw [hR.out, HQ.out]; rfl, ((((((Touch.refl _ _).drewN _).alloc _).trans h1 (by simp)).trans h2 (by simp))).trans h3 (by simp)⟩
  · have hR := hid (show openOf (b.extract 0 4) (b.extract 4 b.size) = .tuple #[.string ⟨#[]⟩, .int .i64 7] by unfold openOf; rw [if_neg he])
    have t1 : ((b.extract 0 4).toList == four (crc (b.extract 4 b.size).data.toList)) = false := by rw [open_test]; exact decide_eq_false he
    clear he
    go_enter Tryz.func38, Tryz.ntmps38
    go_wp2
    go_quiet (fail)
    generalize hqe : b.extract 4 b.size = q at C D L t1 hq ⊢
    have HQ := hid hqe
    clear hqe
    generalize b.extract 0 4 = p at t1 ⊢
    generalize crc q.data.toList = n at *
    go_wp2_with (first | (go_at_call 85; refine (C.out _).mono ?_; rintro e w1 ⟨rfl, h1⟩) | (go_at_call 84; refine (D.out _).mono ?_; rintro e w2 ⟨rfl, h2⟩) | (go_at_call 89; refine (L.out _).mono ?_; rintro e w3 ⟨rfl, h3⟩))
    go_ret2
    exact ⟨by rw [hR.out]; rfl, (((((Touch.refl _ _).drewN _).alloc _).trans h1 (by simp)).trans h2 (by simp))⟩
end Go.Proofs.YtdjcpdlfapfmkaaGreat

namespace Go.Proofs.YtdjcpdlfapfmkaaGreat
set_option maxRecDepth 100000
open Go.RowKit Go.Lib

theorem texts_two (w : World) (a b : ByteArray) (ha : a.size ≤ maxLen) (hb : b.size ≤ maxLen) : TextsAt (w.alloc (.cells #[.string a, .string b] 9)) w.heap.size 0 [a, b] := by
  intro i h
  have hh := heap_alloc_new w (.cells #[.string a, .string b] 9)
  rw [Nat.zero_add, cell_of hh i]
  match i, h with
  | 0, _ => exact ⟨rfl, ha⟩
  | 1, _ => exact ⟨rfl, hb⟩
  | k + 2, hk => simp at hk; omega

def abc : ByteArray := ⟨#[97, 98, 99]⟩
theorem bytes_ext {a b : ByteArray} (h : a.data.toList = b.data.toList) : a = b := ByteArray.ext (Array.ext' h)
theorem sealed_head (s : ByteArray) : (sealed s).extract 0 4 = ⟨(four (crc s.data.toList)).toArray⟩ := by
  apply bytes_ext
  rw [extract_data, sealed_list]
  exact List.take_left' (four_length _)
theorem sealed_tail (s : ByteArray) : (sealed s).extract 4 (sealed s).size = s := by
  apply bytes_ext
  rw [extract_data, sealed_list, sealed_size]
  rw [List.drop_left' (four_length _), List.take_of_length_le (by rw [list_len]; omega)]
/-- What was sealed is opened. -/
theorem open_sealed (s : ByteArray) : openOf ((sealed s).extract 0 4) ((sealed s).extract 4 (sealed s).size) = .tuple #[.string s, .int .i64 0] := by
  rw [sealed_head, sealed_tail]
  unfold openOf
  rw [if_pos rfl]
theorem crc_nine : crc (cat [⟨#[49, 50, 51, 52]⟩, ⟨#[53, 54, 55, 56, 57]⟩]) = 3421780262 := by decide +kernel

end Go.Proofs.YtdjcpdlfapfmkaaGreat
