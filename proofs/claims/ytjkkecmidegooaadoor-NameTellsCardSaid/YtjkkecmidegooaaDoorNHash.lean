/- What name.Hash and the laws' own Hash tell. -/
import Derived.Test.YtjkkecmidegooaaDoorStm
namespace Go.Proofs.YtjkkecmidegooaaDoor
open Go.RowKit Go.Lib

/-- Exclusive or, and times the prime. -/
def hstep (x : BitVec 32) (c : UInt8) : BitVec 32 := (x ^^^ BitVec.ofNat 32 c.toNat) * 16777619#32
def hfold (l : List UInt8) : BitVec 32 := l.foldl hstep 2166136261#32
def hashN (l : List UInt8) : Int := ((hfold l).toNat % 61 : Nat)
theorem hfold_take (l : List UInt8) (k : Nat) (h : k < l.length) : hfold (l.take (k + 1)) = hstep (hfold (l.take k)) l[k] := by
  unfold hfold; rw [List.take_succ_eq_append_getElem h, List.foldl_append]; rfl
theorem hash_range (l : List UInt8) : 0 ≤ hashN l ∧ hashN l < 61 := by unfold hashN; omega

theorem ofInt_toNat (x : BitVec 32) : BitVec.ofInt 32 (x.toNat : Int) = x := by simp
theorem bits_xor_bv (x y : BitVec 32) : bits .xor .u32 (x.toNat : Int) (y.toNat : Int) = ((x ^^^ y).toNat : Int) := by
  have hb : (x ^^^ y).toNat < 4294967296 := (x ^^^ y).isLt
  unfold bits
  simp only []
  show IntKind.u32.wrap (((BitVec.ofInt 32 (x.toNat : Int) ^^^ BitVec.ofInt 32 (y.toNat : Int)).toNat : Nat) : Int) = _
  rw [ofInt_toNat, ofInt_toNat]
  generalize (x ^^^ y).toNat = z at hb
  exact IntWalk.u32_in _ (by omega)
theorem xor_byte (x : BitVec 32) (c : UInt8) : bits .xor .u32 (x.toNat : Int) (c.toNat : Int) = ((x ^^^ BitVec.ofNat 32 c.toNat).toNat : Int) := by
  have hc := c.toNat_lt
  have h : ((BitVec.ofNat 32 c.toNat).toNat : Int) = (c.toNat : Int) := by rw [BitVec.toNat_ofNat, Nat.mod_eq_of_lt (by omega)]
  rw [← h]
  exact bits_xor_bv x _
theorem times_prime (z : BitVec 32) : (z.toNat : Int) * 16777619 % 4294967296 = ((z * 16777619#32).toNat : Int) := by
  rw [BitVec.toNat_mul]
  show _ = (((z.toNat * 16777619 % 4294967296 : Nat)) : Int)
  omega

set_option maxHeartbeats 1000000 in
theorem hash_any (s : ByteArray) (w : World) (hs : s.size ≤ 9223372036854775807) :
    Calls Tryd.prog 18 #[.string s] w fun e w' => e = .returned (.int .i64 (hashN s.data.toList)) ∧ Touch [] w w' := by
  obtain ⟨l, hl⟩ : ∃ l, l = s.data.toList := ⟨_, rfl⟩
  have hsl := list_len s
  rw [← hl] at hsl ⊢
  obtain ⟨cf, Wf, HW, hconv⟩ : ∃ (cf : World → Nat) (Wf : World → World), Hid (∀ w1, Wf w1 = bytesWorld w1 5 s) ∧ ∀ w1, (convert 9 36 (.string s)).run Tryd.prog w1 = .ok (.slice (some ⟨w1.heap.size, 0, none⟩) s.size (cf w1)) (Wf w1) :=
    ⟨_, _, fun _ => rfl, fun w1 => Go.Lib.run_convert_string_bytes (P := Tryd.prog) w1 9 36 5 s rfl rfl rfl⟩
  have hcell := hid (fun (w1 : World) (k : Nat) (hk : k < l.length) => show (Wf w1).cell? ⟨w1.heap.size, k, none⟩ = some (.int .u8 (l[k].toNat : Int)) by
    rw [HW.out, bytesWorld_cell _ _ _ _ (by omega)]
    subst hl
    rw [show s.data.toList.getD k 0 = s.data.toList[k] from by rw [List.getD_eq_getElem?_getD, List.getElem?_eq_getElem hk]; rfl])
  have hT : Hid (∀ w1 : World, Touch [] w1 (Wf w1)) := fun w1 => by rw [HW.out]; exact touch_bytes _ _ _
  have Hsl := hid hsl
  have Hs := hid hs
  clear hl hsl hs
  go_enter Tryd.func18, Tryd.ntmps18
  go_wp2
  go_loop [3, 9] (fun xv kv => ∃ k : Nat, k ≤ s.size ∧ kv = .int .i64 k ∧ xv = .int .u32 ((hfold (l.take k)).toNat : Int)) (fun _ kv => s.size - (RowKit.intOf kv).toNat)
  case atStart => exact ⟨0, Nat.zero_le _, rfl, rfl⟩
  case round =>
    obtain ⟨k, hk, rfl, rfl⟩ := hrel
    by_cases hlt : k < s.size
    · have hkl : k < l.length := by have := Hsl.out; omega
      have hc := hcell.out w k hkl
      have hltI : (k : Int) < s.size := by omega
      have hn : Hid (((hfold (l.take (k + 1))).toNat : Int) = (((hfold (l.take k) ^^^ BitVec.ofNat 32 l[k].toNat) * 16777619#32).toNat : Int)) := by rw [hfold_take l k hkl]; rfl
      have hx := xor_byte (hfold (l.take k)) l[k]
      have hu := l[k].toNat_lt
      generalize hfold (l.take k) = y at *
      generalize l[k] = c at *
      have hbI : (c.toNat : Int) ≤ 255 := by omega
      have ht := times_prime (y ^^^ BitVec.ofNat 32 c.toNat)
      generalize y ^^^ BitVec.ofNat 32 c.toNat = z at *
      have hb1 : (k : Int) < 9223372036854775807 := by have := Hs.out; omega
      clear hu hkl
      go_wp2
      go_round
      case rel => exact ⟨k + 1, by omega, by go_num, by rw [hn.out, ht]⟩
      case measure => simp [RowKit.intOf]; omega
    · obtain rfl : k = s.size := by omega
      have he : l.take s.size = l := List.take_of_length_le (by have := Hsl.out; omega)
      have hb := (hfold l).isLt
      rw [he]
      have hv := hid (show hashN l = (((hfold l).toNat : Int) % 61) by unfold hashN; omega)
      clear he hlt
      generalize hfold l = y at *
      have hb2 : (y.toNat : Int) < 4294967296 := by omega
      go_wp2
      go_ret
      exact ⟨by rw [hv.out]; rfl, hT.out w⟩

set_option maxHeartbeats 1000000 in
theorem refHash_any (s : ByteArray) (w : World) (hs : s.size ≤ 9223372036854775807) :
    Calls Tryd.prog 19 #[.string s] w fun e w' => e = .returned (.int .i64 (hashN s.data.toList)) ∧ w = w' := by
  have hsl := list_len s
  have Hsl := hid hsl
  have Hs := hid hs
  clear hsl hs
  go_enter Tryd.func19, Tryd.ntmps19
  go_wp2
  go_loop [3, 4] (fun xv kv => ∃ k : Nat, k ≤ s.size ∧ kv = .int .i64 k ∧ xv = .int .u32 ((hfold (s.data.toList.take k)).toNat : Int)) (fun _ kv => s.size - (RowKit.intOf kv).toNat)
  case atStart => exact ⟨0, Nat.zero_le _, rfl, rfl⟩
  case round =>
    obtain ⟨k, hk, rfl, rfl⟩ := hrel
    by_cases hlt : k < s.size
    · have hltI : (k : Int) < s.size := by omega
      have hn : Hid (((hfold (s.data.toList.take (k + 1))).toNat : Int) = (((hfold (s.data.toList.take k) ^^^ BitVec.ofNat 32 s[k].toNat) * 16777619#32).toNat : Int)) := by
        rw [hfold_take _ k (show k < s.data.toList.length by rw [list_len]; exact hlt)]; rfl
      have hx := xor_byte (hfold (s.data.toList.take k)) s[k]
      have hu := s[k].toNat_lt
      generalize hfold (s.data.toList.take k) = y at *
      have hbI : (s[k].toNat : Int) ≤ 255 := by omega
      have ht := times_prime (y ^^^ BitVec.ofNat 32 s[k].toNat)
      generalize y ^^^ BitVec.ofNat 32 s[k].toNat = z at *
      have hb1 : (k : Int) < 9223372036854775807 := by have := Hs.out; omega
      clear hu
      go_wp2
      go_round
      case rel => exact ⟨k + 1, by omega, by go_num, by rw [hn.out, ht]⟩
      case measure => simp [RowKit.intOf]; omega
    · obtain rfl : k = s.size := by omega
      have he : s.data.toList.take s.size = s.data.toList := List.take_of_length_le (by have := Hsl.out; omega)
      have hb := (hfold s.data.toList).isLt
      rw [he]
      have hv := hid (show hashN s.data.toList = (((hfold s.data.toList).toNat : Int) % 61) by unfold hashN; omega)
      clear he hlt
      generalize hfold s.data.toList = y at *
      have hb2 : (y.toNat : Int) < 4294967296 := by omega
      go_wp2
      go_ret
      exact ⟨by rw [hv.out]; rfl, rfl⟩
end Go.Proofs.YtjkkecmidegooaaDoor
