/- What real.unhex returns; that it reads what real.hex tells. -/
import Derived.Test.YtiglfdefeaddmaaHex
import Derived.Test.YtiglfdefeaddmaaShelf
import Derived.Lib.Bytealg
namespace Go.Proofs.Ytiglfdefeaddmaa
open Go.RowKit Go.Lib

/-- What a byte is worth as a hexadecimal digit; -1: it is none. -/
def hexV (c : Nat) : Int := if 48 ≤ c ∧ c ≤ 57 then c - 48 else if 97 ≤ c ∧ c ≤ 102 then c - 87 else -1
def isHex (c : UInt8) : Bool := decide (0 ≤ hexV c.toNat)
def hv (l : List UInt8) : Nat := l.foldl (fun a c => a * 16 + (hexV c.toNat).toNat) 0
theorem hexV_lt (c : Nat) : hexV c < 16 := by unfold hexV; split <;> (try split) <;> omega
theorem hexV_ge (c : Nat) : -1 ≤ hexV c := by unfold hexV; split <;> (try split) <;> omega
theorem hv_snoc (l : List UInt8) (c : UInt8) : hv (l ++ [c]) = hv l * 16 + (hexV c.toNat).toNat := by simp [hv]
theorem hv_take (l : List UInt8) (k : Nat) (h : k < l.length) : hv (l.take (k + 1)) = hv (l.take k) * 16 + (hexV l[k].toNat).toNat := by
  rw [List.take_succ_eq_append_getElem h, hv_snoc]
theorem hv_lt_aux : ∀ (l : List UInt8) (a : Nat), l.foldl (fun a c => a * 16 + (hexV c.toNat).toNat) a < (a + 1) * 16 ^ l.length
  | [], a => by simp
  | c :: l, a => by
    have h := hv_lt_aux l (a * 16 + (hexV c.toNat).toNat)
    have hc := hexV_lt c.toNat
    simp only [List.foldl_cons, List.length_cons]
    refine Nat.lt_of_lt_of_le h ?_
    rw [Nat.pow_succ, Nat.mul_comm (16 ^ l.length) 16, ← Nat.mul_assoc]
    exact Nat.mul_le_mul_right _ (by omega)
theorem hv_lt (l : List UInt8) : hv l < 16 ^ l.length := by simpa [hv] using hv_lt_aux l 0
theorem hv_lt16 (l : List UInt8) (k : Nat) (hk : k ≤ 15) : hv (l.take k) < 1152921504606846976 := by
  have h1 := hv_lt (l.take k)
  have h2 : (l.take k).length ≤ 15 := by rw [List.length_take]; omega
  have h3 : 16 ^ (l.take k).length ≤ 16 ^ 15 := Nat.pow_le_pow_right (by decide) h2
  have h4 : (16 : Nat) ^ 15 = 1152921504606846976 := by decide
  omega
theorem index_dig (c : UInt8) : indexByte digB.data.toList c = hexV c.toNat := by
  have h : ∀ n : Fin 256, indexByte digB.data.toList (UInt8.ofNat n.1) = hexV n.1 := by decide +kernel
  have := h ⟨c.toNat, c.toNat_lt⟩
  simpa using this

/-- What unhex tells. -/
def unhexOk (l : List UInt8) : Prop := l.length = 16 ∧ ∀ c ∈ l, isHex c = true
instance (l : List UInt8) : Decidable (unhexOk l) := inferInstanceAs (Decidable (_ ∧ _))
def unhexRes (l : List UInt8) : Value := if unhexOk l then .tuple #[.int .u64 (hv l), .int .i64 0] else .tuple #[.int .u64 0, .int .i64 6]
theorem unhexRes_bad {l : List UInt8} (k : Nat) (hk : k < l.length) (h : isHex l[k] = false) : unhexRes l = .tuple #[.int .u64 0, .int .i64 6] := by
  unfold unhexRes
  rw [if_neg]
  rintro ⟨_, hall⟩
  have := hall l[k] (List.getElem_mem hk)
  rw [h] at this
  cases this
theorem hex_all (d : List UInt8) (k : Nat) (h : ∀ c ∈ d.take k, isHex c = true) (hk : k < d.length) (hc : isHex d[k] = true) : ∀ c ∈ d.take (k + 1), isHex c = true := by
  rw [List.take_succ_eq_append_getElem hk]
  intro c hc'
  simp only [List.mem_append, List.mem_singleton] at hc'
  rcases hc' with h1 | rfl
  · exact h c h1
  · exact hc

set_option maxHeartbeats 1000000 in
set_option maxRecDepth 100000 in
theorem unhex_any (s : ByteArray) (w : World) :
    Calls Try.prog 83 #[.string s] w fun e w' => e = .returned (unhexRes s.data.toList) ∧ Touch [] w w' := by
  by_cases hlen : s.size = 16
  case neg =>
    have hr := hid (show unhexRes s.data.toList = .tuple #[.int .u64 0, .int .i64 6] by unfold unhexRes; rw [if_neg]; rintro ⟨h, _⟩; rw [list_len] at h; exact hlen h)
    have h1 : ((s.size : Int) != 16) = true := by simp; omega
    clear hlen
    go_enter Try.func83, Try.ntmps83
    go_wp2
    go_ret2
    exact ⟨by rw [hr.out]; rfl, Touch.refl _ _⟩
  case pos =>
  obtain ⟨l, hl⟩ : ∃ l, l = s.data.toList := ⟨_, rfl⟩
  have hll : l.length = 16 := by rw [hl, list_len]; exact hlen
  rw [← hl]
  obtain ⟨W, cp, HW, hconv⟩ : ∃ (W : World) (cp : Nat), Hid (W = bytesWorld w 5 s) ∧ (convert 9 83 (.string s)).run Try.prog w = .ok (.slice (some ⟨w.heap.size, 0, none⟩) 16 cp) W :=
    ⟨_, grownCap w s.size 0 5, rfl, by
      have h := Go.Lib.run_convert_string_bytes (P := Try.prog) w 9 83 5 s Try.underlying9 Try.underlying83 Try.underlying5
      have e : (Value.slice (some ⟨w.heap.size, 0, none⟩) s.size (grownCap w s.size 0 5)) = .slice (some ⟨w.heap.size, 0, none⟩) 16 (grownCap w s.size 0 5) := by rw [hlen]
      exact h.trans (by rw [e])⟩
  have HC : Hid (∀ j (h : j < l.length), W.cell? ⟨w.heap.size, j, none⟩ = some (.int .u8 (l[j].toNat : Int))) := fun j h => by
    rw [HW.out]
    have h2 := bytesWorld_cell w 5 s j (by omega)
    subst hl
    rw [h2, List.getD_eq_getElem?_getD, List.getElem?_eq_getElem h]; rfl
  have HT : Hid (Touch [] w W) := by rw [HW.out]; exact touch_bytes w 5 s
  have h16 : ((s.size : Int) != 16) = false := by rw [hlen]; rfl
  have Hll := hid hll
  clear hl hll hlen
  go_enter Try.func83, Try.ntmps83
  go_wp2
  go_loop [4, 14] (fun bv iv => ∃ k : Nat, k ≤ 16 ∧ iv = .int .i64 k ∧ bv = .int .u64 (hv (l.take k)) ∧ ∀ c ∈ l.take k, isHex c = true) (fun _ iv => 16 - (RowKit.intOf iv).toNat)
  case atStart => exact ⟨0, Nat.zero_le _, rfl, rfl, by simp⟩
  case round =>
    obtain ⟨k, hk, rfl, rfl, hall⟩ := hrel
    have Hall := hid hall; clear hall
    by_cases hlt : k < 16
    · have hkl : k < l.length := by have := Hll.out; omega
      have hc := HC.out k hkl
      have hx := hv_lt16 l k (by omega)
      have C := hid (fun w1 => Try.strings_IndexByte digB (l[k].toNat : Int) w1)
      have ec : ((l[k].toNat : Int)).toNat.toUInt8 = l[k] := by simp
      rw [ec, index_dig] at C
      have hv1 := hexV_lt l[k].toNat
      have hv2 := hexV_ge l[k].toNat
      by_cases hneg : hexV l[k].toNat < 0
      · have hr := hid (unhexRes_bad k hkl (show isHex l[k] = false by simp [isHex]; omega))
        clear hx ec
        generalize hexV l[k].toNat = v at *
        generalize l[k].toNat = c at *
        generalize hv (l.take k) = V at *
        clear hkl
        go_wp2_with (go_at_call 94; refine (C.out _).mono ?_; rintro e w' ⟨rfl, rfl⟩)
        go_ret2
        exact ⟨by rw [hr.out]; rfl, HT.out⟩
      · have hta := hid (hex_all l k Hall.out hkl (by simp [isHex]; omega))
        have hn := hid (hv_take l k hkl)
        have hor := hid (or_16 (hv (l.take k)) (hexV l[k].toNat).toNat (by omega))
        clear ec
        generalize hexV l[k].toNat = v at *
        generalize l[k].toNat = c at *
        generalize hv (l.take k) = V at *
        have hb := bits_or (V * 16) v.toNat (by omega) (by omega)
        have e1 : ((v.toNat : Nat) : Int) = v := by omega
        rw [e1, hor.out] at hb
        have hb2 : bits .or .u64 ((V : Int) * 16) v = ((V * 16 + v.toNat : Nat) : Int) := by rw [← hb]; simp
        have hq1 : (0 : Int) ≤ v := by omega
        have hq2 : (V : Int) < 1152921504606846976 := by omega
        have hq3 : (0 : Int) ≤ V := by omega
        have t1 : decide (v < 0) = false := by simp; omega
        have Q := hid (And.intro hq1 (And.intro hv1 (And.intro hq2 hq3)))
        clear hb e1 hx hq1 hv1 hv2 hneg hq2 hq3
        go_upto_region 10 with (go_at_call 94; refine (C.out _).mono ?_; rintro e w' ⟨rfl, rfl⟩)
        obtain ⟨hq1, hv1, hq2, hq3⟩ := Q.out
        clear t1 Q
        go_wp2
        go_round
        case rel => exact ⟨k + 1, by omega, by go_num, by rw [hn.out]; congr 1; omega, hta.out⟩
        case measure => simp [RowKit.intOf]; omega
    · obtain rfl : k = 16 := by omega
      have hw : l.take 16 = l := List.take_of_length_le (by have := Hll.out; omega)
      rw [hw]
      have hr := hid (show unhexRes l = .tuple #[.int .u64 (hv l), .int .i64 0] by unfold unhexRes; rw [if_pos ⟨Hll.out, by have := Hall.out; rw [hw] at this; exact this⟩])
      generalize hv l = V at *
      go_wp2
      go_ret2
      exact ⟨by rw [hr.out]; rfl, HT.out⟩
end Go.Proofs.Ytiglfdefeaddmaa
