/- What Check tells. -/
import Derived.Test.YtiglfdefeaddmaaMean
import Derived.Test.YtiglfdefeaddmaaLists
namespace Go.Proofs.Ytiglfdefeaddmaa
open Go.RowKit Go.Lib

def noWord (s : ByteArray) : Bool := isNo (kindOf s.data.toList)
def checkOf (l : List ByteArray) : Int × Int :=
  if 64 < l.length then (2, 64) else match l.findIdx? noWord with
    | some k => (6, (k : Int))
    | none => (0, 0)
theorem noWord_iff (s : ByteArray) : noWord s = true ↔ kindOf s.data.toList = .none := by
  unfold noWord
  cases kindOf s.data.toList <;> simp [isNo]
theorem check_long {l : List ByteArray} (h : 64 < l.length) : checkOf l = (2, 64) := by unfold checkOf; rw [if_pos h]
theorem check_bad {l : List ByteArray} (h : l.length ≤ 64) (k : Nat) (hk : k < l.length) (hb : noWord l[k] = true) (ha : ∀ j (hj : j < k), noWord (l[j]'(by omega)) = false) : checkOf l = (6, (k : Int)) := by
  unfold checkOf
  rw [if_neg (by omega), List.findIdx?_eq_some_iff_getElem.2 ⟨hk, hb, fun j hj => by rw [ha j hj]; simp⟩]
theorem check_ok {l : List ByteArray} (h : l.length ≤ 64) (ha : ∀ j (hj : j < l.length), noWord l[j] = false) : checkOf l = (0, 0) := by
  unfold checkOf
  rw [if_neg (by omega), List.findIdx?_eq_none_iff.2]
  intro s hs
  obtain ⟨j, hj, rfl⟩ := List.getElem_of_mem hs
  exact ha j hj
theorem ok_of_check {l : List ByteArray} (h : (checkOf l).1 = 0) : l.length ≤ 64 ∧ ∀ j (hj : j < l.length), noWord l[j] = false := by
  unfold checkOf at h
  split at h
  · simp at h
  · rename_i hl
    refine ⟨by omega, fun j hj => ?_⟩
    split at h
    · simp at h
    · rename_i hn
      exact (List.findIdx?_eq_none_iff.1 hn) _ (List.getElem_mem hj)

set_option maxHeartbeats 1000000 in
theorem check_any (x : Option Addr) (c : Nat) (l : List ByteArray) (W : World) (hl : l.length ≤ 9223372036854775807) (hx : TextsX W x l) :
    Calls Try.prog 24 #[.agg #[.slice x l.length c]] W fun e w' => e = .returned (.tuple #[.int .i64 (checkOf l).1, .int .i64 (checkOf l).2]) ∧ Touch [] W w' := by
  by_cases hlen : 64 < l.length
  · have hc := hid (check_long hlen)
    have h1 : decide (64 < l.length) = true := by simpa using hlen
    have h1i : decide (64 < (l.length : Int)) = true := by simp; omega
    clear hx hlen
    go_enter Try.func24, Try.ntmps24
    go_wp2
    go_ret2
    exact ⟨by rw [hc.out]; rfl, (Touch.refl _ _).alloc _⟩
  · have h1 : decide (64 < l.length) = false := by simpa using hlen
    have h1i : decide (64 < (l.length : Int)) = false := by simp; omega
    have HX := hid hx
    have HL : Hid (l.length ≤ 64) := by unfold Hid; omega
    clear hx hlen
    go_enter Try.func24, Try.ntmps24
    go_wp2
    go_loopw [13] (fun iv wr => ∃ k : Nat, k ≤ l.length ∧ iv = .int .i64 k ∧ Touch [] W wr ∧ ∀ j (hj : j < k) (hjl : j < l.length), noWord l[j] = false) (fun iv _ => l.length - (RowKit.intOf iv).toNat)
    case atStart => exact ⟨0, Nat.zero_le _, rfl, (Touch.refl _ _).alloc _, fun j hj => absurd hj (Nat.not_lt_zero j)⟩
    case round =>
      obtain ⟨k, hk, rfl, ht, hall⟩ := hrel
      have HT := hid ht
      have HA := hid hall
      clear ht hall
      by_cases hlt : k < l.length
      · obtain ⟨b, off, rfl, g1, g2⟩ := HX.out k hlt
        have g3 := HT.out.cell g1
        have hl2 : decide (k < l.length) = true := by simpa using hlt
        have hl64 := HL.out
        by_cases hno : noWord l[k] = true
        · have hc := hid (check_bad hl64 k hlt hno (fun j hj => HA.out j hj (by omega)))
          have C := hid (fun w => mean_none l[k] w (by unfold maxLen at g2; omega) ((noWord_iff _).1 hno))
          have hn : ∀ w, (binOp .eql 74 .nilFunc .nilFunc).run Try.prog w = .ok (.bool true) w := fun w => by kernel_rfl
          clear g1 g2 hno
          generalize l[k] = s at *
          go_wp2_with (go_at_call 39; refine (C.out _).mono ?_; rintro e w1 ⟨rfl, h1⟩)
          go_ret2
          exact ⟨by rw [hc.out]; rfl, HT.out.trans h1 (by simp)⟩
        · have hn0 : noWord l[k] = false := by simpa using hno
          have HA2 : Hid (∀ j (hj : j < k + 1) (hjl : j < l.length), noWord l[j] = false) := fun j hj hjl => by
            rcases Nat.lt_or_ge j k with h | h
            · exact HA.out j h hjl
            · obtain rfl : j = k := by omega
              exact hn0
          have C := hid (fun w => mean_some l[k] w (by unfold maxLen at g2; omega) (fun e => hno ((noWord_iff _).2 e)))
          clear g1 g2 hno hn0
          generalize l[k] = s at *
          go_wp2_with fail
          refine (C.out _).mono ?_
          rintro e w1 ⟨v, rfl, ⟨fn, cap, rfl, hfn⟩, h1⟩
          have hn : ∀ w, (binOp .eql 74 (.func (.func fn) #[] cap) .nilFunc).run Try.prog w = .ok (.bool false) w := fun w => by kernel_rfl
          clear hfn C
          go_wp2
          go_roundw
          case rel => exact ⟨k + 1, by omega, by go_num, HT.out.trans h1 (by simp), HA2.out⟩
          case measure => simp [RowKit.intOf]; omega
      · obtain rfl : k = l.length := by omega
        have hc := hid (check_ok HL.out (fun j hj => HA.out j hj hj))
        have hl2 : decide (l.length < l.length) = false := by simp
        clear hk hlt
        go_wp2
        go_ret2
        exact ⟨by rw [hc.out]; rfl, HT.out⟩
end Go.Proofs.Ytiglfdefeaddmaa
