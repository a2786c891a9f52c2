/- The laws' own takes and Check. -/
import Derived.Test.YtiglfdefeaddmaaRefPany
import Derived.Test.YtiglfdefeaddmaaCheck
namespace Go.Proofs.Ytiglfdefeaddmaa
open Go.RowKit Go.Lib

/-- How many numbers a word takes and pushes. -/
def needs : Wk → Int × Int
  | .state => (0, 1) | .value => (0, 1) | .version => (0, 1) | .len => (0, 1) | .byte => (1, 1) | .neg => (1, 1)
  | .add => (2, 1) | .sub => (2, 1) | .mul => (2, 1) | .div => (2, 1) | .min => (2, 1) | .max => (2, 1) | .less => (2, 1)
  | .dup => (1, 2) | .drop => (1, 0) | .swap => (2, 2) | .pick => (3, 1) | .fail => (0, 0) | .num _ => (0, 1) | .none => (-1, 0)
/-- The words, each with its kind. -/
inductive Named : List UInt8 → Wk → Prop
  | state : Named wState .state
  | value : Named wValue .value
  | version : Named wVersion .version
  | len : Named wLen .len
  | byte : Named wByte .byte
  | neg : Named wNeg .neg
  | add : Named wAdd .add
  | sub : Named wSub .sub
  | mul : Named wMul .mul
  | div : Named wDiv .div
  | min : Named wMin .min
  | max : Named wMax .max
  | less : Named wLess .less
  | dup : Named wDup .dup
  | drop : Named wDrop .drop
  | swap : Named wSwap .swap
  | pick : Named wPick .pick
  | fail : Named wFail .fail
theorem named_cases (l : List UInt8) : (∃ k, Named l k ∧ kindOf l = k) ∨ NoName l := by
  rcases name_cases l with h | h
  · left
    rcases h with h | h | h | h | h | h | h | h | h | h | h | h | h | h | h | h | h | h <;> subst h
    · exact ⟨_, .state, rfl⟩
    · exact ⟨_, .value, rfl⟩
    · exact ⟨_, .version, rfl⟩
    · exact ⟨_, .len, rfl⟩
    · exact ⟨_, .byte, rfl⟩
    · exact ⟨_, .neg, rfl⟩
    · exact ⟨_, .dup, rfl⟩
    · exact ⟨_, .drop, rfl⟩
    · exact ⟨_, .swap, rfl⟩
    · exact ⟨_, .pick, rfl⟩
    · exact ⟨_, .fail, rfl⟩
    · exact ⟨_, .add, rfl⟩
    · exact ⟨_, .sub, rfl⟩
    · exact ⟨_, .mul, rfl⟩
    · exact ⟨_, .div, rfl⟩
    · exact ⟨_, .min, rfl⟩
    · exact ⟨_, .max, rfl⟩
    · exact ⟨_, .less, rfl⟩
  · exact .inr h
theorem two_tests {s : ByteArray} (h : NoName s.data.toList) :
    (s.toList == [97, 100, 100]) = false ∧ (s.toList == [115, 117, 98]) = false ∧ (s.toList == [109, 117, 108]) = false ∧ (s.toList == [100, 105, 118]) = false ∧ (s.toList == [109, 105, 110]) = false ∧ (s.toList == [109, 97, 120]) = false ∧ (s.toList == [108, 101, 115, 115]) = false :=
  ⟨(list_eq s wAdd).trans (decide_eq_false h.add), (list_eq s wSub).trans (decide_eq_false h.sub), (list_eq s wMul).trans (decide_eq_false h.mul), (list_eq s wDiv).trans (decide_eq_false h.div), (list_eq s wMin).trans (decide_eq_false h.min), (list_eq s wMax).trans (decide_eq_false h.max), (list_eq s wLess).trans (decide_eq_false h.less)⟩

theorem takes_named (l : List UInt8) (k : Wk) (h : Named l k) (w : World) :
    Calls Try.prog 28 #[.string ⟨l.toArray⟩] w fun e w' => e = .returned (.tuple #[.int .i64 (needs k).1, .int .i64 (needs k).2]) ∧ w = w' := by
  cases h
  all_goals
    go_enter Try.func28, Try.ntmps28
    go_wp2
    go_ret2
    exact ⟨rfl, rfl⟩
set_option maxRecDepth 100000 in
theorem takes_num (s : ByteArray) (w : World) (hs : s.size ≤ 100000) (h : NoName s.data.toList) (b : Bool) (hb : ((parseOf s.data.toList).2 == 0) = b) :
    Calls Try.prog 28 #[.string s] w fun e w' => e = .returned (.tuple #[.int .i64 (if b = true then 0 else -1), .int .i64 (if b = true then 1 else 0)]) ∧ w = w' := by
  have D := hid (refParse_any s w hs)
  obtain ⟨t1, t2, t3, t4, t5, t6, t7, t8, t9, t10, t11⟩ := no_tests h
  obtain ⟨u1', u2', u3', u4', u5', u6', u7'⟩ := two_tests h
  clear h hs
  generalize (parseOf s.data.toList).1 = p at *
  generalize (parseOf s.data.toList).2 = q at *
  cases b
  all_goals
    go_enter Try.func28, Try.ntmps28
    go_wp2_with (go_at_call 29; refine D.out.mono ?_; rintro e w2 ⟨rfl, rfl⟩)
    go_ret2
    exact ⟨rfl, rfl⟩
theorem takes_any (s : ByteArray) (w : World) (hs : s.size ≤ 100000) :
    Calls Try.prog 28 #[.string s] w fun e w' => e = .returned (.tuple #[.int .i64 (needs (kindOf s.data.toList)).1, .int .i64 (needs (kindOf s.data.toList)).2]) ∧ w = w' := by
  rcases named_cases s.data.toList with ⟨k, h1, h2⟩ | hn
  · have h := takes_named _ _ h1 w
    rw [h2]
    rwa [← arr_eq (s := s) rfl] at h
  · by_cases e0 : (parseOf s.data.toList).2 = 0
    · have h := takes_num s w hs hn true (by simpa using e0)
      rw [kind_num hn e0]
      exact h
    · have h := takes_num s w hs hn false (by simpa using e0)
      rw [kind_none hn e0]
      exact h
theorem needs_none (k : Wk) : decide ((needs k).1 < 0) = isNo k := by cases k <;> rfl

set_option maxHeartbeats 1000000 in
theorem refCheck_any (x : Option Addr) (c : Nat) (l : List ByteArray) (w : World) (hl : l.length ≤ 100000) (hx : TextsX w x l) (hsz : ∀ s ∈ l, s.size ≤ 100000) :
    Calls Try.prog 27 #[.slice x l.length c] w fun e w' => e = .returned (.tuple #[.int .i64 (checkOf l).1, .int .i64 (checkOf l).2]) ∧ w = w' := by
  by_cases hlen : 64 < l.length
  · have hc := hid (check_long hlen)
    have h1 : decide (64 < l.length) = true := by simpa using hlen
    have h1i : decide (64 < (l.length : Int)) = true := by simp; omega
    clear hx hlen hsz
    go_enter Try.func27, Try.ntmps27
    go_wp2
    go_ret2
    exact ⟨by rw [hc.out]; rfl, rfl⟩
  · have h1 : decide (64 < l.length) = false := by simpa using hlen
    have h1i : decide (64 < (l.length : Int)) = false := by simp; omega
    have HX := hid hx
    have HS := hid hsz
    have HL : Hid (l.length ≤ 64) := by unfold Hid; omega
    clear hx hlen hsz
    go_enter Try.func27, Try.ntmps27
    go_wp2
    go_loop [4] (fun iv => ∃ k : Nat, k ≤ l.length ∧ iv = .int .i64 k ∧ ∀ j (hj : j < k) (hjl : j < l.length), noWord l[j] = false) (fun iv => l.length - (RowKit.intOf iv).toNat)
    case atStart => exact ⟨0, Nat.zero_le _, rfl, fun j hj => absurd hj (Nat.not_lt_zero j)⟩
    case round =>
      obtain ⟨k, hk, rfl, hall⟩ := hrel
      have HA := hid hall
      clear hall
      by_cases hlt : k < l.length
      · obtain ⟨b, off, rfl, g1, g2⟩ := HX.out k hlt
        have hl2 : decide (k < l.length) = true := by simpa using hlt
        have C := hid (fun w => takes_any l[k] w (HS.out _ (List.getElem_mem hlt)))
        have hN := needs_none (kindOf l[k].data.toList)
        by_cases hno : noWord l[k] = true
        · have hc := hid (check_bad HL.out k hlt hno (fun j hj => HA.out j hj (by omega)))
          rw [show isNo (kindOf l[k].data.toList) = true from hno] at hN
          clear hno
          generalize (needs (kindOf l[k].data.toList)).1 = n1 at *
          generalize (needs (kindOf l[k].data.toList)).2 = n2 at *
          clear g2
          generalize l[k] = s at *
          go_wp2_with (go_at_call 28; refine (C.out _).mono ?_; rintro e w1 ⟨rfl, rfl⟩)
          go_ret2
          exact ⟨by rw [hc.out]; rfl, rfl⟩
        · have hn0 : noWord l[k] = false := by simpa using hno
          have HA2 : Hid (∀ j (hj : j < k + 1) (hjl : j < l.length), noWord l[j] = false) := fun j hj hjl => by
            rcases Nat.lt_or_ge j k with h | h
            · exact HA.out j h hjl
            · obtain rfl : j = k := by omega
              exact hn0
          rw [show isNo (kindOf l[k].data.toList) = false from hn0] at hN
          clear hno hn0
          generalize (needs (kindOf l[k].data.toList)).1 = n1 at *
          generalize (needs (kindOf l[k].data.toList)).2 = n2 at *
          clear g2
          generalize l[k] = s at *
          go_wp2_with (go_at_call 28; refine (C.out _).mono ?_; rintro e w1 ⟨rfl, rfl⟩)
          go_round
          case rel => exact ⟨k + 1, by omega, by go_num, HA2.out⟩
          case measure => simp [RowKit.intOf]; omega
      · obtain rfl : k = l.length := by omega
        have hc := hid (check_ok HL.out (fun j hj => HA.out j hj hj))
        have hl2 : decide (l.length < l.length) = false := by simp
        clear hk hlt
        go_wp2
        go_ret2
        exact ⟨by rw [hc.out]; rfl, rfl⟩
end Go.Proofs.Ytiglfdefeaddmaa
