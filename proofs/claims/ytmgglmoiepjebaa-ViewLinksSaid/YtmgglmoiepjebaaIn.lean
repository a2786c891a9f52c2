/- What the methods of codec.In return and leave. -/
import Derived.Test.YtmgglmoiepjebaaBase
import Derived.Test.YtmgglmoiepjebaaProg
import Derived.Lib.Strings
namespace Go.Proofs.Ytmgglmoiepjebaa
set_option maxRecDepth 100000
open Go.RowKit Go.Lib

theorem str_eq {s : ByteArray} {l : List UInt8} (h : s.data.toList = l) : s = ⟨l.toArray⟩ := by subst h; simp

def iFail (st : List UInt8 × Int) (e : Int) : List UInt8 × Int := if st.2 = 0 then ([], e) else st

def iTake (st : List UInt8 × Int) (n : Nat) : List UInt8 × (List UInt8 × Int) :=
  if st.2 ≠ 0 then ([], st) else if st.1.length < n then ([], ([], 5)) else (st.1.take n, (st.1.drop n, 0))

/-- The bytes as a number, the highest first. -/
def val (l : List UInt8) : Nat := l.foldl (fun v c => v * 256 + c.toNat) 0

theorem val_snoc (l : List UInt8) (c : UInt8) : val (l ++ [c]) = val l * 256 + c.toNat := by simp [val]
theorem val_lt_aux : ∀ (l : List UInt8) (a : Nat), l.foldl (fun v c => v * 256 + c.toNat) a < (a + 1) * 256 ^ l.length
  | [], a => by simp
  | c :: l, a => by
    have h := val_lt_aux l (a * 256 + c.toNat)
    have hc := c.toNat_lt
    simp only [List.foldl_cons, List.length_cons]
    refine Nat.lt_of_lt_of_le h ?_
    rw [Nat.pow_succ, Nat.mul_comm (256 ^ l.length) 256, ← Nat.mul_assoc]
    exact Nat.mul_le_mul_right _ (by omega)
theorem val_lt (l : List UInt8) : val l < 256 ^ l.length := by simpa [val] using val_lt_aux l 0
theorem val_take (l : List UInt8) (k : Nat) (h : k < l.length) : val (l.take (k + 1)) = val (l.take k) * 256 + l[k].toNat := by
  rw [List.take_succ_eq_append_getElem h, val_snoc]
theorem val_take_lt (l : List UInt8) (k : Nat) (h : k ≤ 7) : val (l.take k) < 72057594037927936 := by
  have h1 := val_lt (l.take k)
  have h2 : (l.take k).length ≤ 7 := by rw [List.length_take]; omega
  have h3 : 256 ^ (l.take k).length ≤ 256 ^ 7 := Nat.pow_le_pow_right (by decide) h2
  have h4 : (256 : Nat) ^ 7 = 72057594037927936 := by decide
  omega
/-- One step: 'v<<8 | uint64(c)'. -/
theorem val_step (V c : Nat) (hV : V < 72057594037927936) (hc : c < 256) : bits BinOp.or IntKind.u64 (IntKind.u64.wrap ((V : Int) * 256)) (IntKind.u64.wrap (c : Int)) = ((V * 256 + c : Nat) : Int) := by
  have e1 : IntKind.u64.wrap ((V : Int) * 256) = ((V * 256 : Nat) : Int) := by rw [IntKind.wrap_u64]; omega
  have e2 : IntKind.u64.wrap (c : Int) = (c : Int) := by rw [IntKind.wrap_u64]; omega
  rw [e1, e2, u64_or_nat _ _ (by omega) (by omega)]
  have := Nat.two_pow_add_eq_or_of_lt (i := 8) (b := c) (by simpa using hc) V
  rw [show V * 256 = 2 ^ 8 * V by omega, this]

/-- Behind R, and then something that touched nothing. -/
def Behind (R : World → Prop) (w' : World) : Prop := ∃ w1, R w1 ∧ Touch [] w1 w'

theorem iTake_len (st : List UInt8 × Int) (n : Nat) : (iTake st n).1.length ≤ n := by
  unfold iTake
  split
  · simp
  · split
    · simp
    · simp; omega
theorem iTake_le (st : List UInt8 × Int) (n : Nat) : (iTake st n).1.length ≤ st.1.length ∧ (iTake st n).2.1.length ≤ st.1.length := by
  unfold iTake
  split
  · simp
  · split
    · simp
    · simp; omega

/-! ### The exported readers -/
/-- End. -/
def iEnd (st : List UInt8 × Int) : List UInt8 × Int := if st.1 = [] then st else ([], 6)
end Go.Proofs.Ytmgglmoiepjebaa
