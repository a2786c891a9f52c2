/- What each word of a program makes of the numbers, as plain functions. -/
import Derived.Test.YtiglfdefeaddmaaMachb
import Derived.Test.YtiglfdefeaddmaaParse
namespace Go.Proofs.Ytiglfdefeaddmaa
open Go.RowKit Go.Lib Ieee

/-- What an operation of two numbers comes to; of what has none the one NaN. -/
def ar (op : BinOp) (a b : Nat) : Nat := (floatBits op .f64 a b).getD oneNan
theorem ar_wd (op : BinOp) (a b : Nat) : Wd (ar op a b) := by
  unfold ar
  cases h : floatBits op .f64 a b with
  | none => exact (by decide : Wd oneNan)
  | some r =>
    have := floatBits_wf h
    simp only [Lit.wf, decide_eq_true_eq] at this
    exact this
theorem run_ar (op : BinOp) (hop : op = .add ∨ op = .sub ∨ op = .mul ∨ op = .quo) (a b : Nat) (w : World) : ∃ r w', (∀ t, (binOp op t (.float .f64 a) (.float .f64 b)).run Try.prog w = .ok (.float .f64 r) w') ∧ Wd r ∧ can r = can (ar op a b) ∧ Touch [] w w' := by
  cases h : floatBits op .f64 a b with
  | some r =>
    refine ⟨r, w, fun t => run_float_arith w op t .f64 a b r h, ?_, ?_, Touch.refl _ _⟩
    · have := ar_wd op a b
      unfold ar at this
      rw [h] at this
      exact this
    · unfold ar
      rw [h]; rfl
  | none =>
    have hq := nan_cut (w.tape w.drawn (.nanBits .f64 a b))
    refine ⟨_, w.drew, fun t => ?_, hq.1, ?_, (Touch.refl _ w).drew⟩
    · rcases hop with rfl | rfl | rfl | rfl
      · have h' : FloatKind.f64.format.add a b = none := h
        simp [binOp, Op.floatArith, h', Question.forced, Question.cut]
      · have h' : FloatKind.f64.format.sub a b = none := h
        simp [binOp, Op.floatArith, h', Question.forced, Question.cut]
      · have h' : FloatKind.f64.format.mul a b = none := h
        simp [binOp, Op.floatArith, h', Question.forced, Question.cut]
      · have h' : FloatKind.f64.format.div a b = none := h
        simp [binOp, Op.floatArith, h', Question.forced, Question.cut]
    · rw [can_nan hq.2]
      unfold ar
      rw [h]; rfl

/-- A word's kind. -/
inductive Wk
  | state | value | version | len | byte | neg | dup | drop | swap | pick | fail
  | add | sub | mul | div | min | max | less
  | num (b : Nat) | none

def wState : List UInt8 := [115, 116, 97, 116, 101]
def wValue : List UInt8 := [118, 97, 108, 117, 101]
def wVersion : List UInt8 := [118, 101, 114, 115, 105, 111, 110]
def wLen : List UInt8 := [108, 101, 110]
def wByte : List UInt8 := [98, 121, 116, 101]
def wNeg : List UInt8 := [110, 101, 103]
def wDup : List UInt8 := [100, 117, 112]
def wDrop : List UInt8 := [100, 114, 111, 112]
def wSwap : List UInt8 := [115, 119, 97, 112]
def wPick : List UInt8 := [112, 105, 99, 107]
def wFail : List UInt8 := [102, 97, 105, 108]
def wAdd : List UInt8 := [97, 100, 100]
def wSub : List UInt8 := [115, 117, 98]
def wMul : List UInt8 := [109, 117, 108]
def wDiv : List UInt8 := [100, 105, 118]
def wMin : List UInt8 := [109, 105, 110]
def wMax : List UInt8 := [109, 97, 120]
def wLess : List UInt8 := [108, 101, 115, 115]

def kindOf (l : List UInt8) : Wk :=
  if l = wState then .state else if l = wValue then .value else if l = wVersion then .version else if l = wLen then .len else if l = wByte then .byte else if l = wNeg then .neg
  else if l = wDup then .dup else if l = wDrop then .drop else if l = wSwap then .swap else if l = wPick then .pick else if l = wFail then .fail
  else if l = wAdd then .add else if l = wSub then .sub else if l = wMul then .mul else if l = wDiv then .div else if l = wMin then .min else if l = wMax then .max else if l = wLess then .less
  else if (parseOf l).2 = 0 then .num (parseOf l).1 else .none

/-- A text is none of the words. -/
structure NoName (l : List UInt8) : Prop where
  state : l ≠ wState
  value : l ≠ wValue
  version : l ≠ wVersion
  len : l ≠ wLen
  byte : l ≠ wByte
  neg : l ≠ wNeg
  dup : l ≠ wDup
  drop : l ≠ wDrop
  swap : l ≠ wSwap
  pick : l ≠ wPick
  fail : l ≠ wFail
  add : l ≠ wAdd
  sub : l ≠ wSub
  mul : l ≠ wMul
  div : l ≠ wDiv
  min : l ≠ wMin
  max : l ≠ wMax
  less : l ≠ wLess
theorem kind_num {l : List UInt8} (h : NoName l) (e : (parseOf l).2 = 0) : kindOf l = .num (parseOf l).1 := by
  unfold kindOf
  rw [if_neg h.state, if_neg h.value, if_neg h.version, if_neg h.len, if_neg h.byte, if_neg h.neg, if_neg h.dup, if_neg h.drop, if_neg h.swap, if_neg h.pick, if_neg h.fail,
    if_neg h.add, if_neg h.sub, if_neg h.mul, if_neg h.div, if_neg h.min, if_neg h.max, if_neg h.less, if_pos e]
theorem kind_none {l : List UInt8} (h : NoName l) (e : (parseOf l).2 ≠ 0) : kindOf l = .none := by
  unfold kindOf
  rw [if_neg h.state, if_neg h.value, if_neg h.version, if_neg h.len, if_neg h.byte, if_neg h.neg, if_neg h.dup, if_neg h.drop, if_neg h.swap, if_neg h.pick, if_neg h.fail,
    if_neg h.add, if_neg h.sub, if_neg h.mul, if_neg h.div, if_neg h.min, if_neg h.max, if_neg h.less, if_neg e]
/-- A text is one of the words, or none of them. -/
theorem name_cases (l : List UInt8) : (l = wState ∨ l = wValue ∨ l = wVersion ∨ l = wLen ∨ l = wByte ∨ l = wNeg ∨ l = wDup ∨ l = wDrop ∨ l = wSwap ∨ l = wPick ∨ l = wFail ∨ l = wAdd ∨ l = wSub ∨ l = wMul ∨ l = wDiv ∨ l = wMin ∨ l = wMax ∨ l = wLess) ∨ NoName l := by
  by_cases h : (l = wState ∨ l = wValue ∨ l = wVersion ∨ l = wLen ∨ l = wByte ∨ l = wNeg ∨ l = wDup ∨ l = wDrop ∨ l = wSwap ∨ l = wPick ∨ l = wFail ∨ l = wAdd ∨ l = wSub ∨ l = wMul ∨ l = wDiv ∨ l = wMin ∨ l = wMax ∨ l = wLess)
  · exact .inl h
  · right
    simp only [not_or] at h
    obtain ⟨h1, h2, h3, h4, h5, h6, h7, h8, h9, h10, h11, h12, h13, h14, h15, h16, h17, h18⟩ := h
    exact ⟨h1, h2, h3, h4, h5, h6, h7, h8, h9, h10, h11, h12, h13, h14, h15, h16, h17, h18⟩

/-- Whether a number stands for a place below n, and which byte stands there. -/
noncomputable def inside (n x : Nat) : Bool := (DD.order x 0 == some .gt || DD.order x 0 == some .eq) && DD.order x (fl n) == some .lt
open Classical in
noncomputable def placeB (n x : Nat) : Bool := inside n x && decide (W x)
noncomputable def placeOf (x : Nat) : Nat := (ival x).toNat

/-- What a word comes to: the numbers behind it, or a fault. -/
inductive Out
  | ok (s : List Nat)
  | bad (f : FltD)

noncomputable def stepK (E : EnvD) (k : Wk) (s : List Nat) : Out :=
  match k, s with
  | .state, s => .ok (can E.state :: s)
  | .value, s => .ok (can E.value :: s)
  | .version, s => .ok (can (fl E.version) :: s)
  | .len, s => .ok (can (fl E.data.size) :: s)
  | .byte, x :: s => if placeB E.data.size x = true then .ok (can (fl ((E.data.data.toList.getD (placeOf x) 0).toNat : Int)) :: s) else .bad runtimeF
  | .neg, x :: s => .ok (can (flip x) :: s)
  | .dup, x :: s => .ok (can x :: can x :: s)
  | .drop, _ :: s => .ok s
  | .swap, b :: a :: s => .ok (can a :: can b :: s)
  | .pick, c :: b :: a :: s => .ok (can (if cls c = 0 ∨ cls c = 3 ∨ cls c = 4 then b else a) :: s)
  | .fail, _ => .bad ⟨21, 3, ⟨wFail.toArray⟩⟩
  | .add, b :: a :: s => .ok (can (ar .add a b) :: s)
  | .sub, b :: a :: s => .ok (can (ar .sub a b) :: s)
  | .mul, b :: a :: s => .ok (can (ar .mul a b) :: s)
  | .div, b :: a :: s => .ok (can (ar .quo a b) :: s)
  | .min, b :: a :: s => .ok (can (leastOf [a, b]) :: s)
  | .max, b :: a :: s => .ok (can (mostOf [a, b]) :: s)
  | .less, b :: a :: s => .ok (can (if rank a < rank b then 4607182418800017408 else 0) :: s)
  | .num b, s => .ok (can b :: s)
  | _, _ => .bad runtimeF

noncomputable def exec (E : EnvD) : List (List UInt8) → List Nat → Out
  | [], s => .ok s
  | w :: ws, s => match stepK E (kindOf w) s with
    | .ok s' => exec E ws s'
    | .bad f => .bad f
theorem exec_append (E : EnvD) : ∀ (a b : List (List UInt8)) (s : List Nat), exec E (a ++ b) s = match exec E a s with | .ok s' => exec E b s' | .bad f => .bad f
  | [], b, s => rfl
  | w :: a, b, s => by
    simp only [List.cons_append, exec]
    cases stepK E (kindOf w) s with
    | ok s' => exact exec_append E a b s'
    | bad f => rfl
end Go.Proofs.Ytiglfdefeaddmaa
