/- The laws' own Get. -/
import Derived.Test.YtcihnfgfficmlaaTake7
namespace Go.Proofs.Ytcihnfgfficmlaa
open Go.RowKit Go.Lib

/-- The events of bytes: as many as were read in so many rounds, and what is left. -/
def upto (st : List UInt8 × Int) : Nat → List EvD × (List UInt8 × Int)
  | 0 => ([], st)
  | j + 1 => if (upto st j).2.2 ≠ 0 then upto st j else ((upto st j).1 ++ [(takeE (upto st j).2).1], (takeE (upto st j).2).2)
theorem upto_step {st : List UInt8 × Int} {j : Nat} (h : (upto st j).2.2 = 0) : upto st (j + 1) = ((upto st j).1 ++ [(takeE (upto st j).2).1], (takeE (upto st j).2).2) := by
  rw [upto, if_neg (by simpa using h)]
theorem upto_stop {st : List UInt8 × Int} {j : Nat} (h : (upto st j).2.2 ≠ 0) : ∀ n, j ≤ n → upto st n = upto st j
  | 0, hn => by
    obtain rfl : j = 0 := by omega
    rfl
  | n + 1, hn => by
    by_cases e : j = n + 1
    · rw [e]
    · have ih := upto_stop h n (by omega)
      rw [upto, if_pos (by rw [ih]; exact h), ih]
theorem takeE_le (st : List UInt8 × Int) : (takeE st).2.1.length ≤ st.1.length := by
  unfold takeE
  exact Nat.le_trans (iTake_le _ _).2 (Nat.le_trans (iText_le _ _) (Nat.le_trans (iText_le _ _) (iTake_le _ _).2))
theorem upto_le (st : List UInt8 × Int) : ∀ j, (upto st j).2.1.length ≤ st.1.length
  | 0 => Nat.le_refl _
  | j + 1 => by
    rw [upto]
    split
    · exact upto_le st j
    · exact Nat.le_trans (takeE_le _) (upto_le st j)
theorem upto_len (st : List UInt8 × Int) : ∀ j, (upto st j).1.length ≤ j
  | 0 => Nat.le_refl _
  | j + 1 => by
    rw [upto]
    split
    · exact Nat.le_succ_of_le (upto_len st j)
    · rw [List.length_append]; have := upto_len st j; simp; omega
theorem upto_full {st : List UInt8 × Int} : ∀ j, (upto st j).2.2 = 0 → (upto st j).1.length = j
  | 0, _ => rfl
  | j + 1, h => by
    by_cases e : (upto st j).2.2 = 0
    · rw [upto_step e, List.length_append, upto_full j e]; rfl
    · rw [upto, if_pos e] at h; exact absurd h e

/-- Where there is an error nothing is left. -/
def ErrNil (st : List UInt8 × Int) : Prop := st.2 ≠ 0 → st.1 = []
theorem errNil_take {st : List UInt8 × Int} (h : ErrNil st) (n : Nat) : ErrNil (iTake st n).2 := by
  unfold iTake
  split
  · exact h
  · split
    · exact fun _ => rfl
    · exact fun h => absurd rfl h
theorem errNil_text {st : List UInt8 × Int} (h : ErrNil st) (m : Int) : ErrNil (iText st m).2 := by
  unfold iText
  split
  · exact fun _ => rfl
  · exact errNil_take (errNil_take h 4) _
theorem errNil_takeE {st : List UInt8 × Int} (h : ErrNil st) : ErrNil (takeE st).2 := errNil_take (errNil_text (errNil_text (errNil_take h 8) 60) 200) 8
theorem errNil_upto {st : List UInt8 × Int} (h : ErrNil st) : ∀ j, ErrNil (upto st j).2
  | 0 => h
  | j + 1 => by
    rw [upto]
    split
    · exact errNil_upto h j
    · exact errNil_takeE (errNil_upto h j)

/-- What is read of bytes. -/
structure Got where
  k : List UInt8 × (List UInt8 × Int)
  t : List UInt8 × (List UInt8 × Int)
  s : List UInt8 × (List UInt8 × Int)
  x : List UInt8 × (List UInt8 × Int)
  n : List UInt8 × (List UInt8 × Int)
  l : List EvD × (List UInt8 × Int)
  p : List UInt8 × (List UInt8 × Int)
  q : List UInt8 × (List UInt8 × Int)
  r : List UInt8 × (List UInt8 × Int)
structure Reads (b : List UInt8) (g : Got) : Prop where
  k : g.k = iTake (b, 0) 1
  t : g.t = iTake g.k.2 8
  s : g.s = iText g.t.2 60
  x : g.x = iTake g.s.2 8
  n : g.n = iTake g.x.2 1
  l : g.l = upto g.n.2 (val g.n.1)
  p : g.p = iTake g.l.2 8
  q : g.q = iTake g.p.2 8
  r : g.r = iTake g.q.2 8
def Got.cmd (g : Got) : CmdD := ⟨val g.k.1, i64 (val g.t.1), bytesT g.s.1, i64 (val g.x.1), g.l.1, i64 (val g.p.1), i64 (val g.q.1), i64 (val g.r.1)⟩
def gotOf (b : List UInt8) : Got :=
  let k := iTake (b, 0) 1
  let t := iTake k.2 8
  let s := iText t.2 60
  let x := iTake s.2 8
  let n := iTake x.2 1
  let l := upto n.2 (val n.1)
  let p := iTake l.2 8
  let q := iTake p.2 8
  let r := iTake q.2 8
  ⟨k, t, s, x, n, l, p, q, r⟩
theorem reads_got (b : List UInt8) : Reads b (gotOf b) := ⟨rfl, rfl, rfl, rfl, rfl, rfl, rfl, rfl, rfl⟩
def zeroC : CmdD := ⟨0, 0, ⟨#[]⟩, 0, [], 0, 0, 0⟩
/-- What Get tells. -/
def getOf (b : List UInt8) : CmdD × Int :=
  if (iEnd (gotOf b).r.2).2 ≠ 0 then (zeroC, (iEnd (gotOf b).r.2).2) else if checkC (gotOf b).cmd ≠ 0 ∨ layC (gotOf b).cmd ≠ b then (zeroC, 6) else ((gotOf b).cmd, 0)

/-! ### Events that the call itself has laid -/
def evCells (l : List EvD) : List Value := l.flatMap fun e => [.int .i64 e.id, .string e.typ, .string e.data, .float .f64 e.val]
theorem evCells_len (l : List EvD) : (evCells l).length = l.length * 4 := by
  induction l with
  | nil => rfl
  | cons e l ih =>
    have : (evCells (e :: l)).length = 4 + (evCells l).length := by simp [evCells]; omega
    rw [this, ih, List.length_cons]; omega
theorem evCells_snoc (l : List EvD) (e : EvD) : evCells (l ++ [e]) = evCells l ++ [.int .i64 e.id, .string e.typ, .string e.data, .float .f64 e.val] := by simp [evCells]
theorem evCells_at : ∀ (l : List EvD) (i : Nat) (h : i < l.length), (evCells l)[i * 4]? = some (.int .i64 l[i].id) ∧ (evCells l)[i * 4 + 1]? = some (.string l[i].typ) ∧ (evCells l)[i * 4 + 2]? = some (.string l[i].data) ∧ (evCells l)[i * 4 + 3]? = some (.float .f64 l[i].val)
  | [], i, h => by simp at h
  | e :: l, 0, _ => ⟨rfl, rfl, rfl, rfl⟩
  | e :: l, i + 1, h => by
    have ih := evCells_at l i (by simpa using h)
    have e1 : evCells (e :: l) = [.int .i64 e.id, .string e.typ, .string e.data, .float .f64 e.val] ++ evCells l := by simp [evCells]
    rw [e1]
    have hd : ∀ j, ([Value.int .i64 e.id, .string e.typ, .string e.data, .float .f64 e.val] ++ evCells l)[(i + 1) * 4 + j]? = (evCells l)[i * 4 + j]? := fun j => by
      rw [List.getElem?_append_right (by simp; omega)]
      congr 1
      simp; omega
    have h0 := hd 0
    simp only [Nat.add_zero] at h0
    exact ⟨h0.trans ih.1, (hd 1).trans ih.2.1, (hd 2).trans ih.2.2.1, (hd 3).trans ih.2.2.2⟩
/-- A row of events of the call's own, as a slice of events. -/
theorem evX_own {W : World} {b : Nat} {v : Value} {l : List EvD} (h : W.ownsRow b tEv 4 v l.length (evCells l)) (hok : ∀ e ∈ l, e.Ok) : ∃ y cap, v = .slice y l.length cap ∧ EvX W y l ∧ ∀ a, y = some a → b ≤ a.block := by
  obtain ⟨_, ⟨rfl, hn⟩ | ⟨g, cap, cur, rfl, hg, hh, _, _, _, ht⟩⟩ := h
  · refine ⟨none, 0, by rw [hn], fun i hi => by omega, fun a ha => by cases ha⟩
  · refine ⟨some ⟨g, 0, none⟩, cap, rfl, fun i hi => ⟨g, 0, rfl, ?_, hok _ (List.getElem_mem hi)⟩, fun a ha => by cases ha; exact hg⟩
    have hc : ∀ j, j < l.length * 4 → W.cell? ⟨g, j, none⟩ = (evCells l)[j]? := fun j hj => by
      rw [cell_of hh j, ← ht, List.getElem?_take, if_pos hj]
      simp
    obtain ⟨e0, e1, e2, e3⟩ := evCells_at l i hi
    refine ⟨?_, ?_, ?_, ?_⟩
    · rw [Nat.zero_add, hc _ (by omega)]; exact e0
    · rw [Nat.zero_add, hc _ (by omega)]; exact e1
    · rw [Nat.zero_add, hc _ (by omega)]; exact e2
    · rw [Nat.zero_add, hc _ (by omega)]; exact e3
end Go.Proofs.Ytcihnfgfficmlaa
