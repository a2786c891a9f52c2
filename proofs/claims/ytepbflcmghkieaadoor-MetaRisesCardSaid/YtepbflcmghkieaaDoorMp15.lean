/- Metadata as a text, purely: its words, what reads them. -/
import Derived.Test.YtepbflcmghkieaaDoorRWords
import Derived.Test.YtepbflcmghkieaaDoorDig
import Derived.Test.YtepbflcmghkieaaDoorMv15
import Derived.Lib.Join
namespace Go.Proofs.YtepbflcmghkieaaDoor
open Go.RowKit Go.Lib
set_option maxRecDepth 100000

def GoodW (s : ByteArray) : Prop := s.data.toList ≠ [] ∧ ∀ x ∈ s.data.toList, x ≠ 32
/-- The words between one blank each. -/
def joinL (l : List ByteArray) : List UInt8 := Lib.join (l.map (·.data.toList)) [32]
theorem joinL_cons (s t : ByteArray) (l : List ByteArray) : joinL (s :: t :: l) = s.data.toList ++ 32 :: joinL (t :: l) := by
  simp [joinL, Lib.join, List.intercalate]
theorem joinL_one (s : ByteArray) : joinL [s] = s.data.toList := by simp [joinL, Lib.join_one]
theorem words_joinL : ∀ l : List ByteArray, (∀ s ∈ l, GoodW s) → wordsB (joinL l) = l
  | [], _ => rfl
  | [s], h => by
    obtain ⟨h1, h2⟩ := h s (by simp)
    obtain ⟨h3, h4⟩ := hd_all h2
    rw [joinL_one, wordsB_yes h1 (by rw [h3]; exact h1), h3, h4, wordsB_nil]
    exact congrArg (· :: []) (arr_eq rfl).symm
  | s :: t :: l, h => by
    obtain ⟨h1, h2⟩ := h s (by simp)
    rw [joinL_cons]
    obtain ⟨h3, h4⟩ := hd_app (q := joinL (t :: l)) h2
    rw [wordsB_yes (by simp) (by rw [h3]; exact h1), h3, h4, words_joinL (t :: l) (fun x hx => h x (by simp [hx]))]
    exact congrArg (· :: t :: l) (arr_eq rfl).symm
/-- A text in pieces at its blanks. -/
def piecesN : Nat → List UInt8 → List (List UInt8)
  | 0, l => [l]
  | n + 1, l => if 32 ∈ l then hdW l :: piecesN n (tlW l) else [l]
theorem tl_lt2 {l : List UInt8} (h : 32 ∈ l) : (tlW l).length < l.length := tl_lt (fun e => by subst e; cases h)
theorem piecesN_fuel : ∀ (n m : Nat) (l : List UInt8), l.length ≤ n → l.length ≤ m → piecesN n l = piecesN m l
  | 0, 0, _, _, _ => rfl
  | 0, m + 1, l, h, _ => by
    obtain rfl := List.eq_nil_of_length_eq_zero (Nat.le_zero.1 h)
    simp [piecesN]
  | n + 1, 0, l, _, h => by
    obtain rfl := List.eq_nil_of_length_eq_zero (Nat.le_zero.1 h)
    simp [piecesN]
  | n + 1, m + 1, l, h1, h2 => by
    unfold piecesN
    split
    · rename_i h
      have := tl_lt2 h
      rw [piecesN_fuel n m (tlW l) (by omega) (by omega)]
    · rfl
def pieces (l : List UInt8) : List (List UInt8) := piecesN l.length l
theorem pieces_yes {l : List UInt8} (h : 32 ∈ l) : pieces l = hdW l :: pieces (tlW l) := by
  have h1 := tl_lt2 h
  unfold pieces
  obtain ⟨n, hn⟩ : ∃ n, l.length = n + 1 := ⟨l.length - 1, by omega⟩
  rw [hn]
  conv => lhs; unfold piecesN
  rw [if_pos h, piecesN_fuel n (tlW l).length (tlW l) (by omega) (Nat.le_refl _)]
theorem pieces_no {l : List UInt8} (h : 32 ∉ l) : pieces l = [l] := by
  unfold pieces
  cases hn : l.length with
  | zero => rfl
  | succ n => unfold piecesN; rw [if_neg h]
theorem pieces_len (l : List UInt8) : (pieces l).length ≤ l.length + 1 := by
  have : ∀ (n : Nat) (l : List UInt8), l.length ≤ n → (pieces l).length ≤ l.length + 1 := by
    intro n
    induction n with
    | zero =>
      intro l h
      obtain rfl := List.eq_nil_of_length_eq_zero (Nat.le_zero.1 h)
      decide
    | succ n ih =>
      intro l h
      by_cases hb : 32 ∈ l
      · have h1 := tl_lt2 hb
        rw [pieces_yes hb, List.length_cons]
        have := ih (tlW l) (by omega)
        omega
      · rw [pieces_no hb]; simp
  exact this _ l (Nat.le_refl _)
theorem pieces_joinL : ∀ l : List ByteArray, l ≠ [] → (∀ s ∈ l, ∀ x ∈ s.data.toList, x ≠ 32) → pieces (joinL l) = l.map (·.data.toList)
  | [], h, _ => absurd rfl h
  | [s], _, h => by
    rw [joinL_one, pieces_no fun hm => h s (by simp) 32 hm rfl]
    rfl
  | s :: t :: l, _, h => by
    rw [joinL_cons]
    obtain ⟨h3, h4⟩ := hd_app (q := joinL (t :: l)) (h s (by simp))
    rw [pieces_yes (by simp), h3, h4, pieces_joinL (t :: l) (by simp) (fun x hx => h x (by simp [hx]))]
    rfl
/-- A number: itself, and its error. -/
def numP (l : List UInt8) : Int × Int :=
  if (trimPrefix l [45]).length < 1 ∨ 18 < (trimPrefix l [45]).length ∨ ((trimPrefix l [45]).head? = some 48 ∧ l ≠ [48]) then (0, 1)
  else if (∀ c ∈ trimPrefix l [45], isDig c = true) then ((if decide ((trimPrefix l [45]).length < l.length) = true then -(dv (trimPrefix l [45]) : Int) else dv (trimPrefix l [45])), 0) else (0, 1)
theorem numP_eq (l : List UInt8) : numSpec l = .tuple #[.int .i64 (numP l).1, .int .i64 (numP l).2] := by
  unfold numSpec numP numRes
  split
  · rfl
  · split <;> rfl
theorem numP_err (l : List UInt8) : (numP l).2 = 0 ∨ (numP l).2 = 1 := by
  unfold numP
  split
  · simp
  · split <;> simp
theorem numP_itoa {v : Int} (h0 : 0 ≤ v) (h1 : v ≤ 1099511627776) : numP (itoa v) = (v, 0) := by
  have h := numSpec_itoa v (by omega) (by omega)
  rw [numP_eq] at h
  simp only [Value.tuple.injEq, Array.mk.injEq, List.cons.injEq, Value.int.injEq, true_and, and_true] at h
  exact Prod.ext h.1 h.2
theorem dv_bound (l : List UInt8) (h : l.length ≤ 18) (hd : ∀ c ∈ l, isDig c = true) : dv l < 1000000000000000000 := by
  have h1 := dv_lt l hd
  have h2 : 10 ^ l.length ≤ 10 ^ 18 := Nat.pow_le_pow_right (by decide) h
  have h3 : (10 : Nat) ^ 18 = 1000000000000000000 := by decide
  omega
theorem numP_bound (l : List UInt8) : -1000000000000000000 < (numP l).1 ∧ (numP l).1 < 1000000000000000000 := by
  unfold numP
  split
  · decide
  · rename_i h
    split
    · rename_i hd
      have := dv_bound (trimPrefix l [45]) (by omega) hd
      dsimp only
      split <;> omega
    · decide
/-- Metadata: at most so many, at most so old, none below. -/
abbrev MetaD := Int × Int × Int
def cB : List UInt8 := [99, 111, 117, 110, 116, 61]
def aB : List UInt8 := [97, 103, 101, 61]
def bB : List UInt8 := [98, 101, 102, 111, 114, 101, 61]
def wordOf (p : List UInt8) (v : Int) : List (List UInt8) := if v = 0 then [] else [p ++ itoa v]
def partsW (m : MetaD) : List (List UInt8) := wordOf cB m.1 ++ wordOf aB m.2.1 ++ wordOf bB m.2.2
def partsT (m : MetaD) : List ByteArray := (partsW m).map txt
def textL (m : MetaD) : List UInt8 := if m = (0, 0, 0) then [45] else joinL (partsT m)
def okM (m : MetaD) : Bool := validM m.1 m.2.1 m.2.2
theorem okM_iff {m : MetaD} : okM m = true ↔ (0 ≤ m.1 ∧ m.1 ≤ 1099511627776) ∧ (0 ≤ m.2.1 ∧ m.2.1 ≤ 1099511627776) ∧ (0 ≤ m.2.2 ∧ m.2.2 ≤ 1099511627776) := by
  unfold okM validM
  rw [Bool.and_eq_true, Bool.and_eq_true, great_iff, great_iff, great_iff, and_assoc]
theorem pre_self (p x : List UInt8) : hasPrefix (p ++ x) p = true := by simp [hasPrefix]
theorem trim_self (p x : List UInt8) : trimPrefix (p ++ x) p = x := by simp [trimPrefix, pre_self]
/-- What a word does to metadata, and whether it may be one. -/
def readW (m : MetaD) (w : List UInt8) : MetaD × Bool :=
  if hasPrefix w cB = true then (((numP (trimPrefix w cB)).1, m.2.1, m.2.2), decide ((numP (trimPrefix w cB)).2 = 0))
  else if hasPrefix w aB = true then ((m.1, (numP (trimPrefix w aB)).1, m.2.2), decide ((numP (trimPrefix w aB)).2 = 0))
  else if hasPrefix w bB = true then ((m.1, m.2.1, (numP (trimPrefix w bB)).1), decide ((numP (trimPrefix w bB)).2 = 0))
  else (m, false)
def readsM : List (List UInt8) → MetaD → Option MetaD
  | [], m => some m
  | w :: ws, m => if (readW m w).2 = true then readsM ws (readW m w).1 else none
def partP (w p : List UInt8) : Int × Bool := if w.length ≤ p.length ∨ hasPrefix w p = false then (0, false) else ((numP (w.drop p.length)).1, decide ((numP (w.drop p.length)).2 = 0))
def refStep (m : MetaD) (w : List UInt8) : MetaD :=
  (if (partP w cB).2 = true then (partP w cB).1 else m.1, if (partP w aB).2 = true then (partP w aB).1 else m.2.1, if (partP w bB).2 = true then (partP w bB).1 else m.2.2)
def refM (ws : List (List UInt8)) : MetaD := ws.foldl refStep (0, 0, 0)
theorem pre_ca (x : List UInt8) : hasPrefix (aB ++ x) cB = false := by simp [hasPrefix, aB, cB, List.isPrefixOf]
theorem pre_cb (x : List UInt8) : hasPrefix (bB ++ x) cB = false := by simp [hasPrefix, bB, cB, List.isPrefixOf]
theorem pre_ab (x : List UInt8) : hasPrefix (bB ++ x) aB = false := by simp [hasPrefix, bB, aB, List.isPrefixOf]
theorem pre_ac (x : List UInt8) : hasPrefix (cB ++ x) aB = false := by simp [hasPrefix, aB, cB, List.isPrefixOf]
theorem pre_bc (x : List UInt8) : hasPrefix (cB ++ x) bB = false := by simp [hasPrefix, bB, cB, List.isPrefixOf]
theorem pre_ba (x : List UInt8) : hasPrefix (aB ++ x) bB = false := by simp [hasPrefix, bB, aB, List.isPrefixOf]
theorem partP_self (p : List UInt8) {v : Int} (h0 : 0 ≤ v) (h1 : v ≤ 1099511627776) : partP (p ++ itoa v) p = (v, true) := by
  have h := List.length_pos_iff.2 (itoa_ne v)
  unfold partP
  rw [if_neg (by rw [pre_self]; simp; omega), List.drop_left, numP_itoa h0 h1]
  rfl
theorem partP_no {w p : List UInt8} (h : hasPrefix w p = false) : partP w p = (0, false) := by
  unfold partP
  rw [if_pos (.inr h)]
theorem read_c (m : MetaD) {v : Int} (h0 : 0 ≤ v) (h1 : v ≤ 1099511627776) : readW m (cB ++ itoa v) = ((v, m.2.1, m.2.2), true) := by
  unfold readW
  rw [if_pos (pre_self _ _), trim_self, numP_itoa h0 h1]; rfl
theorem read_a (m : MetaD) {v : Int} (h0 : 0 ≤ v) (h1 : v ≤ 1099511627776) : readW m (aB ++ itoa v) = ((m.1, v, m.2.2), true) := by
  unfold readW
  rw [if_neg (by rw [pre_ca]; decide), if_pos (pre_self _ _), trim_self, numP_itoa h0 h1]; rfl
theorem read_b (m : MetaD) {v : Int} (h0 : 0 ≤ v) (h1 : v ≤ 1099511627776) : readW m (bB ++ itoa v) = ((m.1, m.2.1, v), true) := by
  unfold readW
  rw [if_neg (by rw [pre_cb]; decide), if_neg (by rw [pre_ab]; decide), if_pos (pre_self _ _), trim_self, numP_itoa h0 h1]; rfl
theorem step_c (m : MetaD) {v : Int} (h0 : 0 ≤ v) (h1 : v ≤ 1099511627776) : refStep m (cB ++ itoa v) = (v, m.2.1, m.2.2) := by
  unfold refStep
  rw [partP_self cB h0 h1, partP_no (pre_ac _), partP_no (pre_bc _)]; simp
theorem step_a (m : MetaD) {v : Int} (h0 : 0 ≤ v) (h1 : v ≤ 1099511627776) : refStep m (aB ++ itoa v) = (m.1, v, m.2.2) := by
  unfold refStep
  rw [partP_self aB h0 h1, partP_no (pre_ca _), partP_no (pre_ba _)]; simp
theorem step_b (m : MetaD) {v : Int} (h0 : 0 ≤ v) (h1 : v ≤ 1099511627776) : refStep m (bB ++ itoa v) = (m.1, m.2.1, v) := by
  unfold refStep
  rw [partP_self bB h0 h1, partP_no (pre_cb _), partP_no (pre_ab _)]; simp
theorem readsM_app : ∀ (a b : List (List UInt8)) (m : MetaD), readsM (a ++ b) m = (readsM a m).bind (readsM b)
  | [], b, m => rfl
  | w :: a, b, m => by
    rw [List.cons_append]
    unfold readsM
    split
    · exact readsM_app a b _
    · rfl
theorem reads_parts {m : MetaD} (h : okM m = true) : readsM (partsW m) (0, 0, 0) = some m := by
  obtain ⟨⟨a0, a1⟩, ⟨b0, b1⟩, ⟨c0, c1⟩⟩ := okM_iff.1 h
  obtain ⟨a, b, c⟩ := m
  dsimp only at *
  unfold partsW
  have e1 : readsM (wordOf cB a) (0, 0, 0) = some (a, 0, 0) := by
    unfold wordOf
    split
    · subst a; rfl
    · simp [readsM, read_c _ a0 a1]
  have e2 : readsM (wordOf aB b) (a, 0, 0) = some (a, b, 0) := by
    unfold wordOf
    split
    · subst b; rfl
    · simp [readsM, read_a _ b0 b1]
  have e3 : readsM (wordOf bB c) (a, b, 0) = some (a, b, c) := by
    unfold wordOf
    split
    · subst c; rfl
    · simp [readsM, read_b _ c0 c1]
  dsimp only
  rw [readsM_app, readsM_app, e1]
  simp [e2, e3]
theorem ref_parts {m : MetaD} (h : okM m = true) : refM (partsW m) = m := by
  obtain ⟨⟨a0, a1⟩, ⟨b0, b1⟩, ⟨c0, c1⟩⟩ := okM_iff.1 h
  obtain ⟨a, b, c⟩ := m
  dsimp only at *
  unfold partsW refM
  have e1 : (wordOf cB a).foldl refStep (0, 0, 0) = (a, 0, 0) := by
    unfold wordOf
    split
    · subst a; rfl
    · simp [step_c _ a0 a1]
  have e2 : (wordOf aB b).foldl refStep (a, 0, 0) = (a, b, 0) := by
    unfold wordOf
    split
    · subst b; rfl
    · simp [step_a _ b0 b1]
  have e3 : (wordOf bB c).foldl refStep (a, b, 0) = (a, b, c) := by
    unfold wordOf
    split
    · subst c; rfl
    · simp [step_b _ c0 c1]
  dsimp only
  rw [List.foldl_append, List.foldl_append, e1, e2, e3]
theorem dec_no32 (u : Nat) : ∀ x ∈ decDigits u, x ≠ 32 := fun x hx e => by
  have := dec_dig u x hx
  subst e
  revert this
  decide
theorem itoa_no32 (v : Int) : ∀ x ∈ itoa v, x ≠ 32 := fun x hx e => by
  unfold itoa at hx
  split at hx
  · rcases List.mem_cons.1 hx with h | h
    · subst h; revert e; decide
    · exact dec_no32 _ x h e
  · exact dec_no32 _ x hx e
theorem word_good {p : List UInt8} (hp : p ≠ []) (h32 : ∀ x ∈ p, x ≠ 32) {v : Int} {s : List UInt8} (h : s ∈ wordOf p v) : s ≠ [] ∧ ∀ x ∈ s, x ≠ 32 := by
  unfold wordOf at h
  split at h
  · cases h
  · obtain rfl := List.mem_singleton.1 h
    refine ⟨by simp [hp], fun x hx => ?_⟩
    rcases List.mem_append.1 hx with h | h
    · exact h32 x h
    · exact itoa_no32 v x h
theorem parts_good (m : MetaD) : ∀ s ∈ partsT m, GoodW s := fun s hs => by
  unfold partsT at hs
  obtain ⟨x, hx, rfl⟩ := List.mem_map.1 hs
  unfold partsW at hx
  show x ≠ [] ∧ ∀ y ∈ x, y ≠ 32
  rcases List.mem_append.1 hx with h | h
  · rcases List.mem_append.1 h with h | h
    · exact word_good (by decide) (by decide) h
    · exact word_good (by decide) (by decide) h
  · exact word_good (by decide) (by decide) h
theorem parts_lists (m : MetaD) : (partsT m).map (·.data.toList) = partsW m := by
  unfold partsT
  rw [List.map_map]
  exact List.map_id _
theorem parts_ne {m : MetaD} (h : m ≠ (0, 0, 0)) : partsW m ≠ [] := fun e => h (by
  obtain ⟨a, b, c⟩ := m
  unfold partsW wordOf at e
  dsimp only at e
  simp only [List.append_eq_nil_iff] at e
  obtain ⟨⟨e1, e2⟩, e3⟩ := e
  have f : ∀ (v : Int) (x : List (List UInt8)), x ≠ [] → (if v = 0 then [] else x) = [] → v = 0 := fun v x hx h => by
    split at h
    · assumption
    · exact absurd h hx
  rw [f a _ (by simp) e1, f b _ (by simp) e2, f c _ (by simp) e3])
theorem text_words {m : MetaD} (h : m ≠ (0, 0, 0)) : wordsB (textL m) = partsT m ∧ pieces (textL m) = partsW m := by
  unfold textL
  rw [if_neg h]
  have hn : partsT m ≠ [] := fun e => parts_ne h (by rw [← parts_lists, e]; rfl)
  exact ⟨words_joinL _ (parts_good m), by rw [pieces_joinL _ hn (fun s hs => (parts_good m s hs).2), parts_lists]⟩
theorem text_zero {m : MetaD} (h : okM m = true) (e : textL m = [45]) : m = (0, 0, 0) := by
  by_cases hm : m = (0, 0, 0)
  · exact hm
  · have h1 := (text_words hm).2
    rw [e, pieces_no (by decide)] at h1
    have h2 := reads_parts h
    rw [← h1] at h2
    simp only [readsM] at h2
    rw [if_neg (by decide)] at h2
    cases h2
theorem text_inj {m n : MetaD} (hm : okM m = true) (hn : okM n = true) (e : textL m = textL n) : m = n := by
  by_cases h0 : m = (0, 0, 0)
  · subst h0
    exact (text_zero hn e.symm).symm
  · by_cases h1 : n = (0, 0, 0)
    · subst h1
      exact text_zero hm e
    · have e1 := (text_words h0).2
      rw [e, (text_words h1).2] at e1
      have h2 := reads_parts hm
      rw [← e1, reads_parts hn] at h2
      exact (Option.some.inj h2).symm
open Classical in
/-- The metadata of a text, if it is one's. -/
noncomputable def parseL (l : List UInt8) : Option MetaD := if h : ∃ m, okM m = true ∧ textL m = l then some h.choose else none
theorem parse_yes {m : MetaD} {l : List UInt8} (h : okM m = true) (e : textL m = l) : parseL l = some m := by
  have hx : ∃ m, okM m = true ∧ textL m = l := ⟨m, h, e⟩
  unfold parseL
  rw [dif_pos hx]
  exact congrArg some (text_inj hx.choose_spec.1 h (hx.choose_spec.2.trans e.symm))
theorem parse_no {l : List UInt8} (h : ∀ m, okM m = true → textL m ≠ l) : parseL l = none := by
  unfold parseL
  rw [dif_neg]
  rintro ⟨m, h1, h2⟩
  exact h m h1 h2
theorem parse_bar : parseL [45] = some (0, 0, 0) := parse_yes (by decide) rfl
/-- The real code's way: read word by word, then told anew. -/
theorem parse_reads {l : List UInt8} (h : l ≠ [45]) : parseL l = match readsM (pieces l) (0, 0, 0) with
    | none => none
    | some m => if okM m = true ∧ textL m = l then some m else none := by
  by_cases hx : ∃ m, okM m = true ∧ textL m = l
  · obtain ⟨m, h1, h2⟩ := hx
    have hm : m ≠ (0, 0, 0) := fun e => h (by rw [← h2, e]; rfl)
    have h3 : readsM (pieces l) (0, 0, 0) = some m := by rw [← h2, (text_words hm).2, reads_parts h1]
    rw [h3]
    dsimp only
    rw [if_pos ⟨h1, h2⟩, parse_yes h1 h2]
  · rw [parse_no fun m h1 h2 => hx ⟨m, h1, h2⟩]
    cases readsM (pieces l) (0, 0, 0) with
    | none => rfl
    | some m => dsimp only; rw [if_neg fun hh => hx ⟨m, hh⟩]
/-- The laws' own way. -/
theorem parse_ref (l : List UInt8) : parseL l = if okM (refM ((wordsB l).map (·.data.toList))) = true ∧ textL (refM ((wordsB l).map (·.data.toList))) = l then some (refM ((wordsB l).map (·.data.toList))) else none := by
  by_cases hx : ∃ m, okM m = true ∧ textL m = l
  · obtain ⟨m, h1, h2⟩ := hx
    have h3 : refM ((wordsB l).map (·.data.toList)) = m := by
      by_cases hm : m = (0, 0, 0)
      · subst hm
        rw [← h2]
        decide
      · rw [← h2, (text_words hm).1, parts_lists, ref_parts h1]
    rw [h3, if_pos ⟨h1, h2⟩, parse_yes h1 h2]
  · rw [parse_no fun m h1 h2 => hx ⟨m, h1, h2⟩, if_neg fun hh => hx ⟨_, hh⟩]
theorem parse_some {l : List UInt8} {m : MetaD} (h : parseL l = some m) : okM m = true ∧ textL m = l := by
  unfold parseL at h
  split at h
  · rename_i hx
    obtain rfl := Option.some.inj h
    exact hx.choose_spec
  · cases h
end Go.Proofs.YtepbflcmghkieaaDoor
