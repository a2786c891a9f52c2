/- A disk as plain mathematics: files by name, rising; what each call leaves and tells. -/
import Derived.Test.YthibabfojndlkaaBase
import Derived.Lib.Bytealg
namespace Go.Proofs.Ythibabfojndlkaa
open Go.RowKit Go.Lib
set_option maxRecDepth 100000

theorem cmp_self : ∀ a : List UInt8, compareBytes a a = 0
  | [] => rfl
  | a :: r => by simp [compareBytes, cmp_self r]
theorem cmp_eq0 : ∀ a b : List UInt8, compareBytes a b = 0 → a = b
  | [], [], _ => rfl
  | [], _ :: _, h => by simp [compareBytes] at h
  | _ :: _, [], h => by simp [compareBytes] at h
  | a :: r, b :: s, h => by
    unfold compareBytes at h
    split at h
    · simp at h
    · split at h
      · simp at h
      · rename_i h1 h2
        have : a = b := by
          apply UInt8.toNat_inj.1
          simp only [UInt8.lt_iff_toNat_lt] at h1 h2
          omega
        rw [this, cmp_eq0 r s h]
theorem cmp_neg : ∀ a b : List UInt8, compareBytes a b = - compareBytes b a
  | [], [] => rfl
  | [], _ :: _ => rfl
  | _ :: _, [] => rfl
  | a :: r, b :: s => by
    unfold compareBytes
    have ih := cmp_neg r s
    by_cases h1 : a < b
    · have h2 : ¬ b < a := by simp only [UInt8.lt_iff_toNat_lt] at h1 ⊢; omega
      simp [h1, h2]
    · by_cases h2 : b < a
      · simp [h1, h2]
      · simp [h1, h2, ih]
theorem cmp_trans : ∀ a b c : List UInt8, compareBytes a b < 0 → compareBytes b c < 0 → compareBytes a c < 0
  | [], [], _, h, _ => by simp [compareBytes] at h
  | [], _ :: _, [], _, h => by simp [compareBytes] at h
  | [], _ :: _, _ :: _, _, _ => by simp [compareBytes]
  | _ :: _, [], _, h, _ => by simp [compareBytes] at h
  | _ :: _, _ :: _, [], _, h => by simp [compareBytes] at h
  | a :: r, b :: s, c :: t, h, k => by
    unfold compareBytes at h k ⊢
    simp only [UInt8.lt_iff_toNat_lt] at h k ⊢
    split at h
    · split at k
      · rw [if_pos (by omega)]; omega
      · split at k
        · omega
        · rw [if_pos (by omega)]; omega
    · split at h
      · omega
      · split at k
        · rw [if_pos (by omega)]; omega
        · split at k
          · omega
          · rw [if_neg (by omega), if_neg (by omega)]
            exact cmp_trans r s t h k

/-- A file. -/
structure Fl where
  name : ByteArray
  data : ByteArray
  syn : Nat
  last : Bool
/-- A disk. -/
structure Dk where
  on : Bool
  room : Int
  files : List Fl
  armed : Bool
  left : Nat
  keep : List Int

def cmpN (a b : ByteArray) : Int := compareBytes a.data.toList b.data.toList
theorem cmpN_self (a : ByteArray) : cmpN a a = 0 := cmp_self _
theorem cmpN_eq {a b : ByteArray} (h : cmpN a b = 0) : a = b := by
  have := cmp_eq0 _ _ h
  cases a; cases b; simp at this; simp [this]
theorem cmpN_neg (a b : ByteArray) : cmpN a b = - cmpN b a := cmp_neg _ _
theorem cmpN_trans {a b c : ByteArray} (h : cmpN a b < 0) (k : cmpN b c < 0) : cmpN a c < 0 := cmp_trans _ _ _ h k

def Sorted (l : List Fl) : Prop := l.Pairwise fun a b => cmpN a.name b.name < 0
/-- How many stand ahead of that name. -/
def plc (l : List Fl) (nm : ByteArray) : Nat := l.countP fun f => decide (cmpN f.name nm < 0)
def getF : List Fl → ByteArray → Option Fl
  | [], _ => none
  | a :: r, nm => if cmpN a.name nm = 0 then some a else getF r nm
def putF : List Fl → Fl → List Fl
  | [], f => [f]
  | a :: r, f => if cmpN a.name f.name < 0 then a :: putF r f else if cmpN a.name f.name = 0 then f :: r else f :: a :: r
def dropF : List Fl → ByteArray → List Fl
  | [], _ => []
  | a :: r, nm => if cmpN a.name nm = 0 then r else a :: dropF r nm

theorem plc_le (l : List Fl) (nm : ByteArray) : plc l nm ≤ l.length := List.countP_le_length
theorem plc_zero {l : List Fl} {nm : ByteArray} (h : ∀ x ∈ l, ¬ cmpN x.name nm < 0) : plc l nm = 0 := by
  unfold plc
  rw [List.countP_eq_zero]
  intro x hx
  simpa using h x hx
theorem sorted_above {a : Fl} {r : List Fl} {nm : ByteArray} (h : Sorted (a :: r)) (ha : ¬ cmpN a.name nm < 0) : ∀ x ∈ r, 0 < cmpN x.name nm := by
  intro x hx
  have h1 := (List.pairwise_cons.1 h).1 x hx
  rcases Int.lt_trichotomy (cmpN a.name nm) 0 with h2 | h2 | h2
  · exact absurd h2 ha
  · rw [← cmpN_eq h2, cmpN_neg]; omega
  · rw [cmpN_neg] at h2
    have := cmpN_trans (show cmpN nm a.name < 0 by omega) h1
    rw [cmpN_neg]; omega
theorem plc_cons {a : Fl} {r : List Fl} {nm : ByteArray} (h : Sorted (a :: r)) : plc (a :: r) nm = if cmpN a.name nm < 0 then plc r nm + 1 else 0 := by
  split
  · rename_i h1
    unfold plc
    rw [List.countP_cons_of_pos (by simpa using h1)]
  · rename_i h1
    refine plc_zero fun x hx => ?_
    rcases List.mem_cons.1 hx with rfl | hx
    · exact h1
    · have := sorted_above h h1 x hx; omega
theorem getF_none {l : List Fl} {nm : ByteArray} (h : ∀ x ∈ l, cmpN x.name nm ≠ 0) : getF l nm = none := by
  induction l with
  | nil => rfl
  | cons a r ih => rw [getF, if_neg (h a (by simp)), ih fun x hx => h x (by simp [hx])]
/-- What binary search tells. -/
theorem find_plc : ∀ {l : List Fl} {nm : ByteArray}, Sorted l → getF l nm = (l[plc l nm]?).bind fun f => if cmpN f.name nm = 0 then some f else none
  | [], _, _ => rfl
  | a :: r, nm, h => by
    rw [plc_cons h, getF]
    have hr : Sorted r := (List.pairwise_cons.1 h).2
    by_cases h1 : cmpN a.name nm < 0
    · rw [if_neg (by omega), if_pos h1, find_plc hr]
      simp
    · rw [if_neg h1]
      by_cases h2 : cmpN a.name nm = 0
      · simp [h2]
      · rw [if_neg h2, getF_none fun x hx => by have := sorted_above h h1 x hx; omega]
        simp [h2]
theorem plc_lt : ∀ {l : List Fl} {nm : ByteArray}, Sorted l → ∀ i (hi : i < l.length), i < plc l nm → cmpN l[i].name nm < 0
  | [], _, _, i, hi, _ => absurd hi (Nat.not_lt_zero _)
  | a :: r, nm, h, i, hi, hp => by
    rw [plc_cons h] at hp
    split at hp
    · rename_i h1
      cases i with
      | zero => exact h1
      | succ i => exact plc_lt (List.pairwise_cons.1 h).2 i (by simpa using hi) (by omega)
    · omega
/-- From the place on, behind the one of that name, all are greater. -/
theorem plc_gt : ∀ {l : List Fl} {nm : ByteArray}, Sorted l → ∀ i (hi : i < l.length), (if (getF l nm).isSome then plc l nm + 1 else plc l nm) ≤ i → 0 < cmpN l[i].name nm
  | [], _, _, i, hi, _ => absurd hi (Nat.not_lt_zero _)
  | a :: r, nm, h, i, hi, hp => by
    have hr : Sorted r := (List.pairwise_cons.1 h).2
    rw [plc_cons h, getF] at hp
    by_cases h1 : cmpN a.name nm < 0
    · have e0 : ¬ cmpN a.name nm = 0 := by omega
      simp only [if_pos h1, if_neg e0] at hp
      cases i with
      | zero => split at hp <;> omega
      | succ i => exact plc_gt hr i (by simpa using hi) (by split at hp <;> rename_i h2 <;> simp only [h2, if_true, if_false, Bool.false_eq_true] <;> omega)
    · by_cases h2 : cmpN a.name nm = 0
      · simp only [if_neg h1, if_pos h2, Option.isSome_some, if_true] at hp
        cases i with
        | zero => omega
        | succ i => exact sorted_above h h1 _ (List.getElem_mem (by simpa using hi))
      · cases i with
        | zero => show 0 < cmpN a.name nm; omega
        | succ i => exact sorted_above h h1 _ (List.getElem_mem (by simpa using hi))
theorem put_plc : ∀ {l : List Fl} {f : Fl}, Sorted l → putF l f = l.take (plc l f.name) ++ f :: l.drop (if (getF l f.name).isSome then plc l f.name + 1 else plc l f.name)
  | [], _, _ => by simp [putF, getF]
  | a :: r, f, h => by
    rw [plc_cons h, putF, getF]
    have hr : Sorted r := (List.pairwise_cons.1 h).2
    by_cases h1 : cmpN a.name f.name < 0
    · have e0 : ¬ cmpN a.name f.name = 0 := by omega
      simp only [if_pos h1, if_neg e0]
      rw [put_plc hr, List.take_succ_cons]
      cases getF r f.name <;> simp only [Option.isSome_none, Option.isSome_some, Bool.false_eq_true, if_false, if_true, List.drop_succ_cons, List.cons_append]
    · rw [if_neg h1, if_neg h1]
      by_cases h2 : cmpN a.name f.name = 0
      · simp [h2]
      · rw [if_neg h2, if_neg h2, getF_none fun x hx => by have := sorted_above h h1 x hx; omega]
        simp
theorem drop_plc : ∀ {l : List Fl} {nm : ByteArray}, Sorted l → (getF l nm).isSome → dropF l nm = l.take (plc l nm) ++ l.drop (plc l nm + 1)
  | [], _, _, h => by simp [getF] at h
  | a :: r, nm, h, hs => by
    rw [plc_cons h, dropF]
    rw [getF] at hs
    have hr : Sorted r := (List.pairwise_cons.1 h).2
    by_cases h1 : cmpN a.name nm < 0
    · rw [if_neg (by omega)] at hs
      rw [if_neg (by omega), if_pos h1, drop_plc hr hs]
      simp
    · rw [if_neg h1]
      by_cases h2 : cmpN a.name nm = 0
      · simp [h2]
      · rw [if_neg h2, getF_none fun x hx => by have := sorted_above h h1 x hx; omega] at hs
        simp at hs
theorem mem_putF {l : List Fl} {f x : Fl} (h : x ∈ putF l f) : x = f ∨ x ∈ l := by
  induction l with
  | nil => simp [putF] at h; exact .inl h
  | cons a r ih =>
    rw [putF] at h
    split at h
    · rcases List.mem_cons.1 h with h | h
      · simp [h]
      · rcases ih h with h | h
        · exact .inl h
        · simp [h]
    · split at h
      · rcases List.mem_cons.1 h with h | h
        · exact .inl h
        · exact .inr (List.mem_cons_of_mem _ h)
      · rcases List.mem_cons.1 h with h | h
        · exact .inl h
        · exact .inr h
theorem sorted_putF : ∀ {l : List Fl} {f : Fl}, Sorted l → Sorted (putF l f)
  | [], f, _ => by simp [putF, Sorted]
  | a :: r, f, h => by
    have hr : Sorted r := (List.pairwise_cons.1 h).2
    have ha := (List.pairwise_cons.1 h).1
    rw [putF]
    by_cases h1 : cmpN a.name f.name < 0
    · rw [if_pos h1]
      refine List.pairwise_cons.2 ⟨fun x hx => ?_, sorted_putF hr⟩
      rcases mem_putF hx with rfl | hx
      · exact h1
      · exact ha x hx
    · rw [if_neg h1]
      by_cases h2 : cmpN a.name f.name = 0
      · rw [if_pos h2]
        refine List.pairwise_cons.2 ⟨fun x hx => ?_, hr⟩
        rw [← cmpN_eq h2]
        exact ha x hx
      · rw [if_neg h2]
        refine List.pairwise_cons.2 ⟨fun x hx => ?_, h⟩
        rcases List.mem_cons.1 hx with rfl | hx
        · rw [cmpN_neg]; omega
        · have := sorted_above h h1 x hx
          rw [cmpN_neg]; omega
theorem dropF_sub (l : List Fl) (nm : ByteArray) : (dropF l nm).Sublist l := by
  induction l with
  | nil => exact List.Sublist.refl _
  | cons a r ih =>
    rw [dropF]
    split
    · exact List.sublist_cons_self _ _
    · exact ih.cons_cons _
theorem sorted_dropF {l : List Fl} {nm : ByteArray} (h : Sorted l) : Sorted (dropF l nm) := List.Pairwise.sublist (dropF_sub l nm) h

def used (l : List Fl) : Nat := (l.map fun f => f.data.size).sum
/-- A file with its first n bytes alone; with all its bytes synced. -/
def cutF (f : Fl) (n : Nat) : Fl := { f with data := f.data.extract 0 n, syn := min f.syn n }
def lastF (f : Fl) : Fl := { f with syn := f.data.size, last := true }
/-- How many bytes of a file a crash that keeps k of them leaves. -/
def keepN (f : Fl) (k : Int) : Nat := f.syn + min k.toNat (f.data.size - f.syn)
def crashL : List Fl → List Int → List Fl
  | [], _ => []
  | f :: r, ks => (if 0 < keepN f (ks.headD 0) ∨ f.last = true then [lastF (cutF f (keepN f (ks.headD 0)))] else []) ++ crashL r ks.tail
def lostL : List Fl → List Int → Nat
  | [], _ => 0
  | f :: r, ks => (f.data.size - keepN f (ks.headD 0)) + lostL r ks.tail
def crashD (d : Dk) (ks : List Int) : Dk := if d.on then { d with files := crashL d.files ks, on := false, armed := false, left := 0, keep := [] } else d
def lostD (d : Dk) (ks : List Int) : Nat := if d.on then lostL d.files ks else 0
def goesD (d : Dk) : Int × Dk := if d.armed then if 0 < d.left then (0, { d with left := d.left - 1 }) else (14, crashD d d.keep) else (0, d)
def refuse (d : Dk) (nm : ByteArray) : Int := if d.on then if nm.size = 0 ∨ 40 < nm.size then 1 else 0 else 14
def freshF (nm : ByteArray) : Fl := ⟨nm, ⟨#[]⟩, 0, false⟩
def withF (f : Fl) (s : ByteArray) : Fl := { f with data := f.data ++ s }
def namedF (f : Fl) (nm : ByteArray) : Fl := { f with name := nm }
def appendD (d : Dk) (nm s : ByteArray) : Int × Dk :=
  if refuse d nm ≠ 0 then (refuse d nm, d)
  else if (getF d.files nm = none ∧ 200 ≤ d.files.length) ∨ (0 < d.room ∧ d.room - used d.files < s.size) then (20, d)
  else goesD { d with files := putF d.files (withF ((getF d.files nm).getD (freshF nm)) s) }
/-- Where a file stands that must be there. -/
def placeE (d : Dk) (nm : ByteArray) : Int := if refuse d nm ≠ 0 then refuse d nm else if getF d.files nm = none then 8 else 0
def fileD (d : Dk) (nm : ByteArray) : Fl := (getF d.files nm).getD (freshF nm)
def syncD (d : Dk) (nm : ByteArray) : Int × Dk :=
  if placeE d nm ≠ 0 then (placeE d nm, d) else if (goesD d).1 ≠ 0 then goesD d else (0, { (goesD d).2 with files := putF d.files (lastF (fileD d nm)) })
def truncD (d : Dk) (nm : ByteArray) (n : Int) : Int × Dk :=
  if placeE d nm ≠ 0 then (placeE d nm, d) else if n < 0 ∨ (fileD d nm).data.size < n then (15, d)
  else if (goesD d).1 ≠ 0 then goesD d else (0, { (goesD d).2 with files := putF d.files (cutF (fileD d nm) n.toNat) })
def renameD (d : Dk) (nm nt : ByteArray) : Int × Dk :=
  if refuse d nt ≠ 0 then (refuse d nt, d) else if placeE d nm ≠ 0 then (placeE d nm, d)
  else if (goesD d).1 ≠ 0 then goesD d else (0, { (goesD d).2 with files := putF (dropF d.files nm) (namedF (fileD d nm) nt) })
def removeD (d : Dk) (nm : ByteArray) : Int × Dk :=
  if placeE d nm ≠ 0 then (placeE d nm, d) else if (goesD d).1 ≠ 0 then goesD d else (0, { (goesD d).2 with files := dropF d.files nm })
def sizeD (d : Dk) (nm : ByteArray) : Nat × Int := if placeE d nm ≠ 0 then (0, placeE d nm) else ((fileD d nm).data.size, 0)
def readD (d : Dk) (nm : ByteArray) (a n : Int) : ByteArray × Int :=
  if placeE d nm ≠ 0 then (⟨#[]⟩, placeE d nm) else if a < 0 ∨ n < 0 ∨ (fileD d nm).data.size - a < n then (⟨#[]⟩, 15) else ((fileD d nm).data.extract a.toNat (a.toNat + n.toNat), 0)
def unsynD (d : Dk) (nm : ByteArray) : Nat := if placeE d nm ≠ 0 then 0 else (fileD d nm).data.size - (fileD d nm).syn
end Go.Proofs.Ythibabfojndlkaa
