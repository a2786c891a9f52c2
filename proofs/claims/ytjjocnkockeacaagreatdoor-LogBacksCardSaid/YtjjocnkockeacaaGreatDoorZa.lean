/- A disk as plain mathematics: files by name, rising; what each call leaves and tells. What lies in memory of a disk: its block, the row of its files, each file's block, its pool and the pool's bytes. What lies in memory of a log: its block, the row of its parts, its pool and the pool's texts; beside a disk. -/
import Derived.Test.YtjjocnkockeacaaGreatDoorBase
import Derived.Lib.Bytealg
import Derived.Test.YtjjocnkockeacaaGreatDoorProg
import Derived.Lib.AppendStr
import Derived.Lib.SliceRun
namespace Go.Proofs.YtjjocnkockeacaaGreatDoor
open Go.RowKit Go.Lib
set_option maxRecDepth 100000

theorem cmp_self : ∀ a : List UInt8, compareBytes a a = 0
  | [] => rfl
  | a :: r => by simp [compareBytes, cmp_self r]
theorem cmp_eq0 : ∀ a b : List UInt8, compareBytes a b = 0 → a = b
  | [], [], _ => rfl
  | [], _ :: _, h => by simp [compareBytes] at h
  | _ :: _, [], h => by simp [compareBytes] at h
  | a :: r, b :: s, h => by
    unfold compareBytes at h
    split at h
    · simp at h
    · split at h
      · simp at h
      · rename_i h1 h2
        have : a = b := by
          apply UInt8.toNat_inj.1
          simp only [UInt8.lt_iff_toNat_lt] at h1 h2
          omega
        rw [this, cmp_eq0 r s h]
theorem cmp_neg : ∀ a b : List UInt8, compareBytes a b = - compareBytes b a
  | [], [] => rfl
  | [], _ :: _ => rfl
  | _ :: _, [] => rfl
  | a :: r, b :: s => by
    unfold compareBytes
    have ih := cmp_neg r s
    by_cases h1 : a < b
    · have h2 : ¬ b < a := by simp only [UInt8.lt_iff_toNat_lt] at h1 ⊢; omega
      simp [h1, h2]
    · by_cases h2 : b < a
      · simp [h1, h2]
      · simp [h1, h2, ih]
theorem cmp_trans : ∀ a b c : List UInt8, compareBytes a b < 0 → compareBytes b c < 0 → compareBytes a c < 0
  | [], [], _, h, _ => by simp [compareBytes] at h
  | [], _ :: _, [], _, h => by simp [compareBytes] at h
  | [], _ :: _, _ :: _, _, _ => by simp [compareBytes]
  | _ :: _, [], _, h, _ => by simp [compareBytes] at h
  | _ :: _, _ :: _, [], _, h => by simp [compareBytes] at h
  | a :: r, b :: s, c :: t, h, k => by
    unfold compareBytes at h k ⊢
    simp only [UInt8.lt_iff_toNat_lt] at h k ⊢
    split at h
    · split at k
      · rw [if_pos (by omega)]; omega
      · split at k
        · omega
        · rw [if_pos (by omega)]; omega
    · split at h
      · omega
      · split at k
        · rw [if_pos (by omega)]; omega
        · split at k
          · omega
          · rw [if_neg (by omega), if_neg (by omega)]
            exact cmp_trans r s t h k

/-- A file. -/
structure Fl where
  name : ByteArray
  data : ByteArray
  syn : Nat
  last : Bool
/-- A disk. -/
structure Dk where
  on : Bool
  room : Int
  files : List Fl
  armed : Bool
  left : Nat
  keep : List Int

def cmpN (a b : ByteArray) : Int := compareBytes a.data.toList b.data.toList
theorem cmpN_self (a : ByteArray) : cmpN a a = 0 := cmp_self _
theorem cmpN_eq {a b : ByteArray} (h : cmpN a b = 0) : a = b := by
  have := cmp_eq0 _ _ h
  cases a; cases b; simp at this; simp [this]
theorem cmpN_neg (a b : ByteArray) : cmpN a b = - cmpN b a := cmp_neg _ _
theorem cmpN_trans {a b c : ByteArray} (h : cmpN a b < 0) (k : cmpN b c < 0) : cmpN a c < 0 := cmp_trans _ _ _ h k

def Sorted (l : List Fl) : Prop := l.Pairwise fun a b => cmpN a.name b.name < 0
/-- How many stand ahead of that name. -/
def plc (l : List Fl) (nm : ByteArray) : Nat := l.countP fun f => decide (cmpN f.name nm < 0)
def getF : List Fl → ByteArray → Option Fl
  | [], _ => none
  | a :: r, nm => if cmpN a.name nm = 0 then some a else getF r nm
def putF : List Fl → Fl → List Fl
  | [], f => [f]
  | a :: r, f => if cmpN a.name f.name < 0 then a :: putF r f else if cmpN a.name f.name = 0 then f :: r else f :: a :: r
def dropF : List Fl → ByteArray → List Fl
  | [], _ => []
  | a :: r, nm => if cmpN a.name nm = 0 then r else a :: dropF r nm

theorem plc_le (l : List Fl) (nm : ByteArray) : plc l nm ≤ l.length := List.countP_le_length
theorem plc_zero {l : List Fl} {nm : ByteArray} (h : ∀ x ∈ l, ¬ cmpN x.name nm < 0) : plc l nm = 0 := by
  unfold plc
  rw [List.countP_eq_zero]
  intro x hx
  simpa using h x hx
theorem sorted_above {a : Fl} {r : List Fl} {nm : ByteArray} (h : Sorted (a :: r)) (ha : ¬ cmpN a.name nm < 0) : ∀ x ∈ r, 0 < cmpN x.name nm := by
  intro x hx
  have h1 := (List.pairwise_cons.1 h).1 x hx
  rcases Int.lt_trichotomy (cmpN a.name nm) 0 with h2 | h2 | h2
  · exact absurd h2 ha
  · rw [← cmpN_eq h2, cmpN_neg]; omega
  · rw [cmpN_neg] at h2
    have := cmpN_trans (show cmpN nm a.name < 0 by omega) h1
    rw [cmpN_neg]; omega
theorem plc_cons {a : Fl} {r : List Fl} {nm : ByteArray} (h : Sorted (a :: r)) : plc (a :: r) nm = if cmpN a.name nm < 0 then plc r nm + 1 else 0 := by
  split
  · rename_i h1
    unfold plc
    rw [List.countP_cons_of_pos (by simpa using h1)]
  · rename_i h1
    refine plc_zero fun x hx => ?_
    rcases List.mem_cons.1 hx with rfl | hx
    · exact h1
    · have := sorted_above h h1 x hx; omega
theorem getF_none {l : List Fl} {nm : ByteArray} (h : ∀ x ∈ l, cmpN x.name nm ≠ 0) : getF l nm = none := by
  induction l with
  | nil => rfl
  | cons a r ih => rw [getF, if_neg (h a (by simp)), ih fun x hx => h x (by simp [hx])]
/-- What binary search tells. -/
theorem find_plc : ∀ {l : List Fl} {nm : ByteArray}, Sorted l → getF l nm = (l[plc l nm]?).bind fun f => if cmpN f.name nm = 0 then some f else none
  | [], _, _ => rfl
  | a :: r, nm, h => by
    rw [plc_cons h, getF]
    have hr : Sorted r := (List.pairwise_cons.1 h).2
    by_cases h1 : cmpN a.name nm < 0
    · rw [if_neg (by omega), if_pos h1, find_plc hr]
      simp
    · rw [if_neg h1]
      by_cases h2 : cmpN a.name nm = 0
      · simp [h2]
      · rw [if_neg h2, getF_none fun x hx => by have := sorted_above h h1 x hx; omega]
        simp [h2]
theorem plc_lt : ∀ {l : List Fl} {nm : ByteArray}, Sorted l → ∀ i (hi : i < l.length), i < plc l nm → cmpN l[i].name nm < 0
  | [], _, _, i, hi, _ => absurd hi (Nat.not_lt_zero _)
  | a :: r, nm, h, i, hi, hp => by
    rw [plc_cons h] at hp
    split at hp
    · rename_i h1
      cases i with
      | zero => exact h1
      | succ i => exact plc_lt (List.pairwise_cons.1 h).2 i (by simpa using hi) (by omega)
    · omega
/-- From the place on, behind the one of that name, all are greater. -/
theorem plc_gt : ∀ {l : List Fl} {nm : ByteArray}, Sorted l → ∀ i (hi : i < l.length), (if (getF l nm).isSome then plc l nm + 1 else plc l nm) ≤ i → 0 < cmpN l[i].name nm
  | [], _, _, i, hi, _ => absurd hi (Nat.not_lt_zero _)
  | a :: r, nm, h, i, hi, hp => by
    have hr : Sorted r := (List.pairwise_cons.1 h).2
    rw [plc_cons h, getF] at hp
    by_cases h1 : cmpN a.name nm < 0
    · have e0 : ¬ cmpN a.name nm = 0 := by omega
      simp only [if_pos h1, if_neg e0] at hp
      cases i with
      | zero => split at hp <;> omega
      | succ i => exact plc_gt hr i (by simpa using hi) (by split at hp <;> rename_i h2 <;> simp only [h2, if_true, if_false, Bool.false_eq_true] <;> omega)
    · by_cases h2 : cmpN a.name nm = 0
      · simp only [if_neg h1, if_pos h2, Option.isSome_some, if_true] at hp
        cases i with
        | zero => omega
        | succ i => exact sorted_above h h1 _ (List.getElem_mem (by simpa using hi))
      · cases i with
        | zero => show 0 < cmpN a.name nm; omega
        | succ i => exact sorted_above h h1 _ (List.getElem_mem (by simpa using hi))
theorem put_plc : ∀ {l : List Fl} {f : Fl}, Sorted l → putF l f = l.take (plc l f.name) ++ f :: l.drop (if (getF l f.name).isSome then plc l f.name + 1 else plc l f.name)
  | [], _, _ => by simp [putF, getF]
  | a :: r, f, h => by
    rw [plc_cons h, putF, getF]
    have hr : Sorted r := (List.pairwise_cons.1 h).2
    by_cases h1 : cmpN a.name f.name < 0
    · have e0 : ¬ cmpN a.name f.name = 0 := by omega
      simp only [if_pos h1, if_neg e0]
      rw [put_plc hr, List.take_succ_cons]
      cases getF r f.name <;> simp only [Option.isSome_none, Option.isSome_some, Bool.false_eq_true, if_false, if_true, List.drop_succ_cons, List.cons_append]
    · rw [if_neg h1, if_neg h1]
      by_cases h2 : cmpN a.name f.name = 0
      · simp [h2]
      · rw [if_neg h2, if_neg h2, getF_none fun x hx => by have := sorted_above h h1 x hx; omega]
        simp
theorem drop_plc : ∀ {l : List Fl} {nm : ByteArray}, Sorted l → (getF l nm).isSome → dropF l nm = l.take (plc l nm) ++ l.drop (plc l nm + 1)
  | [], _, _, h => by simp [getF] at h
  | a :: r, nm, h, hs => by
    rw [plc_cons h, dropF]
    rw [getF] at hs
    have hr : Sorted r := (List.pairwise_cons.1 h).2
    by_cases h1 : cmpN a.name nm < 0
    · rw [if_neg (by omega)] at hs
      rw [if_neg (by omega), if_pos h1, drop_plc hr hs]
      simp
    · rw [if_neg h1]
      by_cases h2 : cmpN a.name nm = 0
      · simp [h2]
      · rw [if_neg h2, getF_none fun x hx => by have := sorted_above h h1 x hx; omega] at hs
        simp at hs
theorem mem_putF {l : List Fl} {f x : Fl} (h : x ∈ putF l f) : x = f ∨ x ∈ l := by
  induction l with
  | nil => simp [putF] at h; exact .inl h
  | cons a r ih =>
    rw [putF] at h
    split at h
    · rcases List.mem_cons.1 h with h | h
      · simp [h]
      · rcases ih h with h | h
        · exact .inl h
        · simp [h]
    · split at h
      · rcases List.mem_cons.1 h with h | h
        · exact .inl h
        · exact .inr (List.mem_cons_of_mem _ h)
      · rcases List.mem_cons.1 h with h | h
        · exact .inl h
        · exact .inr h
theorem sorted_putF : ∀ {l : List Fl} {f : Fl}, Sorted l → Sorted (putF l f)
  | [], f, _ => by simp [putF, Sorted]
  | a :: r, f, h => by
    have hr : Sorted r := (List.pairwise_cons.1 h).2
    have ha := (List.pairwise_cons.1 h).1
    rw [putF]
    by_cases h1 : cmpN a.name f.name < 0
    · rw [if_pos h1]
      refine List.pairwise_cons.2 ⟨fun x hx => ?_, sorted_putF hr⟩
      rcases mem_putF hx with rfl | hx
      · exact h1
      · exact ha x hx
    · rw [if_neg h1]
      by_cases h2 : cmpN a.name f.name = 0
      · rw [if_pos h2]
        refine List.pairwise_cons.2 ⟨fun x hx => ?_, hr⟩
        rw [← cmpN_eq h2]
        exact ha x hx
      · rw [if_neg h2]
        refine List.pairwise_cons.2 ⟨fun x hx => ?_, h⟩
        rcases List.mem_cons.1 hx with rfl | hx
        · rw [cmpN_neg]; omega
        · have := sorted_above h h1 x hx
          rw [cmpN_neg]; omega
theorem dropF_sub (l : List Fl) (nm : ByteArray) : (dropF l nm).Sublist l := by
  induction l with
  | nil => exact List.Sublist.refl _
  | cons a r ih =>
    rw [dropF]
    split
    · exact List.sublist_cons_self _ _
    · exact ih.cons_cons _
theorem sorted_dropF {l : List Fl} {nm : ByteArray} (h : Sorted l) : Sorted (dropF l nm) := List.Pairwise.sublist (dropF_sub l nm) h

def used (l : List Fl) : Nat := (l.map fun f => f.data.size).sum
/-- A file with its first n bytes alone; with all its bytes synced. -/
def cutF (f : Fl) (n : Nat) : Fl := { f with data := f.data.extract 0 n, syn := min f.syn n }
def lastF (f : Fl) : Fl := { f with syn := f.data.size, last := true }
/-- How many bytes of a file a crash that keeps k of them leaves. -/
def keepN (f : Fl) (k : Int) : Nat := f.syn + min k.toNat (f.data.size - f.syn)
def crashL : List Fl → List Int → List Fl
  | [], _ => []
  | f :: r, ks => (if 0 < keepN f (ks.headD 0) ∨ f.last = true then [lastF (cutF f (keepN f (ks.headD 0)))] else []) ++ crashL r ks.tail
def lostL : List Fl → List Int → Nat
  | [], _ => 0
  | f :: r, ks => (f.data.size - keepN f (ks.headD 0)) + lostL r ks.tail
def crashD (d : Dk) (ks : List Int) : Dk := if d.on then { d with files := crashL d.files ks, on := false, armed := false, left := 0, keep := [] } else d
def lostD (d : Dk) (ks : List Int) : Nat := if d.on then lostL d.files ks else 0
def goesD (d : Dk) : Int × Dk := if d.armed then if 0 < d.left then (0, { d with left := d.left - 1 }) else (14, crashD d d.keep) else (0, d)
def refuse (d : Dk) (nm : ByteArray) : Int := if d.on then if nm.size = 0 ∨ 40 < nm.size then 1 else 0 else 14
def freshF (nm : ByteArray) : Fl := ⟨nm, ⟨#[]⟩, 0, false⟩
def withF (f : Fl) (s : ByteArray) : Fl := { f with data := f.data ++ s }
def namedF (f : Fl) (nm : ByteArray) : Fl := { f with name := nm }
def appendD (d : Dk) (nm s : ByteArray) : Int × Dk :=
  if refuse d nm ≠ 0 then (refuse d nm, d)
  else if (getF d.files nm = none ∧ 200 ≤ d.files.length) ∨ (0 < d.room ∧ d.room - used d.files < s.size) then (20, d)
  else goesD { d with files := putF d.files (withF ((getF d.files nm).getD (freshF nm)) s) }
/-- Where a file stands that must be there. -/
def placeE (d : Dk) (nm : ByteArray) : Int := if refuse d nm ≠ 0 then refuse d nm else if getF d.files nm = none then 8 else 0
def fileD (d : Dk) (nm : ByteArray) : Fl := (getF d.files nm).getD (freshF nm)
def syncD (d : Dk) (nm : ByteArray) : Int × Dk :=
  if placeE d nm ≠ 0 then (placeE d nm, d) else if (goesD d).1 ≠ 0 then goesD d else (0, { (goesD d).2 with files := putF d.files (lastF (fileD d nm)) })
def truncD (d : Dk) (nm : ByteArray) (n : Int) : Int × Dk :=
  if placeE d nm ≠ 0 then (placeE d nm, d) else if n < 0 ∨ (fileD d nm).data.size < n then (15, d)
  else if (goesD d).1 ≠ 0 then goesD d else (0, { (goesD d).2 with files := putF d.files (cutF (fileD d nm) n.toNat) })
def renameD (d : Dk) (nm nt : ByteArray) : Int × Dk :=
  if refuse d nt ≠ 0 then (refuse d nt, d) else if placeE d nm ≠ 0 then (placeE d nm, d)
  else if (goesD d).1 ≠ 0 then goesD d else (0, { (goesD d).2 with files := putF (dropF d.files nm) (namedF (fileD d nm) nt) })
def removeD (d : Dk) (nm : ByteArray) : Int × Dk :=
  if placeE d nm ≠ 0 then (placeE d nm, d) else if (goesD d).1 ≠ 0 then goesD d else (0, { (goesD d).2 with files := dropF d.files nm })
def sizeD (d : Dk) (nm : ByteArray) : Nat × Int := if placeE d nm ≠ 0 then (0, placeE d nm) else ((fileD d nm).data.size, 0)
def readD (d : Dk) (nm : ByteArray) (a n : Int) : ByteArray × Int :=
  if placeE d nm ≠ 0 then (⟨#[]⟩, placeE d nm) else if a < 0 ∨ n < 0 ∨ (fileD d nm).data.size - a < n then (⟨#[]⟩, 15) else ((fileD d nm).data.extract a.toNat (a.toNat + n.toNat), 0)
def unsynD (d : Dk) (nm : ByteArray) : Nat := if placeE d nm ≠ 0 then 0 else (fileD d nm).data.size - (fileD d nm).syn
end Go.Proofs.YtjjocnkockeacaaGreatDoor

namespace Go.Proofs.YtjjocnkockeacaaGreatDoor
open Go.RowKit Go.Lib
set_option maxRecDepth 100000

abbrev tFile : TypeId := 88
abbrev tPF : TypeId := 84
abbrev tPool : TypeId := 128
abbrev tDisk : TypeId := 64
abbrev tU8 : TypeId := 5
abbrev tInt : TypeId := 3

def ptr (b : Nat) : Value := .pointer (some ⟨b, 0, none⟩)

/-- A pool's bytes: nil, or a row of a block. -/
def Pv (w : World) (v : Value) (bs : List UInt8) (g : Option Nat) : Prop :=
  (v = .slice none 0 0 ∧ bs = [] ∧ g = none) ∨ ∃ b c, v = .slice (some ⟨b, 0, none⟩) bs.length c ∧ Bts tU8 w b c bs ∧ g = some b

theorem Pv.touch {w w' : World} {v : Value} {bs : List UInt8} {g : Option Nat} {F : List Nat} (h : Pv w v bs g) (t : Touch F w w') (hF : ∀ k ∈ g.toList, k ∉ F) : Pv w' v bs g := by
  rcases h with h | ⟨b, c, hv, hb, hg⟩
  · exact .inl h
  · refine .inr ⟨b, c, hv, hb.of_heap (t.block b hb.lt ?_), hg⟩
    subst hg
    exact hF b (by simp)
theorem Pv.lt {w : World} {v : Value} {bs : List UInt8} {g : Option Nat} (h : Pv w v bs g) : ∀ k ∈ g.toList, k < w.heap.size := by
  rcases h with ⟨_, _, rfl⟩ | ⟨b, c, hv, hb, rfl⟩
  · intro k hk; simp at hk
  · intro k hk
    simp at hk
    subst hk
    exact hb.lt

/-- A file in memory. -/
structure Px where
  f : Fl
  b : Nat
  p : Nat
  v : Value
  g : Option Nat

def Px.own (x : Px) : List Nat := x.b :: x.p :: x.g.toList
def Px.mut (x : Px) : List Nat := x.p :: x.g.toList
def flCells (x : Px) : Array Value := #[.string x.f.name, ptr x.p, .int .i64 x.f.data.size, .int .i64 x.f.syn, .bool x.f.last]
def HeadAt (w : World) (x : Px) : Prop := w.heap[x.b]? = some (.cells (flCells x) tFile (0, 0))

structure FileAt (w : World) (x : Px) : Prop where
  head : HeadAt w x
  pool : w.heap[x.p]? = some (.cells #[x.v] tPool (0, 0))
  pv : Pv w x.v x.f.data.data.toList x.g
  syn : x.f.syn ≤ x.f.data.size
  len : x.f.name.size ≤ 40
  small : x.f.data.size ≤ 70368744177664

theorem FileAt.touch {w w' : World} {x : Px} {F : List Nat} (h : FileAt w x) (t : Touch F w w') (hF : ∀ k ∈ x.own, k ∉ F) : FileAt w' x :=
  ⟨(t.block x.b (lt_of_block h.head) (hF _ (by simp [Px.own]))).trans h.head, (t.block x.p (lt_of_block h.pool) (hF _ (by simp [Px.own]))).trans h.pool,
    h.pv.touch t (fun k hk => hF k (by simp [Px.own] at hk ⊢; simp [hk])), h.syn, h.len, h.small⟩
theorem FileAt.lt {w : World} {x : Px} (h : FileAt w x) : ∀ k ∈ x.own, k < w.heap.size := by
  intro k hk
  simp only [Px.own, List.mem_cons] at hk
  rcases hk with rfl | rfl | hk
  · exact lt_of_block h.head
  · exact lt_of_block h.pool
  · exact h.pv.lt k hk
theorem HeadAt.touch {w w' : World} {x : Px} {F : List Nat} (h : HeadAt w x) (t : Touch F w w') (hF : x.b ∉ F) : HeadAt w' x := (t.block x.b (lt_of_block h) hF).trans h

def rowVals (L : List Px) : List Value := L.map fun x => ptr x.b
def RowAt (w : World) (v : Value) (L : List Px) : Prop := w.ownsRow 0 tPF 1 v L.length (rowVals L)
def intVals (l : List Int) : List Value := l.map fun i => Value.int .i64 i
def KeepAt (w : World) (v : Value) (l : List Int) : Prop := w.ownsRow 0 tInt 1 v l.length (intVals l)

theorem own_touch {base : Nat} {e : TypeId} {size : Nat} {v : Value} {n : Nat} {xs : List Value} {F : List Nat} {w w' : World} (h : w.ownsRow base e size v n xs) (t : Touch F w w') (hF : ∀ k ∈ v.ownBlock.toList, k ∉ F) : w'.ownsRow base e size v n xs := by
  refine ⟨h.1, ?_⟩
  rcases h.2 with h2 | ⟨b, cap, cur, hv, hb, hh, r⟩
  · exact .inl h2
  · subst hv
    exact .inr ⟨b, cap, cur, rfl, hb, (t.block b (lt_of_block hh) (hF b (by simp [Value.ownBlock]))).trans hh, r⟩
theorem own_zero {base : Nat} {e : TypeId} {size : Nat} {v : Value} {n : Nat} {xs : List Value} {w : World} (h : w.ownsRow base e size v n xs) : w.ownsRow 0 e size v n xs := by
  refine ⟨h.1, ?_⟩
  rcases h.2 with h2 | ⟨b, cap, cur, hv, hb, r⟩
  · exact .inl h2
  · exact .inr ⟨b, cap, cur, hv, Nat.zero_le _, r⟩
theorem own_base {base : Nat} {e : TypeId} {size : Nat} {v : Value} {n : Nat} {xs : List Value} {w : World} (h : w.ownsRow base e size v n xs) : ∀ k ∈ v.ownBlock.toList, base ≤ k := by
  intro k hk
  exact (h.lt k (by simpa using hk)).1
theorem own_lt {base : Nat} {e : TypeId} {size : Nat} {v : Value} {n : Nat} {xs : List Value} {w : World} (h : w.ownsRow base e size v n xs) : ∀ k ∈ v.ownBlock.toList, k < w.heap.size := by
  intro k hk
  exact (h.lt k (by simpa using hk)).2
/-- The form of a slice that owns a row, nil or not, and its cells. -/
theorem own_form {base : Nat} {e : TypeId} {v : Value} {n : Nat} {xs : List Value} {w : World} (h : w.ownsRow base e 1 v n xs) :
    ∃ x c, v = .slice x n c ∧ n ≤ c ∧ c ≤ maxLen ∧ v.ownBlock = x.map (·.block) ∧ ∀ i (hi : i < xs.length), ∃ b, x = some ⟨b, 0, none⟩ ∧ w.cell? ⟨b, i, none⟩ = some xs[i] := by
  rcases h.2 with ⟨rfl, rfl⟩ | ⟨b, cap, cur, rfl, hb, hg, hc, hm, hs, ht⟩
  · refine ⟨none, 0, rfl, Nat.le_refl _, by unfold maxLen; omega, rfl, fun i hi => ?_⟩
    have := h.1
    omega
  · refine ⟨_, cap, rfl, hc, hm, rfl, fun i hi => ⟨b, rfl, ?_⟩⟩
    have := h.cells (g := b) rfl i xs[i] (by simp [hi])
    rw [show (⟨b, 0, none⟩ : Addr).add i = ⟨b, i, none⟩ from by unfold Addr.add; split <;> simp_all] at this
    exact this

def dkCells (k : Dk) (rv kv : Value) : Array Value := #[.bool true, .bool k.on, .int .i64 k.room, rv, .bool k.armed, .int .i64 k.left, kv]
def Apart (L : List Px) : Prop := L.Pairwise fun x y => ∀ i ∈ x.own, i ∉ y.own
def ownOf (d : Nat) (rv kv : Value) (L : List Px) : List Nat := d :: (rv.ownBlock.toList ++ kv.ownBlock.toList ++ L.flatMap Px.own)

structure DiskIs (w : World) (d : Nat) (k : Dk) (rv kv : Value) (L : List Px) : Prop where
  cells : w.heap[d]? = some (.cells (dkCells k rv kv) tDisk (0, 0))
  row : RowAt w rv L
  files : L.map (·.f) = k.files
  each : ∀ x ∈ L, FileAt w x
  apart : Apart L
  keep : KeepAt w kv k.keep
  sorted : Sorted k.files
  many : k.files.length ≤ 200
  left : k.left ≤ 9223372036854775807

/-- A disk in memory, whose blocks are all among 'own'. -/
def Dsk (w : World) (d : Nat) (k : Dk) (own : List Nat) : Prop :=
  ∃ rv kv L, DiskIs w d k rv kv L ∧ (∀ i ∈ ownOf d rv kv L, i ∈ own) ∧ ∀ i ∈ own, i < w.heap.size

theorem DiskIs.touch {w w' : World} {d : Nat} {k : Dk} {rv kv : Value} {L : List Px} {F : List Nat} (h : DiskIs w d k rv kv L) (t : Touch F w w') (hF : ∀ i ∈ ownOf d rv kv L, i ∉ F) : DiskIs w' d k rv kv L := by
  refine ⟨(t.block d (lt_of_block h.cells) (hF d (by simp [ownOf]))).trans h.cells, own_touch h.row t fun i hi => hF i ?_, h.files, fun x hx => (h.each x hx).touch t fun i hi => hF i ?_, h.apart, own_touch h.keep t fun i hi => hF i ?_, h.sorted, h.many, h.left⟩
  · simp only [ownOf, List.mem_cons, List.mem_append]; exact .inr (.inl (.inl hi))
  · simp only [ownOf, List.mem_cons, List.mem_append, List.mem_flatMap]; exact .inr (.inr ⟨x, hx, hi⟩)
  · simp only [ownOf, List.mem_cons, List.mem_append]; exact .inr (.inl (.inr hi))
theorem Dsk.touch {w w' : World} {d : Nat} {k : Dk} {own F : List Nat} (h : Dsk w d k own) (t : Touch F w w') (hF : ∀ i ∈ own, i ∉ F) : Dsk w' d k own := by
  obtain ⟨rv, kv, L, h1, h2, h3⟩ := h
  exact ⟨rv, kv, L, h1.touch t fun i hi => hF i (h2 i hi), h2, fun i hi => Nat.lt_of_lt_of_le (h3 i hi) t.size⟩
/-- What a call leaves: the disk as k', in blocks of before or new ones; nothing else is turned. -/
def Left (d : Nat) (own : List Nat) (w : World) (k' : Dk) (w' : World) : Prop :=
  ∃ own', Dsk w' d k' own' ∧ Touch own w w' ∧ ∀ i ∈ own', i ∈ own ∨ w.heap.size ≤ i

/-- Blocks of different types are different. -/
theorem ne_type {w : World} {a b : Nat} {cs ds : Array Value} {s t : TypeId} {fa fb : Nat × Nat} (ha : w.heap[a]? = some (.cells cs s fa)) (hb : w.heap[b]? = some (.cells ds t fb)) (h : s ≠ t) : a ≠ b := by
  rintro rfl
  rw [ha] at hb
  simp at hb
  exact h hb.2.1
end Go.Proofs.YtjjocnkockeacaaGreatDoor

namespace Go.Proofs.YtjjocnkockeacaaGreatDoor
open Go.RowKit Go.Lib
set_option maxRecDepth 100000

abbrev tLog : TypeId := 31
abbrev tPart : TypeId := 71
abbrev tLPool : TypeId := 102
abbrev tStg : TypeId := 9

/-- A log, but for its disk. -/
structure Lg where
  size : Nat
  parts : List (Nat × Nat)
  used : Nat
  bodies : List ByteArray
  synced : Nat
  mark : Nat
  broken : Int

def nmP : ByteArray := ⟨#[112]⟩
def partVals (l : List (Nat × Nat)) : List Value := l.flatMap fun p => [Value.int .i64 p.1, Value.int .i64 p.2]
def txtVals (l : List ByteArray) : List Value := l.map fun s => Value.string s
theorem partVals_len (l : List (Nat × Nat)) : (partVals l).length = l.length * 2 := by
  induction l with
  | nil => rfl
  | cons a r ih => simp only [partVals, List.flatMap_cons, List.length_append, List.length_cons, List.length_nil] at ih ⊢; omega
theorem txtVals_len (l : List ByteArray) : (txtVals l).length = l.length := by simp [txtVals]
def lgCells (d : Nat) (S : Lg) (pv lv : Value) : Array Value := #[ptr d, .string nmP, .int .i64 S.size, pv, .int .i64 S.used, lv, .int .i64 S.bodies.length, .int .i64 S.synced, .int .i64 S.mark, .int .i64 S.broken]
/-- A list of bodies: no pool, or a pool whose bodies are just these. -/
def LstAt (w : World) (lv : Value) (l : List ByteArray) (own : List Nat) : Prop :=
  (lv = .pointer none ∧ l = [] ∧ own = []) ∨ ∃ p v, lv = ptr p ∧ w.heap[p]? = some (.cells #[v] tLPool (0, 0)) ∧ w.ownsRow 0 tStg 1 v l.length (txtVals l) ∧ own = p :: v.ownBlock.toList

structure LgIs (w : World) (d b : Nat) (S : Lg) (pv lv : Value) (own : List Nat) : Prop where
  cells : w.heap[b]? = some (.cells (lgCells d S pv lv) tLog (0, 0))
  parts : w.ownsRow 0 tPart 2 pv S.parts.length (partVals S.parts)
  list : LstAt w lv S.bodies own

def lgOwn (b : Nat) (pv : Value) (own : List Nat) : List Nat := b :: (pv.ownBlock.toList ++ own)

theorem LstAt.touch {w w' : World} {lv : Value} {l : List ByteArray} {own F : List Nat} (h : LstAt w lv l own) (t : Touch F w w') (hF : ∀ i ∈ own, i ∉ F) : LstAt w' lv l own := by
  rcases h with h | ⟨p, v, h1, h2, h3, rfl⟩
  · exact .inl h
  · exact .inr ⟨p, v, h1, (t.block p (lt_of_block h2) (hF p (by simp))).trans h2, own_touch h3 t fun k hk => hF k (List.mem_cons_of_mem _ hk), rfl⟩
theorem LstAt.lt {w : World} {lv : Value} {l : List ByteArray} {own : List Nat} (h : LstAt w lv l own) : ∀ i ∈ own, i < w.heap.size := by
  rcases h with ⟨_, _, rfl⟩ | ⟨p, v, h1, h2, h3, rfl⟩
  · simp
  · intro i hi
    rcases List.mem_cons.1 hi with rfl | hi
    · exact lt_of_block h2
    · exact own_lt h3 i hi
theorem LgIs.touch {w w' : World} {d b : Nat} {S : Lg} {pv lv : Value} {own F : List Nat} (h : LgIs w d b S pv lv own) (t : Touch F w w') (hF : ∀ i ∈ lgOwn b pv own, i ∉ F) : LgIs w' d b S pv lv own :=
  ⟨(t.block b (lt_of_block h.cells) (hF b (by simp [lgOwn]))).trans h.cells, own_touch h.parts t fun i hi => hF i (by simp only [lgOwn, List.mem_cons, List.mem_append]; exact .inr (.inl hi)), h.list.touch t fun i hi => hF i (by simp only [lgOwn, List.mem_cons, List.mem_append]; exact .inr (.inr hi))⟩
theorem LgIs.lt {w : World} {d b : Nat} {S : Lg} {pv lv : Value} {own : List Nat} (h : LgIs w d b S pv lv own) : ∀ i ∈ lgOwn b pv own, i < w.heap.size := by
  intro i hi
  simp only [lgOwn, List.mem_cons, List.mem_append] at hi
  rcases hi with rfl | hi | hi
  · exact lt_of_block h.cells
  · exact own_lt h.parts i hi
  · exact h.list.lt i hi

/-! ### The log's blocks and the disk's are of different types -/
/-- A block of one of these types. -/
def OfType (w : World) (ts : List TypeId) (i : Nat) : Prop := ∃ cs t fz, w.heap[i]? = some (.cells cs t fz) ∧ t ∈ ts
def lgTypes : List TypeId := [tLog, tPart, tLPool, tStg]
def dkTypes : List TypeId := [tDisk, tPF, tInt, tFile, tPool, tU8]
theorem row_type {w : World} {base : Nat} {e : TypeId} {size n : Nat} {v : Value} {xs : List Value} {ts : List TypeId} (h : w.ownsRow base e size v n xs) (he : e ∈ ts) : ∀ i ∈ v.ownBlock.toList, OfType w ts i := by
  intro i hi
  rcases h.2 with ⟨rfl, _⟩ | ⟨g, cap, cur, rfl, hb, hg, _⟩
  · simp [Value.ownBlock] at hi
  · simp [Value.ownBlock] at hi
    subst hi
    exact ⟨_, _, _, hg, he⟩
theorem LgIs.types {w : World} {d b : Nat} {S : Lg} {pv lv : Value} {own : List Nat} (h : LgIs w d b S pv lv own) : ∀ i ∈ lgOwn b pv own, OfType w lgTypes i := by
  intro i hi
  simp only [lgOwn, List.mem_cons, List.mem_append] at hi
  rcases hi with rfl | hi | hi
  · exact ⟨_, _, _, h.cells, by simp [lgTypes]⟩
  · exact row_type h.parts (by simp [lgTypes]) i hi
  · rcases h.list with ⟨_, _, rfl⟩ | ⟨p, v, h1, h2, h3, rfl⟩
    · simp at hi
    · rcases List.mem_cons.1 hi with rfl | hi
      · exact ⟨_, _, _, h2, by simp [lgTypes]⟩
      · exact row_type h3 (by simp [lgTypes]) i hi
theorem file_type {w : World} {x : Px} (h : FileAt w x) : ∀ i ∈ x.own, OfType w dkTypes i := by
  intro i hi
  simp only [Px.own, List.mem_cons] at hi
  rcases hi with rfl | rfl | hi
  · exact ⟨_, _, _, h.head, by simp [dkTypes]⟩
  · exact ⟨_, _, _, h.pool, by simp [dkTypes]⟩
  · rcases h.pv with ⟨_, _, e⟩ | ⟨g, c, _, ⟨cur, fz, hg, _⟩, e⟩
    · rw [e] at hi; simp at hi
    · rw [e] at hi
      simp at hi
      subst hi
      exact ⟨_, _, _, hg, by simp [dkTypes]⟩
theorem lg_mem_own {d : Nat} {rv kv : Value} {L : List Px} {i : Nat} : i ∈ ownOf d rv kv L ↔ i = d ∨ i ∈ rv.ownBlock.toList ∨ i ∈ kv.ownBlock.toList ∨ ∃ x ∈ L, i ∈ x.own := by
  simp only [ownOf, List.mem_cons, List.mem_append, List.mem_flatMap, or_assoc]
theorem dk_lt {w : World} {d : Nat} {k : Dk} {rv kv : Value} {L : List Px} (h : DiskIs w d k rv kv L) : ∀ i ∈ ownOf d rv kv L, i < w.heap.size := by
  intro i hi
  rcases lg_mem_own.1 hi with rfl | hi | hi | ⟨x, hx, hi⟩
  · exact lt_of_block h.cells
  · exact own_lt h.row i hi
  · exact own_lt h.keep i hi
  · exact (h.each x hx).lt i hi
theorem DiskIs.types {w : World} {d : Nat} {k : Dk} {rv kv : Value} {L : List Px} (h : DiskIs w d k rv kv L) : ∀ i ∈ ownOf d rv kv L, OfType w dkTypes i := by
  intro i hi
  rcases lg_mem_own.1 hi with rfl | hi | hi | ⟨x, hx, hi⟩
  · exact ⟨_, _, _, h.cells, by simp [dkTypes]⟩
  · exact row_type h.row (by simp [dkTypes]) i hi
  · exact row_type h.keep (by simp [dkTypes]) i hi
  · exact file_type (h.each x hx) i hi
theorem types_apart {w : World} {i : Nat} (h1 : OfType w lgTypes i) (h2 : OfType w dkTypes i) : False := by
  obtain ⟨cs, t, fz, e1, m1⟩ := h1
  obtain ⟨ds, u, gz, e2, m2⟩ := h2
  rw [e1] at e2
  simp only [Option.some.injEq, Obj.cells.injEq] at e2
  obtain ⟨_, rfl, _⟩ := e2
  revert m1 m2
  simp only [lgTypes, dkTypes, List.mem_cons, List.not_mem_nil, or_false]
  rintro (rfl | rfl | rfl | rfl) h <;> revert h <;> decide

/-- A log and its disk: their blocks are among O, or newer than W; of what was there in W only O is turned. -/
structure LDIs (O : List Nat) (W w : World) (d : Nat) (k : Dk) (b : Nat) (S : Lg) (rv kv : Value) (L : List Px) (pv lv : Value) (own : List Nat) : Prop where
  disk : DiskIs w d k rv kv L
  log : LgIs w d b S pv lv own
  down : ∀ i ∈ ownOf d rv kv L, i ∈ O ∨ W.heap.size ≤ i
  lown : ∀ i ∈ lgOwn b pv own, i ∈ O ∨ W.heap.size ≤ i
  t : Touch O W w
def LD (O : List Nat) (W w : World) (d : Nat) (k : Dk) (b : Nat) (S : Lg) : Prop := ∃ rv kv L pv lv own, LDIs O W w d k b S rv kv L pv lv own

theorem LD.touch {O : List Nat} {W w w' : World} {d b : Nat} {k : Dk} {S : Lg} (h : LD O W w d k b S) (t : Touch [] w w') : LD O W w' d k b S := by
  obtain ⟨rv, kv, L, pv, lv, own, h1, h2, h3, h4, h5⟩ := h
  exact ⟨rv, kv, L, pv, lv, own, h1.touch t (by simp), h2.touch t (by simp), h3, h4, h5.trans t (by simp)⟩
/-- What a call of the disk leaves. -/
theorem LDIs.disked {O : List Nat} {W w w' : World} {d b : Nat} {k k' : Dk} {S : Lg} {rv kv : Value} {L : List Px} {pv lv : Value} {own : List Nat} (h : LDIs O W w d k b S rv kv L pv lv own) (hl : Left d (ownOf d rv kv L) w k' w') : LD O W w' d k' b S := by
  obtain ⟨own', ⟨rv', kv', L', h1, h2, h3⟩, t, h4⟩ := hl
  refine ⟨rv', kv', L', pv, lv, own, h1, h.log.touch t fun i hi hm => types_apart (h.log.types i hi) (h.disk.types i hm), ?_, h.lown, h.t.trans t fun i hi => h.down i hi⟩
  intro i hi
  rcases h4 i (h2 i hi) with h5 | h5
  · exact h.down i h5
  · exact .inr (Nat.le_trans h.t.size h5)
theorem LDIs.dsk {O : List Nat} {W w : World} {d b : Nat} {k : Dk} {S : Lg} {rv kv : Value} {L : List Px} {pv lv : Value} {own : List Nat} (h : LDIs O W w d k b S rv kv L pv lv own) : Dsk w d k (ownOf d rv kv L) := ⟨rv, kv, L, h.disk, fun _ hi => hi, dk_lt h.disk⟩
/-- A change of the log's own blocks. -/
theorem LDIs.logged {O : List Nat} {W w w' : World} {d b : Nat} {k : Dk} {S S' : Lg} {rv kv : Value} {L : List Px} {pv lv pv' lv' : Value} {own own' F : List Nat} (h : LDIs O W w d k b S rv kv L pv lv own) (hl : LgIs w' d b S' pv' lv' own') (t : Touch F w w') (hF : ∀ i ∈ F, i ∈ lgOwn b pv own) (ho : ∀ i ∈ lgOwn b pv' own', i ∈ lgOwn b pv own ∨ w.heap.size ≤ i) : LD O W w' d k b S' := by
  refine ⟨rv, kv, L, pv', lv', own', h.disk.touch t fun i hi hm => types_apart (h.log.types i (hF i hm)) (h.disk.types i hi), hl, h.down, ?_, h.t.trans t fun i hi => h.lown i (hF i hi)⟩
  intro i hi
  rcases ho i hi with h5 | h5
  · exact h.lown i h5
  · exact .inr (Nat.le_trans h.t.size h5)
/-- The disk of it, the log forgotten. -/
theorem LD.left {O : List Nat} {W w : World} {d b : Nat} {k : Dk} {S : Lg} (h : LD O W w d k b S) : Left d O W k w := by
  obtain ⟨rv, kv, L, pv, lv, own, h1, h2, h3, h4, h5⟩ := h
  exact ⟨ownOf d rv kv L, ⟨rv, kv, L, h1, fun _ hi => hi, dk_lt h1⟩, h5, h3⟩
/-- A disk, and a new log beside it. -/
theorem LD.made {O : List Nat} {W w w' : World} {d b : Nat} {k : Dk} {S : Lg} {pv lv : Value} {own : List Nat} (h : Left d O W k w) (t : Touch [] w w') (hl : LgIs w' d b S pv lv own) (ho : ∀ i ∈ lgOwn b pv own, w.heap.size ≤ i) : LD O W w' d k b S := by
  obtain ⟨own', ⟨rv, kv, L, h1, h2, h3⟩, h4, h5⟩ := h
  exact ⟨rv, kv, L, pv, lv, own, h1.touch t (by simp), hl, fun i hi => h5 i (h2 i hi), fun i hi => .inr (Nat.le_trans h4.size (ho i hi)), h4.trans t (by simp)⟩
/-- Begun anew at a world. -/
theorem LD.anew {O : List Nat} {W w : World} {d b : Nat} {k : Dk} {S : Lg} (h : LD O W w d k b S) : ∃ O', (∀ i ∈ O', (i ∈ O ∨ W.heap.size ≤ i) ∧ i < w.heap.size) ∧ ∀ w', Touch [] w w' → LD O' w' w' d k b S := by
  obtain ⟨rv, kv, L, pv, lv, own, h1, h2, h3, h4, h5⟩ := h
  refine ⟨ownOf d rv kv L ++ lgOwn b pv own, ?_, ?_⟩
  · intro i hi
    rcases List.mem_append.1 hi with hi | hi
    · exact ⟨h3 i hi, dk_lt h1 i hi⟩
    · exact ⟨h4 i hi, h2.lt i hi⟩
  · intro w' t
    exact ⟨rv, kv, L, pv, lv, own, h1.touch t (by simp), h2.touch t (by simp), fun i hi => .inl (List.mem_append_left _ hi), fun i hi => .inl (List.mem_append_right _ hi), Touch.refl _ _⟩
end Go.Proofs.YtjjocnkockeacaaGreatDoor
