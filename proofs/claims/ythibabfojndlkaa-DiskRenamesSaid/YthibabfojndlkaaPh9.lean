/- What lies in memory of a disk: its block, the row of its files, each file's block, its pool and the pool's bytes. -/
import Derived.Test.YthibabfojndlkaaDk9
import Derived.Test.YthibabfojndlkaaProg
import Derived.Lib.AppendStr
import Derived.Lib.SliceRun
namespace Go.Proofs.Ythibabfojndlkaa
open Go.RowKit Go.Lib
set_option maxRecDepth 100000

abbrev tFile : TypeId := 63
abbrev tPF : TypeId := 59
abbrev tPool : TypeId := 77
abbrev tDisk : TypeId := 57
abbrev tU8 : TypeId := 5
abbrev tInt : TypeId := 3

def ptr (b : Nat) : Value := .pointer (some ⟨b, 0, none⟩)

/-- A pool's bytes: nil, or a row of a block. -/
def Pv (w : World) (v : Value) (bs : List UInt8) (g : Option Nat) : Prop :=
  (v = .slice none 0 0 ∧ bs = [] ∧ g = none) ∨ ∃ b c, v = .slice (some ⟨b, 0, none⟩) bs.length c ∧ Bts tU8 w b c bs ∧ g = some b

theorem Pv.touch {w w' : World} {v : Value} {bs : List UInt8} {g : Option Nat} {F : List Nat} (h : Pv w v bs g) (t : Touch F w w') (hF : ∀ k ∈ g.toList, k ∉ F) : Pv w' v bs g := by
  rcases h with h | ⟨b, c, hv, hb, hg⟩
  · exact .inl h
  · refine .inr ⟨b, c, hv, hb.of_heap (t.block b hb.lt ?_), hg⟩
    subst hg
    exact hF b (by simp)
theorem Pv.lt {w : World} {v : Value} {bs : List UInt8} {g : Option Nat} (h : Pv w v bs g) : ∀ k ∈ g.toList, k < w.heap.size := by
  rcases h with ⟨_, _, rfl⟩ | ⟨b, c, hv, hb, rfl⟩
  · intro k hk; simp at hk
  · intro k hk
    simp at hk
    subst hk
    exact hb.lt

/-- A file in memory. -/
structure Px where
  f : Fl
  b : Nat
  p : Nat
  v : Value
  g : Option Nat

def Px.own (x : Px) : List Nat := x.b :: x.p :: x.g.toList
def Px.mut (x : Px) : List Nat := x.p :: x.g.toList
def flCells (x : Px) : Array Value := #[.string x.f.name, ptr x.p, .int .i64 x.f.data.size, .int .i64 x.f.syn, .bool x.f.last]
def HeadAt (w : World) (x : Px) : Prop := w.heap[x.b]? = some (.cells (flCells x) tFile (0, 0))

structure FileAt (w : World) (x : Px) : Prop where
  head : HeadAt w x
  pool : w.heap[x.p]? = some (.cells #[x.v] tPool (0, 0))
  pv : Pv w x.v x.f.data.data.toList x.g
  syn : x.f.syn ≤ x.f.data.size
  len : x.f.name.size ≤ 40
  small : x.f.data.size ≤ 70368744177664

theorem FileAt.touch {w w' : World} {x : Px} {F : List Nat} (h : FileAt w x) (t : Touch F w w') (hF : ∀ k ∈ x.own, k ∉ F) : FileAt w' x :=
  ⟨(t.block x.b (lt_of_block h.head) (hF _ (by simp [Px.own]))).trans h.head, (t.block x.p (lt_of_block h.pool) (hF _ (by simp [Px.own]))).trans h.pool,
    h.pv.touch t (fun k hk => hF k (by simp [Px.own] at hk ⊢; simp [hk])), h.syn, h.len, h.small⟩
theorem FileAt.lt {w : World} {x : Px} (h : FileAt w x) : ∀ k ∈ x.own, k < w.heap.size := by
  intro k hk
  simp only [Px.own, List.mem_cons] at hk
  rcases hk with rfl | rfl | hk
  · exact lt_of_block h.head
  · exact lt_of_block h.pool
  · exact h.pv.lt k hk
theorem HeadAt.touch {w w' : World} {x : Px} {F : List Nat} (h : HeadAt w x) (t : Touch F w w') (hF : x.b ∉ F) : HeadAt w' x := (t.block x.b (lt_of_block h) hF).trans h

def rowVals (L : List Px) : List Value := L.map fun x => ptr x.b
def RowAt (w : World) (v : Value) (L : List Px) : Prop := w.ownsRow 0 tPF 1 v L.length (rowVals L)
def intVals (l : List Int) : List Value := l.map fun i => Value.int .i64 i
def KeepAt (w : World) (v : Value) (l : List Int) : Prop := w.ownsRow 0 tInt 1 v l.length (intVals l)

theorem own_touch {base : Nat} {e : TypeId} {size : Nat} {v : Value} {n : Nat} {xs : List Value} {F : List Nat} {w w' : World} (h : w.ownsRow base e size v n xs) (t : Touch F w w') (hF : ∀ k ∈ v.ownBlock.toList, k ∉ F) : w'.ownsRow base e size v n xs := by
  refine ⟨h.1, ?_⟩
  rcases h.2 with h2 | ⟨b, cap, cur, hv, hb, hh, r⟩
  · exact .inl h2
  · subst hv
    exact .inr ⟨b, cap, cur, rfl, hb, (t.block b (lt_of_block hh) (hF b (by simp [Value.ownBlock]))).trans hh, r⟩
theorem own_zero {base : Nat} {e : TypeId} {size : Nat} {v : Value} {n : Nat} {xs : List Value} {w : World} (h : w.ownsRow base e size v n xs) : w.ownsRow 0 e size v n xs := by
  refine ⟨h.1, ?_⟩
  rcases h.2 with h2 | ⟨b, cap, cur, hv, hb, r⟩
  · exact .inl h2
  · exact .inr ⟨b, cap, cur, hv, Nat.zero_le _, r⟩
theorem own_base {base : Nat} {e : TypeId} {size : Nat} {v : Value} {n : Nat} {xs : List Value} {w : World} (h : w.ownsRow base e size v n xs) : ∀ k ∈ v.ownBlock.toList, base ≤ k := by
  intro k hk
  exact (h.lt k (by simpa using hk)).1
theorem own_lt {base : Nat} {e : TypeId} {size : Nat} {v : Value} {n : Nat} {xs : List Value} {w : World} (h : w.ownsRow base e size v n xs) : ∀ k ∈ v.ownBlock.toList, k < w.heap.size := by
  intro k hk
  exact (h.lt k (by simpa using hk)).2
/-- The form of a slice that owns a row, nil or not, and its cells. -/
theorem own_form {base : Nat} {e : TypeId} {v : Value} {n : Nat} {xs : List Value} {w : World} (h : w.ownsRow base e 1 v n xs) :
    ∃ x c, v = .slice x n c ∧ n ≤ c ∧ c ≤ maxLen ∧ v.ownBlock = x.map (·.block) ∧ ∀ i (hi : i < xs.length), ∃ b, x = some ⟨b, 0, none⟩ ∧ w.cell? ⟨b, i, none⟩ = some xs[i] := by
  rcases h.2 with ⟨rfl, rfl⟩ | ⟨b, cap, cur, rfl, hb, hg, hc, hm, hs, ht⟩
  · refine ⟨none, 0, rfl, Nat.le_refl _, by unfold maxLen; omega, rfl, fun i hi => ?_⟩
    have := h.1
    omega
  · refine ⟨_, cap, rfl, hc, hm, rfl, fun i hi => ⟨b, rfl, ?_⟩⟩
    have := h.cells (g := b) rfl i xs[i] (by simp [hi])
    rw [show (⟨b, 0, none⟩ : Addr).add i = ⟨b, i, none⟩ from by unfold Addr.add; split <;> simp_all] at this
    exact this

def dkCells (k : Dk) (rv kv : Value) : Array Value := #[.bool true, .bool k.on, .int .i64 k.room, rv, .bool k.armed, .int .i64 k.left, kv]
def Apart (L : List Px) : Prop := L.Pairwise fun x y => ∀ i ∈ x.own, i ∉ y.own
def ownOf (d : Nat) (rv kv : Value) (L : List Px) : List Nat := d :: (rv.ownBlock.toList ++ kv.ownBlock.toList ++ L.flatMap Px.own)

structure DiskIs (w : World) (d : Nat) (k : Dk) (rv kv : Value) (L : List Px) : Prop where
  cells : w.heap[d]? = some (.cells (dkCells k rv kv) tDisk (0, 0))
  row : RowAt w rv L
  files : L.map (·.f) = k.files
  each : ∀ x ∈ L, FileAt w x
  apart : Apart L
  keep : KeepAt w kv k.keep
  sorted : Sorted k.files
  many : k.files.length ≤ 200
  left : k.left ≤ 9223372036854775807

/-- A disk in memory, whose blocks are all among 'own'. -/
def Dsk (w : World) (d : Nat) (k : Dk) (own : List Nat) : Prop :=
  ∃ rv kv L, DiskIs w d k rv kv L ∧ (∀ i ∈ ownOf d rv kv L, i ∈ own) ∧ ∀ i ∈ own, i < w.heap.size

theorem DiskIs.touch {w w' : World} {d : Nat} {k : Dk} {rv kv : Value} {L : List Px} {F : List Nat} (h : DiskIs w d k rv kv L) (t : Touch F w w') (hF : ∀ i ∈ ownOf d rv kv L, i ∉ F) : DiskIs w' d k rv kv L := by
  refine ⟨(t.block d (lt_of_block h.cells) (hF d (by simp [ownOf]))).trans h.cells, own_touch h.row t fun i hi => hF i ?_, h.files, fun x hx => (h.each x hx).touch t fun i hi => hF i ?_, h.apart, own_touch h.keep t fun i hi => hF i ?_, h.sorted, h.many, h.left⟩
  · simp only [ownOf, List.mem_cons, List.mem_append]; exact .inr (.inl (.inl hi))
  · simp only [ownOf, List.mem_cons, List.mem_append, List.mem_flatMap]; exact .inr (.inr ⟨x, hx, hi⟩)
  · simp only [ownOf, List.mem_cons, List.mem_append]; exact .inr (.inl (.inr hi))
theorem Dsk.touch {w w' : World} {d : Nat} {k : Dk} {own F : List Nat} (h : Dsk w d k own) (t : Touch F w w') (hF : ∀ i ∈ own, i ∉ F) : Dsk w' d k own := by
  obtain ⟨rv, kv, L, h1, h2, h3⟩ := h
  exact ⟨rv, kv, L, h1.touch t fun i hi => hF i (h2 i hi), h2, fun i hi => Nat.lt_of_lt_of_le (h3 i hi) t.size⟩
/-- What a call leaves: the disk as k', in blocks of before or new ones; nothing else is turned. -/
def Left (d : Nat) (own : List Nat) (w : World) (k' : Dk) (w' : World) : Prop :=
  ∃ own', Dsk w' d k' own' ∧ Touch own w w' ∧ ∀ i ∈ own', i ∈ own ∨ w.heap.size ≤ i

/-- Blocks of different types are different. -/
theorem ne_type {w : World} {a b : Nat} {cs ds : Array Value} {s t : TypeId} {fa fb : Nat × Nat} (ha : w.heap[a]? = some (.cells cs s fa)) (hb : w.heap[b]? = some (.cells ds t fb)) (h : s ≠ t) : a ≠ b := by
  rintro rfl
  rw [ha] at hb
  simp at hb
  exact h hb.2.1
end Go.Proofs.Ythibabfojndlkaa
