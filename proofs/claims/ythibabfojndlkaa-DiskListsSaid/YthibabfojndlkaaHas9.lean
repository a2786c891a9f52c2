/- A disk that was made behind a world, and its calls by what they tell. -/
import Derived.Test.YthibabfojndlkaaAp9
import Derived.Test.YthibabfojndlkaaRd9
import Derived.Test.YthibabfojndlkaaLs9
import Derived.Test.YthibabfojndlkaaTw9
namespace Go.Proofs.Ythibabfojndlkaa
open Go.RowKit Go.Lib
set_option maxRecDepth 100000

def Has (W : World) (d : Nat) (k : Dk) (w : World) : Prop := ∃ own, Dsk w d k own ∧ Touch [] W w ∧ ∀ i ∈ own, W.heap.size ≤ i
theorem Has.touch {W w w' : World} {d : Nat} {k : Dk} (h : Has W d k w) (t : Touch [] w w') : Has W d k w' := by
  obtain ⟨own, h1, h2, h3⟩ := h
  exact ⟨own, h1.touch t (by simp), h2.trans t (by simp), h3⟩
theorem Has.from_ {W w : World} {d : Nat} {k : Dk} (h : Has W d k w) : Touch [] W w := by
  obtain ⟨own, _, h2, _⟩ := h
  exact h2
theorem Has.left {W w w' : World} {d : Nat} {k : Dk} {own : List Nat} (t : Touch [] W w) (ho : ∀ i ∈ own, W.heap.size ≤ i) (h : Left d own w k w') : Has W d k w' := by
  obtain ⟨own', h1, h2, h3⟩ := h
  refine ⟨own', h1, (t.mono (G := own) (by simp)).trans h2 (fun i hi => .inl hi) |>.mono (fun i hi => .inr (ho i hi)), fun i hi => ?_⟩
  rcases h3 i hi with h4 | h4
  · exact ho i h4
  · exact Nat.le_trans t.size h4

/-- Small enough. -/
structure Sm (k : Dk) (n : Nat) : Prop where
  keep : k.keep.length ≤ 1000000
  used : used k.files + n ≤ 70368744177664
  room : -9223372036854775808 ≤ k.room ∧ k.room ≤ 9223372036854775807
theorem Sm.le {k : Dk} {n m : Nat} (h : Sm k n) (hm : m ≤ n) : Sm k m := ⟨h.keep, by have := h.used; omega, h.room⟩

theorem new_has (room : Int) (w : World) : Calls Try.prog 26 #[.int .i64 room] w fun e w' => ∃ d, e = .returned (.pointer (some ⟨d, 0, none⟩)) ∧ Has w d (newD room) w' := by
  refine (new_any room w).mono ?_
  rintro e w' ⟨d, rfl, own, h1, h2, h3⟩
  exact ⟨d, rfl, own, h1, h2, h3⟩
theorem append_has {W w : World} {d : Nat} {k k' : Dk} {nm s : ByteArray} {r : Int} (h : Has W d k w) (hs : Sm k s.size) (he : appendD k nm s = (r, k')) :
    Calls Try.prog 15 #[.pointer (some ⟨d, 0, none⟩), .string nm, .string s] w fun e w' => e = .returned (.int .i64 r) ∧ Has W d k' w' := by
  obtain ⟨own, h1, h2, h3⟩ := h
  refine (append_any ⟨h1, hs.keep, by have := hs.used; omega⟩ nm s hs.used hs.room).mono ?_
  rintro e w' ⟨rfl, hl⟩
  rw [he] at hl ⊢
  exact ⟨rfl, Has.left h2 h3 hl⟩
theorem sync_has {W w : World} {d : Nat} {k k' : Dk} {nm : ByteArray} {r : Int} (h : Has W d k w) (hs : Sm k 0) (he : syncD k nm = (r, k')) :
    Calls Try.prog 16 #[.pointer (some ⟨d, 0, none⟩), .string nm] w fun e w' => e = .returned (.int .i64 r) ∧ Has W d k' w' := by
  obtain ⟨own, h1, h2, h3⟩ := h
  refine (sync_any ⟨h1, hs.keep, hs.used⟩ nm).mono ?_
  rintro e w' ⟨rfl, hl⟩
  rw [he] at hl ⊢
  exact ⟨rfl, Has.left h2 h3 hl⟩
theorem trunc_has {W w : World} {d : Nat} {k k' : Dk} {nm : ByteArray} {n r : Int} (h : Has W d k w) (hs : Sm k 0) (he : truncD k nm n = (r, k')) :
    Calls Try.prog 17 #[.pointer (some ⟨d, 0, none⟩), .string nm, .int .i64 n] w fun e w' => e = .returned (.int .i64 r) ∧ Has W d k' w' := by
  obtain ⟨own, h1, h2, h3⟩ := h
  refine (trunc_any ⟨h1, hs.keep, hs.used⟩ nm n).mono ?_
  rintro e w' ⟨rfl, hl⟩
  rw [he] at hl ⊢
  exact ⟨rfl, Has.left h2 h3 hl⟩
theorem remove_has {W w : World} {d : Nat} {k k' : Dk} {nm : ByteArray} {r : Int} (h : Has W d k w) (hs : Sm k 0) (he : removeD k nm = (r, k')) :
    Calls Try.prog 19 #[.pointer (some ⟨d, 0, none⟩), .string nm] w fun e w' => e = .returned (.int .i64 r) ∧ Has W d k' w' := by
  obtain ⟨own, h1, h2, h3⟩ := h
  refine (remove_any ⟨h1, hs.keep, hs.used⟩ nm).mono ?_
  rintro e w' ⟨rfl, hl⟩
  rw [he] at hl ⊢
  exact ⟨rfl, Has.left h2 h3 hl⟩
theorem rename_has {W w : World} {d : Nat} {k k' : Dk} {nm nt : ByteArray} {r : Int} (h : Has W d k w) (hs : Sm k 0) (he : renameD k nm nt = (r, k')) :
    Calls Try.prog 18 #[.pointer (some ⟨d, 0, none⟩), .string nm, .string nt] w fun e w' => e = .returned (.int .i64 r) ∧ Has W d k' w' := by
  obtain ⟨own, h1, h2, h3⟩ := h
  refine (rename_any ⟨h1, hs.keep, hs.used⟩ nm nt).mono ?_
  rintro e w' ⟨rfl, hl⟩
  rw [he] at hl ⊢
  exact ⟨rfl, Has.left h2 h3 hl⟩
theorem crash_has {W w : World} {d : Nat} {k k' : Dk} {x : Option Addr} {ks : List Int} {n c : Nat} {r : Int} (h : Has W d k w) (hs : Sm k 0) (hk : IntsR w x ks) (hn : ks.length = n) (hl : n ≤ 1000000) (hr : (lostD k ks : Int) = r) (he : crashD k ks = k') :
    Calls Try.prog 21 #[.pointer (some ⟨d, 0, none⟩), .slice x n c] w fun e w' => e = .returned (.int .i64 r) ∧ Has W d k' w' := by
  subst hn
  obtain ⟨own, h1, h2, h3⟩ := h
  refine (crash_any h1 hk hl hs.used).mono ?_
  rintro e w' ⟨rfl, hl⟩
  rw [he] at hl
  rw [hr]
  exact ⟨rfl, Has.left h2 h3 hl⟩
theorem restore_has {W w : World} {d : Nat} {k k' : Dk} (h : Has W d k w) (he : { k with on := true } = k') :
    Calls Try.prog 10 #[.pointer (some ⟨d, 0, none⟩)] w fun e w' => e = .returned (.tuple #[]) ∧ Has W d k' w' := by
  obtain ⟨own, h1, h2, h3⟩ := h
  refine (restore_any h1).mono ?_
  rintro e w' ⟨rfl, hl⟩
  rw [he] at hl
  exact ⟨rfl, Has.left h2 h3 hl⟩
theorem arm_has {W w : World} {d : Nat} {k k' : Dk} {base : Nat} {v : Value} {ks : List Int} {n : Int} (h : Has W d k w) (hn : n ≤ 9223372036854775807) (hk : w.ownsRow base tInt 1 v ks.length (intVals ks)) (hl : ks.length ≤ 1000000) (he : armD k n ks = k') :
    Calls Try.prog 11 #[.pointer (some ⟨d, 0, none⟩), .int .i64 n, v] w fun e w' => e = .returned (.tuple #[]) ∧ Has W d k' w' := by
  obtain ⟨own, h1, h2, h3⟩ := h
  refine (arm_any h1 n hn hk hl).mono ?_
  rintro e w' ⟨rfl, hl⟩
  rw [he] at hl
  exact ⟨rfl, Has.left h2 h3 hl⟩
theorem on_has {W w : World} {d : Nat} {k : Dk} {b : Bool} (h : Has W d k w) (he : k.on = b) :
    Calls Try.prog 24 #[.pointer (some ⟨d, 0, none⟩)] w fun e w' => e = .returned (.bool b) ∧ w' = w := by
  obtain ⟨own, ⟨rv, kv, L, hD, _, _⟩, _, _⟩ := h
  refine (on_any hD.cells).mono ?_
  rintro e w' ⟨rfl, rfl⟩
  rw [he]
  exact ⟨rfl, rfl⟩
theorem used_has {W w : World} {d : Nat} {k : Dk} {n : Nat} (h : Has W d k w) (hs : Sm k 0) (he : used k.files = n) :
    Calls Try.prog 22 #[.pointer (some ⟨d, 0, none⟩)] w fun e w' => e = .returned (.int .i64 n) ∧ w' = w := by
  obtain ⟨own, ⟨rv, kv, L, hD, _, _⟩, _, _⟩ := h
  refine (used_any hD hs.used).mono ?_
  rintro e w' ⟨rfl, rfl⟩
  rw [he]
  exact ⟨rfl, rfl⟩
theorem size_has {W w : World} {d : Nat} {k : Dk} {nm : ByteArray} {n : Nat} {r : Int} (h : Has W d k w) (he : sizeD k nm = (n, r)) :
    Calls Try.prog 14 #[.pointer (some ⟨d, 0, none⟩), .string nm] w fun e w' => e = .returned (.tuple #[.int .i64 n, .int .i64 r]) ∧ Touch [] w w' := by
  obtain ⟨own, h1, _, _⟩ := h
  refine (size_any h1 nm).mono ?_
  rintro e w' ⟨rfl, t⟩
  rw [he]
  exact ⟨rfl, t⟩
theorem read_has {W w : World} {d : Nat} {k : Dk} {nm s : ByteArray} {a n r : Int} (h : Has W d k w) (ha : -9223372036854775808 ≤ a ∧ a ≤ 9223372036854775807) (hn : -9223372036854775808 ≤ n ∧ n ≤ 9223372036854775807) (he : readD k nm a n = (s, r)) :
    Calls Try.prog 13 #[.pointer (some ⟨d, 0, none⟩), .string nm, .int .i64 a, .int .i64 n] w fun e w' => e = .returned (.tuple #[.string s, .int .i64 r]) ∧ Touch [] w w' := by
  obtain ⟨own, h1, _, _⟩ := h
  refine (read_any h1 nm a n ha hn).mono ?_
  rintro e w' ⟨rfl, t⟩
  rw [he]
  exact ⟨rfl, t⟩
theorem unsyn_has {W w : World} {d : Nat} {k : Dk} {nm : ByteArray} {n : Nat} (h : Has W d k w) (he : unsynD k nm = n) :
    Calls Try.prog 23 #[.pointer (some ⟨d, 0, none⟩), .string nm] w fun e w' => e = .returned (.int .i64 n) ∧ Touch [] w w' := by
  obtain ⟨own, h1, _, _⟩ := h
  refine (unsyn_any h1 nm).mono ?_
  rintro e w' ⟨rfl, t⟩
  rw [he]
  exact ⟨rfl, t⟩
theorem list_has {W w : World} {d : Nat} {k : Dk} {p : ByteArray} {l : List ByteArray} {n : Nat} (h : Has W d k w) (he : listD k p = l) (hn : l.length = n) :
    Calls Try.prog 20 #[.pointer (some ⟨d, 0, none⟩), .string p] w fun e w' => ∃ x c, e = .returned (.slice x n c) ∧ w'.ownsRow w.heap.size 9 1 (.slice x n c) n (svals l) ∧ Touch [] w w' := by
  obtain ⟨own, h1, _, _⟩ := h
  refine (list_any h1 p).mono ?_
  rintro e w' ⟨v, rfl, ho, t⟩
  rw [he, hn] at ho
  obtain ⟨x, c, rfl, -⟩ := own_form ho
  exact ⟨x, c, rfl, ho, t⟩
theorem twin_has {W w : World} {d : Nat} {k : Dk} (h : Has W d k w) (hk : k.keep.length ≤ 1000000) :
    Calls Try.prog 25 #[.pointer (some ⟨d, 0, none⟩)] w fun e w' => ∃ t, e = .returned (.pointer (some ⟨t, 0, none⟩)) ∧ Has w t k w' ∧ Has W d k w' := by
  have h0 := h
  obtain ⟨own, h1, h2, h3⟩ := h
  refine (twin_any h1 hk).mono ?_
  rintro e w' ⟨t, own', rfl, q1, q2, q3⟩
  exact ⟨t, rfl, ⟨own', q1, q2, q3⟩, h0.touch q2⟩
end Go.Proofs.Ythibabfojndlkaa
