/- A disk that was made behind a world, and its calls by what they tell. A disk's calls, by what they leave of a world that other disks live in. The disk's calls, beside a log. -/
import Derived.Test.YtjjocnkockeacaaGreatDoorYAp9
import Derived.Test.YtjjocnkockeacaaGreatDoorZh
import Derived.Test.YtjjocnkockeacaaGreatDoorZa
namespace Go.Proofs.YtjjocnkockeacaaGreatDoor
open Go.RowKit Go.Lib
set_option maxRecDepth 100000

def Has (W : World) (d : Nat) (k : Dk) (w : World) : Prop := ∃ own, Dsk w d k own ∧ Touch [] W w ∧ ∀ i ∈ own, W.heap.size ≤ i
theorem Has.touch {W w w' : World} {d : Nat} {k : Dk} (h : Has W d k w) (t : Touch [] w w') : Has W d k w' := by
  obtain ⟨own, h1, h2, h3⟩ := h
  exact ⟨own, h1.touch t (by simp), h2.trans t (by simp), h3⟩
theorem Has.from_ {W w : World} {d : Nat} {k : Dk} (h : Has W d k w) : Touch [] W w := by
  obtain ⟨own, _, h2, _⟩ := h
  exact h2
theorem Has.left {W w w' : World} {d : Nat} {k : Dk} {own : List Nat} (t : Touch [] W w) (ho : ∀ i ∈ own, W.heap.size ≤ i) (h : Left d own w k w') : Has W d k w' := by
  obtain ⟨own', h1, h2, h3⟩ := h
  refine ⟨own', h1, (t.mono (G := own) (by simp)).trans h2 (fun i hi => .inl hi) |>.mono (fun i hi => .inr (ho i hi)), fun i hi => ?_⟩
  rcases h3 i hi with h4 | h4
  · exact ho i h4
  · exact Nat.le_trans t.size h4

/-- Small enough. -/
structure Sm (k : Dk) (n : Nat) : Prop where
  keep : k.keep.length ≤ 1000000
  used : used k.files + n ≤ 70368744177664
  room : -9223372036854775808 ≤ k.room ∧ k.room ≤ 9223372036854775807
theorem Sm.le {k : Dk} {n m : Nat} (h : Sm k n) (hm : m ≤ n) : Sm k m := ⟨h.keep, by have := h.used; omega, h.room⟩

theorem new_has (room : Int) (w : World) : Calls Tryz.prog 10 #[.int .i64 room] w fun e w' => ∃ d, e = .returned (.pointer (some ⟨d, 0, none⟩)) ∧ Has w d (newD room) w' := by
  refine (new_any room w).mono ?_
  rintro e w' ⟨d, rfl, own, h1, h2, h3⟩
  exact ⟨d, rfl, own, h1, h2, h3⟩
theorem append_has {W w : World} {d : Nat} {k k' : Dk} {nm s : ByteArray} {r : Int} (h : Has W d k w) (hs : Sm k s.size) (he : appendD k nm s = (r, k')) :
    Calls Tryz.prog 46 #[.pointer (some ⟨d, 0, none⟩), .string nm, .string s] w fun e w' => e = .returned (.int .i64 r) ∧ Has W d k' w' := by
  obtain ⟨own, h1, h2, h3⟩ := h
  refine (append_any ⟨h1, hs.keep, by have := hs.used; omega⟩ nm s hs.used hs.room).mono ?_
  rintro e w' ⟨rfl, hl⟩
  rw [he] at hl ⊢
  exact ⟨rfl, Has.left h2 h3 hl⟩
theorem sync_has {W w : World} {d : Nat} {k k' : Dk} {nm : ByteArray} {r : Int} (h : Has W d k w) (hs : Sm k 0) (he : syncD k nm = (r, k')) :
    Calls Tryz.prog 40 #[.pointer (some ⟨d, 0, none⟩), .string nm] w fun e w' => e = .returned (.int .i64 r) ∧ Has W d k' w' := by
  obtain ⟨own, h1, h2, h3⟩ := h
  refine (sync_any ⟨h1, hs.keep, hs.used⟩ nm).mono ?_
  rintro e w' ⟨rfl, hl⟩
  rw [he] at hl ⊢
  exact ⟨rfl, Has.left h2 h3 hl⟩
theorem trunc_has {W w : World} {d : Nat} {k k' : Dk} {nm : ByteArray} {n r : Int} (h : Has W d k w) (hs : Sm k 0) (he : truncD k nm n = (r, k')) :
    Calls Tryz.prog 81 #[.pointer (some ⟨d, 0, none⟩), .string nm, .int .i64 n] w fun e w' => e = .returned (.int .i64 r) ∧ Has W d k' w' := by
  obtain ⟨own, h1, h2, h3⟩ := h
  refine (trunc_any ⟨h1, hs.keep, hs.used⟩ nm n).mono ?_
  rintro e w' ⟨rfl, hl⟩
  rw [he] at hl ⊢
  exact ⟨rfl, Has.left h2 h3 hl⟩
theorem remove_has {W w : World} {d : Nat} {k k' : Dk} {nm : ByteArray} {r : Int} (h : Has W d k w) (hs : Sm k 0) (he : removeD k nm = (r, k')) :
    Calls Tryz.prog 69 #[.pointer (some ⟨d, 0, none⟩), .string nm] w fun e w' => e = .returned (.int .i64 r) ∧ Has W d k' w' := by
  obtain ⟨own, h1, h2, h3⟩ := h
  refine (remove_any ⟨h1, hs.keep, hs.used⟩ nm).mono ?_
  rintro e w' ⟨rfl, hl⟩
  rw [he] at hl ⊢
  exact ⟨rfl, Has.left h2 h3 hl⟩
theorem rename_has {W w : World} {d : Nat} {k k' : Dk} {nm nt : ByteArray} {r : Int} (h : Has W d k w) (hs : Sm k 0) (he : renameD k nm nt = (r, k')) :
    Calls Tryz.prog 92 #[.pointer (some ⟨d, 0, none⟩), .string nm, .string nt] w fun e w' => e = .returned (.int .i64 r) ∧ Has W d k' w' := by
  obtain ⟨own, h1, h2, h3⟩ := h
  refine (rename_any ⟨h1, hs.keep, hs.used⟩ nm nt).mono ?_
  rintro e w' ⟨rfl, hl⟩
  rw [he] at hl ⊢
  exact ⟨rfl, Has.left h2 h3 hl⟩
theorem crash_has {W w : World} {d : Nat} {k k' : Dk} {x : Option Addr} {ks : List Int} {n c : Nat} {r : Int} (h : Has W d k w) (hs : Sm k 0) (hk : IntsR w x ks) (hn : ks.length = n) (hl : n ≤ 1000000) (hr : (lostD k ks : Int) = r) (he : crashD k ks = k') :
    Calls Tryz.prog 30 #[.pointer (some ⟨d, 0, none⟩), .slice x n c] w fun e w' => e = .returned (.int .i64 r) ∧ Has W d k' w' := by
  subst hn
  obtain ⟨own, h1, h2, h3⟩ := h
  refine (crash_any h1 hk hl hs.used).mono ?_
  rintro e w' ⟨rfl, hl⟩
  rw [he] at hl
  rw [hr]
  exact ⟨rfl, Has.left h2 h3 hl⟩
theorem restore_has {W w : World} {d : Nat} {k k' : Dk} (h : Has W d k w) (he : { k with on := true } = k') :
    Calls Tryz.prog 27 #[.pointer (some ⟨d, 0, none⟩)] w fun e w' => e = .returned (.tuple #[]) ∧ Has W d k' w' := by
  obtain ⟨own, h1, h2, h3⟩ := h
  refine (restore_any h1).mono ?_
  rintro e w' ⟨rfl, hl⟩
  rw [he] at hl
  exact ⟨rfl, Has.left h2 h3 hl⟩
theorem arm_has {W w : World} {d : Nat} {k k' : Dk} {base : Nat} {v : Value} {ks : List Int} {n : Int} (h : Has W d k w) (hn : n ≤ 9223372036854775807) (hk : w.ownsRow base tInt 1 v ks.length (intVals ks)) (hl : ks.length ≤ 1000000) (he : armD k n ks = k') :
    Calls Tryz.prog 25 #[.pointer (some ⟨d, 0, none⟩), .int .i64 n, v] w fun e w' => e = .returned (.tuple #[]) ∧ Has W d k' w' := by
  obtain ⟨own, h1, h2, h3⟩ := h
  refine (arm_any h1 n hn hk hl).mono ?_
  rintro e w' ⟨rfl, hl⟩
  rw [he] at hl
  exact ⟨rfl, Has.left h2 h3 hl⟩
theorem on_has {W w : World} {d : Nat} {k : Dk} {b : Bool} (h : Has W d k w) (he : k.on = b) :
    Calls Tryz.prog 26 #[.pointer (some ⟨d, 0, none⟩)] w fun e w' => e = .returned (.bool b) ∧ w' = w := by
  obtain ⟨own, ⟨rv, kv, L, hD, _, _⟩, _, _⟩ := h
  refine (on_any hD.cells).mono ?_
  rintro e w' ⟨rfl, rfl⟩
  rw [he]
  exact ⟨rfl, rfl⟩
theorem used_has {W w : World} {d : Nat} {k : Dk} {n : Nat} (h : Has W d k w) (hs : Sm k 0) (he : used k.files = n) :
    Calls Tryz.prog 86 #[.pointer (some ⟨d, 0, none⟩)] w fun e w' => e = .returned (.int .i64 n) ∧ w' = w := by
  obtain ⟨own, ⟨rv, kv, L, hD, _, _⟩, _, _⟩ := h
  refine (used_any hD hs.used).mono ?_
  rintro e w' ⟨rfl, rfl⟩
  rw [he]
  exact ⟨rfl, rfl⟩
theorem size_has {W w : World} {d : Nat} {k : Dk} {nm : ByteArray} {n : Nat} {r : Int} (h : Has W d k w) (he : sizeD k nm = (n, r)) :
    Calls Tryz.prog 101 #[.pointer (some ⟨d, 0, none⟩), .string nm] w fun e w' => e = .returned (.tuple #[.int .i64 n, .int .i64 r]) ∧ Touch [] w w' := by
  obtain ⟨own, h1, _, _⟩ := h
  refine (size_any h1 nm).mono ?_
  rintro e w' ⟨rfl, t⟩
  rw [he]
  exact ⟨rfl, t⟩
theorem read_has {W w : World} {d : Nat} {k : Dk} {nm s : ByteArray} {a n r : Int} (h : Has W d k w) (ha : -9223372036854775808 ≤ a ∧ a ≤ 9223372036854775807) (hn : -9223372036854775808 ≤ n ∧ n ≤ 9223372036854775807) (he : readD k nm a n = (s, r)) :
    Calls Tryz.prog 102 #[.pointer (some ⟨d, 0, none⟩), .string nm, .int .i64 a, .int .i64 n] w fun e w' => e = .returned (.tuple #[.string s, .int .i64 r]) ∧ Touch [] w w' := by
  obtain ⟨own, h1, _, _⟩ := h
  refine (read_any h1 nm a n ha hn).mono ?_
  rintro e w' ⟨rfl, t⟩
  rw [he]
  exact ⟨rfl, t⟩
theorem unsyn_has {W w : World} {d : Nat} {k : Dk} {nm : ByteArray} {n : Nat} (h : Has W d k w) (he : unsynD k nm = n) :
    Calls Tryz.prog 106 #[.pointer (some ⟨d, 0, none⟩), .string nm] w fun e w' => e = .returned (.int .i64 n) ∧ Touch [] w w' := by
  obtain ⟨own, h1, _, _⟩ := h
  refine (unsyn_any h1 nm).mono ?_
  rintro e w' ⟨rfl, t⟩
  rw [he]
  exact ⟨rfl, t⟩
theorem list_has {W w : World} {d : Nat} {k : Dk} {p : ByteArray} {l : List ByteArray} {n : Nat} (h : Has W d k w) (he : listD k p = l) (hn : l.length = n) :
    Calls Tryz.prog 29 #[.pointer (some ⟨d, 0, none⟩), .string p] w fun e w' => ∃ x c, e = .returned (.slice x n c) ∧ w'.ownsRow w.heap.size 9 1 (.slice x n c) n (svals l) ∧ Touch [] w w' := by
  obtain ⟨own, h1, _, _⟩ := h
  refine (list_any h1 p).mono ?_
  rintro e w' ⟨v, rfl, ho, t⟩
  rw [he, hn] at ho
  obtain ⟨x, c, rfl, -⟩ := own_form ho
  exact ⟨x, c, rfl, ho, t⟩
end Go.Proofs.YtjjocnkockeacaaGreatDoor

namespace Go.Proofs.YtjjocnkockeacaaGreatDoor
open Go.RowKit Go.Lib
set_option maxRecDepth 100000

theorem Left.touch {W w w' : World} {d : Nat} {k : Dk} {O : List Nat} (h : Left d O W k w) (t : Touch [] w w') : Left d O W k w' := by
  obtain ⟨own, h1, h2, h3⟩ := h
  exact ⟨own, h1.touch t (by simp), h2.trans t (by simp), h3⟩
theorem Left.base {W0 W w : World} {d : Nat} {k : Dk} {O : List Nat} (hW : Touch [] W0 W) (hO : ∀ i ∈ O, W0.heap.size ≤ i) (h : Left d O W k w) : Touch [] W0 w := by
  obtain ⟨own, h1, h2, h3⟩ := h
  exact hW.trans h2 (fun i hi => .inr (hO i hi))
theorem Left.sorted {W w : World} {d : Nat} {k : Dk} {O : List Nat} (h : Left d O W k w) : Sorted k.files := by
  obtain ⟨own, ⟨rv, kv, L, hD, _, _⟩, _, _⟩ := h
  exact hD.sorted
theorem append_left {W w : World} {d : Nat} {O : List Nat} {k k' : Dk} {nm s : ByteArray} {r : Int} (h : Left d O W k w) (hs : Sm k s.size) (he : appendD k nm s = (r, k')) :
    Calls Tryz.prog 46 #[.pointer (some ⟨d, 0, none⟩), .string nm, .string s] w fun e w' => e = .returned (.int .i64 r) ∧ Left d O W k' w' := by
  obtain ⟨own, h1, h2, h3⟩ := h
  refine (append_any ⟨h1, hs.keep, by have := hs.used; omega⟩ nm s hs.used hs.room).mono ?_
  rintro e w' ⟨rfl, hl⟩
  rw [he] at hl ⊢
  exact ⟨rfl, Left.trans h2 h3 hl⟩
theorem sync_left {W w : World} {d : Nat} {O : List Nat} {k k' : Dk} {nm : ByteArray} {r : Int} (h : Left d O W k w) (hs : Sm k 0) (he : syncD k nm = (r, k')) :
    Calls Tryz.prog 40 #[.pointer (some ⟨d, 0, none⟩), .string nm] w fun e w' => e = .returned (.int .i64 r) ∧ Left d O W k' w' := by
  obtain ⟨own, h1, h2, h3⟩ := h
  refine (sync_any ⟨h1, hs.keep, hs.used⟩ nm).mono ?_
  rintro e w' ⟨rfl, hl⟩
  rw [he] at hl ⊢
  exact ⟨rfl, Left.trans h2 h3 hl⟩
theorem trunc_left {W w : World} {d : Nat} {O : List Nat} {k k' : Dk} {nm : ByteArray} {n r : Int} (h : Left d O W k w) (hs : Sm k 0) (he : truncD k nm n = (r, k')) :
    Calls Tryz.prog 81 #[.pointer (some ⟨d, 0, none⟩), .string nm, .int .i64 n] w fun e w' => e = .returned (.int .i64 r) ∧ Left d O W k' w' := by
  obtain ⟨own, h1, h2, h3⟩ := h
  refine (trunc_any ⟨h1, hs.keep, hs.used⟩ nm n).mono ?_
  rintro e w' ⟨rfl, hl⟩
  rw [he] at hl ⊢
  exact ⟨rfl, Left.trans h2 h3 hl⟩
theorem remove_left {W w : World} {d : Nat} {O : List Nat} {k k' : Dk} {nm : ByteArray} {r : Int} (h : Left d O W k w) (hs : Sm k 0) (he : removeD k nm = (r, k')) :
    Calls Tryz.prog 69 #[.pointer (some ⟨d, 0, none⟩), .string nm] w fun e w' => e = .returned (.int .i64 r) ∧ Left d O W k' w' := by
  obtain ⟨own, h1, h2, h3⟩ := h
  refine (remove_any ⟨h1, hs.keep, hs.used⟩ nm).mono ?_
  rintro e w' ⟨rfl, hl⟩
  rw [he] at hl ⊢
  exact ⟨rfl, Left.trans h2 h3 hl⟩
theorem rename_left {W w : World} {d : Nat} {O : List Nat} {k k' : Dk} {nm nt : ByteArray} {r : Int} (h : Left d O W k w) (hs : Sm k 0) (he : renameD k nm nt = (r, k')) :
    Calls Tryz.prog 92 #[.pointer (some ⟨d, 0, none⟩), .string nm, .string nt] w fun e w' => e = .returned (.int .i64 r) ∧ Left d O W k' w' := by
  obtain ⟨own, h1, h2, h3⟩ := h
  refine (rename_any ⟨h1, hs.keep, hs.used⟩ nm nt).mono ?_
  rintro e w' ⟨rfl, hl⟩
  rw [he] at hl ⊢
  exact ⟨rfl, Left.trans h2 h3 hl⟩
theorem crash_left {W w : World} {d : Nat} {O : List Nat} {k k' : Dk} {x : Option Addr} {ks : List Int} {n c : Nat} {r : Int} (h : Left d O W k w) (hs : Sm k 0) (hk : IntsR w x ks) (hn : ks.length = n) (hl : n ≤ 1000000) (hr : (lostD k ks : Int) = r) (he : crashD k ks = k') :
    Calls Tryz.prog 30 #[.pointer (some ⟨d, 0, none⟩), .slice x n c] w fun e w' => e = .returned (.int .i64 r) ∧ Left d O W k' w' := by
  subst hn
  obtain ⟨own, h1, h2, h3⟩ := h
  refine (crash_any h1 hk hl hs.used).mono ?_
  rintro e w' ⟨rfl, hl⟩
  rw [he] at hl
  rw [hr]
  exact ⟨rfl, Left.trans h2 h3 hl⟩
theorem restore_left {W w : World} {d : Nat} {O : List Nat} {k k' : Dk} (h : Left d O W k w) (he : { k with on := true } = k') :
    Calls Tryz.prog 27 #[.pointer (some ⟨d, 0, none⟩)] w fun e w' => e = .returned (.tuple #[]) ∧ Left d O W k' w' := by
  obtain ⟨own, h1, h2, h3⟩ := h
  refine (restore_any h1).mono ?_
  rintro e w' ⟨rfl, hl⟩
  rw [he] at hl
  exact ⟨rfl, Left.trans h2 h3 hl⟩
end Go.Proofs.YtjjocnkockeacaaGreatDoor

namespace Go.Proofs.YtjjocnkockeacaaGreatDoor
open Go.RowKit Go.Lib
set_option maxRecDepth 100000

theorem append_ld {O : List Nat} {W w : World} {d b : Nat} {k k' : Dk} {S : Lg} {nm s : ByteArray} {r : Int} (h : LD O W w d k b S) (hs : Sm k s.size) (he : appendD k nm s = (r, k')) :
    Calls Tryz.prog 46 #[.pointer (some ⟨d, 0, none⟩), .string nm, .string s] w fun e w' => e = .returned (.int .i64 r) ∧ LD O W w' d k' b S := by
  obtain ⟨rv, kv, L, pv, lv, own, H⟩ := h
  refine (append_any ⟨H.dsk, hs.keep, by have := hs.used; omega⟩ nm s hs.used hs.room).mono ?_
  rintro e w' ⟨rfl, hl⟩
  rw [he] at hl ⊢
  exact ⟨rfl, H.disked hl⟩
theorem sync_ld {O : List Nat} {W w : World} {d b : Nat} {k k' : Dk} {S : Lg} {nm : ByteArray} {r : Int} (h : LD O W w d k b S) (hs : Sm k 0) (he : syncD k nm = (r, k')) :
    Calls Tryz.prog 40 #[.pointer (some ⟨d, 0, none⟩), .string nm] w fun e w' => e = .returned (.int .i64 r) ∧ LD O W w' d k' b S := by
  obtain ⟨rv, kv, L, pv, lv, own, H⟩ := h
  refine (sync_any ⟨H.dsk, hs.keep, hs.used⟩ nm).mono ?_
  rintro e w' ⟨rfl, hl⟩
  rw [he] at hl ⊢
  exact ⟨rfl, H.disked hl⟩
theorem trunc_ld {O : List Nat} {W w : World} {d b : Nat} {k k' : Dk} {S : Lg} {nm : ByteArray} {n r : Int} (h : LD O W w d k b S) (hs : Sm k 0) (he : truncD k nm n = (r, k')) :
    Calls Tryz.prog 81 #[.pointer (some ⟨d, 0, none⟩), .string nm, .int .i64 n] w fun e w' => e = .returned (.int .i64 r) ∧ LD O W w' d k' b S := by
  obtain ⟨rv, kv, L, pv, lv, own, H⟩ := h
  refine (trunc_any ⟨H.dsk, hs.keep, hs.used⟩ nm n).mono ?_
  rintro e w' ⟨rfl, hl⟩
  rw [he] at hl ⊢
  exact ⟨rfl, H.disked hl⟩
theorem remove_ld {O : List Nat} {W w : World} {d b : Nat} {k k' : Dk} {S : Lg} {nm : ByteArray} {r : Int} (h : LD O W w d k b S) (hs : Sm k 0) (he : removeD k nm = (r, k')) :
    Calls Tryz.prog 69 #[.pointer (some ⟨d, 0, none⟩), .string nm] w fun e w' => e = .returned (.int .i64 r) ∧ LD O W w' d k' b S := by
  obtain ⟨rv, kv, L, pv, lv, own, H⟩ := h
  refine (remove_any ⟨H.dsk, hs.keep, hs.used⟩ nm).mono ?_
  rintro e w' ⟨rfl, hl⟩
  rw [he] at hl ⊢
  exact ⟨rfl, H.disked hl⟩
theorem rename_ld {O : List Nat} {W w : World} {d b : Nat} {k k' : Dk} {S : Lg} {nm nt : ByteArray} {r : Int} (h : LD O W w d k b S) (hs : Sm k 0) (he : renameD k nm nt = (r, k')) :
    Calls Tryz.prog 92 #[.pointer (some ⟨d, 0, none⟩), .string nm, .string nt] w fun e w' => e = .returned (.int .i64 r) ∧ LD O W w' d k' b S := by
  obtain ⟨rv, kv, L, pv, lv, own, H⟩ := h
  refine (rename_any ⟨H.dsk, hs.keep, hs.used⟩ nm nt).mono ?_
  rintro e w' ⟨rfl, hl⟩
  rw [he] at hl ⊢
  exact ⟨rfl, H.disked hl⟩
theorem size_ld {O : List Nat} {W w : World} {d b : Nat} {k : Dk} {S : Lg} {nm : ByteArray} {n : Nat} {r : Int} (h : LD O W w d k b S) (he : sizeD k nm = (n, r)) :
    Calls Tryz.prog 101 #[.pointer (some ⟨d, 0, none⟩), .string nm] w fun e w' => e = .returned (.tuple #[.int .i64 n, .int .i64 r]) ∧ Touch [] w w' := by
  obtain ⟨rv, kv, L, pv, lv, own, H⟩ := h
  refine (size_any H.dsk nm).mono ?_
  rintro e w' ⟨rfl, t⟩
  rw [he]
  exact ⟨rfl, t⟩
theorem read_ld {O : List Nat} {W w : World} {d b : Nat} {k : Dk} {S : Lg} {nm s : ByteArray} {a n r : Int} (h : LD O W w d k b S) (ha : -9223372036854775808 ≤ a ∧ a ≤ 9223372036854775807) (hn : -9223372036854775808 ≤ n ∧ n ≤ 9223372036854775807) (he : readD k nm a n = (s, r)) :
    Calls Tryz.prog 102 #[.pointer (some ⟨d, 0, none⟩), .string nm, .int .i64 a, .int .i64 n] w fun e w' => e = .returned (.tuple #[.string s, .int .i64 r]) ∧ Touch [] w w' := by
  obtain ⟨rv, kv, L, pv, lv, own, H⟩ := h
  refine (read_any H.dsk nm a n ha hn).mono ?_
  rintro e w' ⟨rfl, t⟩
  rw [he]
  exact ⟨rfl, t⟩
theorem unsyn_ld {O : List Nat} {W w : World} {d b : Nat} {k : Dk} {S : Lg} {nm : ByteArray} {n : Nat} (h : LD O W w d k b S) (he : unsynD k nm = n) :
    Calls Tryz.prog 106 #[.pointer (some ⟨d, 0, none⟩), .string nm] w fun e w' => e = .returned (.int .i64 n) ∧ Touch [] w w' := by
  obtain ⟨rv, kv, L, pv, lv, own, H⟩ := h
  refine (unsyn_any H.dsk nm).mono ?_
  rintro e w' ⟨rfl, t⟩
  rw [he]
  exact ⟨rfl, t⟩
theorem list_ld {O : List Nat} {W w : World} {d b : Nat} {k : Dk} {S : Lg} {p : ByteArray} {l : List ByteArray} (h : LD O W w d k b S) (he : listD k p = l) :
    Calls Tryz.prog 29 #[.pointer (some ⟨d, 0, none⟩), .string p] w fun e w' => ∃ v, e = .returned v ∧ w'.ownsRow w.heap.size tStg 1 v l.length (txtVals l) ∧ Touch [] w w' := by
  obtain ⟨rv, kv, L, pv, lv, own, H⟩ := h
  subst he
  exact list_any H.dsk p
/-! A disk alone, by what it leaves. -/
theorem arm_left {W w : World} {d : Nat} {O : List Nat} {k k' : Dk} {base : Nat} {v : Value} {ks : List Int} {n : Int} (h : Left d O W k w) (hn : n ≤ 9223372036854775807) (hk : w.ownsRow base tInt 1 v ks.length (intVals ks)) (hl : ks.length ≤ 1000000) (he : armD k n ks = k') :
    Calls Tryz.prog 25 #[.pointer (some ⟨d, 0, none⟩), .int .i64 n, v] w fun e w' => e = .returned (.tuple #[]) ∧ Left d O W k' w' := by
  obtain ⟨own, h1, h2, h3⟩ := h
  refine (arm_any h1 n hn hk hl).mono ?_
  rintro e w' ⟨rfl, hl⟩
  rw [he] at hl
  exact ⟨rfl, Left.trans h2 h3 hl⟩
theorem on_left {W w : World} {d : Nat} {O : List Nat} {k : Dk} {b : Bool} (h : Left d O W k w) (he : k.on = b) :
    Calls Tryz.prog 26 #[.pointer (some ⟨d, 0, none⟩)] w fun e w' => e = .returned (.bool b) ∧ w' = w := by
  obtain ⟨own, ⟨rv, kv, L, hD, _, _⟩, _, _⟩ := h
  refine (on_any hD.cells).mono ?_
  rintro e w' ⟨rfl, rfl⟩
  rw [he]
  exact ⟨rfl, rfl⟩
theorem list_left {W w : World} {d : Nat} {O : List Nat} {k : Dk} {p : ByteArray} {l : List ByteArray} (h : Left d O W k w) (he : listD k p = l) :
    Calls Tryz.prog 29 #[.pointer (some ⟨d, 0, none⟩), .string p] w fun e w' => ∃ v, e = .returned v ∧ w'.ownsRow w.heap.size tStg 1 v l.length (txtVals l) ∧ Touch [] w w' := by
  obtain ⟨own, h1, _, _⟩ := h
  subst he
  exact list_any h1 p
theorem new_left (room : Int) (w : World) : Calls Tryz.prog 10 #[.int .i64 room] w fun e w' => ∃ d, e = .returned (.pointer (some ⟨d, 0, none⟩)) ∧ Left d [] w (newD room) w' := by
  refine (new_any room w).mono ?_
  rintro e w' ⟨d, rfl, own, h1, h2, h3⟩
  exact ⟨d, rfl, own, h1, h2, fun i hi => .inr (h3 i hi)⟩
end Go.Proofs.YtjjocnkockeacaaGreatDoor
