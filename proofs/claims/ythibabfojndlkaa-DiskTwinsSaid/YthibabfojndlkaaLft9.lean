/- A disk's calls, by what they leave of a world that other disks live in. -/
import Derived.Test.YthibabfojndlkaaHas9
namespace Go.Proofs.Ythibabfojndlkaa
open Go.RowKit Go.Lib
set_option maxRecDepth 100000

theorem Left.touch {W w w' : World} {d : Nat} {k : Dk} {O : List Nat} (h : Left d O W k w) (t : Touch [] w w') : Left d O W k w' := by
  obtain ⟨own, h1, h2, h3⟩ := h
  exact ⟨own, h1.touch t (by simp), h2.trans t (by simp), h3⟩
theorem Left.base {W0 W w : World} {d : Nat} {k : Dk} {O : List Nat} (hW : Touch [] W0 W) (hO : ∀ i ∈ O, W0.heap.size ≤ i) (h : Left d O W k w) : Touch [] W0 w := by
  obtain ⟨own, h1, h2, h3⟩ := h
  exact hW.trans h2 (fun i hi => .inr (hO i hi))
theorem Left.sorted {W w : World} {d : Nat} {k : Dk} {O : List Nat} (h : Left d O W k w) : Sorted k.files := by
  obtain ⟨own, ⟨rv, kv, L, hD, _, _⟩, _, _⟩ := h
  exact hD.sorted
theorem append_left {W w : World} {d : Nat} {O : List Nat} {k k' : Dk} {nm s : ByteArray} {r : Int} (h : Left d O W k w) (hs : Sm k s.size) (he : appendD k nm s = (r, k')) :
    Calls Try.prog 15 #[.pointer (some ⟨d, 0, none⟩), .string nm, .string s] w fun e w' => e = .returned (.int .i64 r) ∧ Left d O W k' w' := by
  obtain ⟨own, h1, h2, h3⟩ := h
  refine (append_any ⟨h1, hs.keep, by have := hs.used; omega⟩ nm s hs.used hs.room).mono ?_
  rintro e w' ⟨rfl, hl⟩
  rw [he] at hl ⊢
  exact ⟨rfl, Left.trans h2 h3 hl⟩
theorem sync_left {W w : World} {d : Nat} {O : List Nat} {k k' : Dk} {nm : ByteArray} {r : Int} (h : Left d O W k w) (hs : Sm k 0) (he : syncD k nm = (r, k')) :
    Calls Try.prog 16 #[.pointer (some ⟨d, 0, none⟩), .string nm] w fun e w' => e = .returned (.int .i64 r) ∧ Left d O W k' w' := by
  obtain ⟨own, h1, h2, h3⟩ := h
  refine (sync_any ⟨h1, hs.keep, hs.used⟩ nm).mono ?_
  rintro e w' ⟨rfl, hl⟩
  rw [he] at hl ⊢
  exact ⟨rfl, Left.trans h2 h3 hl⟩
theorem trunc_left {W w : World} {d : Nat} {O : List Nat} {k k' : Dk} {nm : ByteArray} {n r : Int} (h : Left d O W k w) (hs : Sm k 0) (he : truncD k nm n = (r, k')) :
    Calls Try.prog 17 #[.pointer (some ⟨d, 0, none⟩), .string nm, .int .i64 n] w fun e w' => e = .returned (.int .i64 r) ∧ Left d O W k' w' := by
  obtain ⟨own, h1, h2, h3⟩ := h
  refine (trunc_any ⟨h1, hs.keep, hs.used⟩ nm n).mono ?_
  rintro e w' ⟨rfl, hl⟩
  rw [he] at hl ⊢
  exact ⟨rfl, Left.trans h2 h3 hl⟩
theorem remove_left {W w : World} {d : Nat} {O : List Nat} {k k' : Dk} {nm : ByteArray} {r : Int} (h : Left d O W k w) (hs : Sm k 0) (he : removeD k nm = (r, k')) :
    Calls Try.prog 19 #[.pointer (some ⟨d, 0, none⟩), .string nm] w fun e w' => e = .returned (.int .i64 r) ∧ Left d O W k' w' := by
  obtain ⟨own, h1, h2, h3⟩ := h
  refine (remove_any ⟨h1, hs.keep, hs.used⟩ nm).mono ?_
  rintro e w' ⟨rfl, hl⟩
  rw [he] at hl ⊢
  exact ⟨rfl, Left.trans h2 h3 hl⟩
theorem rename_left {W w : World} {d : Nat} {O : List Nat} {k k' : Dk} {nm nt : ByteArray} {r : Int} (h : Left d O W k w) (hs : Sm k 0) (he : renameD k nm nt = (r, k')) :
    Calls Try.prog 18 #[.pointer (some ⟨d, 0, none⟩), .string nm, .string nt] w fun e w' => e = .returned (.int .i64 r) ∧ Left d O W k' w' := by
  obtain ⟨own, h1, h2, h3⟩ := h
  refine (rename_any ⟨h1, hs.keep, hs.used⟩ nm nt).mono ?_
  rintro e w' ⟨rfl, hl⟩
  rw [he] at hl ⊢
  exact ⟨rfl, Left.trans h2 h3 hl⟩
theorem crash_left {W w : World} {d : Nat} {O : List Nat} {k k' : Dk} {x : Option Addr} {ks : List Int} {n c : Nat} {r : Int} (h : Left d O W k w) (hs : Sm k 0) (hk : IntsR w x ks) (hn : ks.length = n) (hl : n ≤ 1000000) (hr : (lostD k ks : Int) = r) (he : crashD k ks = k') :
    Calls Try.prog 21 #[.pointer (some ⟨d, 0, none⟩), .slice x n c] w fun e w' => e = .returned (.int .i64 r) ∧ Left d O W k' w' := by
  subst hn
  obtain ⟨own, h1, h2, h3⟩ := h
  refine (crash_any h1 hk hl hs.used).mono ?_
  rintro e w' ⟨rfl, hl⟩
  rw [he] at hl
  rw [hr]
  exact ⟨rfl, Left.trans h2 h3 hl⟩
theorem restore_left {W w : World} {d : Nat} {O : List Nat} {k k' : Dk} (h : Left d O W k w) (he : { k with on := true } = k') :
    Calls Try.prog 10 #[.pointer (some ⟨d, 0, none⟩)] w fun e w' => e = .returned (.tuple #[]) ∧ Left d O W k' w' := by
  obtain ⟨own, h1, h2, h3⟩ := h
  refine (restore_any h1).mono ?_
  rintro e w' ⟨rfl, hl⟩
  rw [he] at hl
  exact ⟨rfl, Left.trans h2 h3 hl⟩
end Go.Proofs.Ythibabfojndlkaa
