/- A log's files as plain lists: their names, in order. -/
import Derived.Test.YtjjocnkockeacaaGreatDoorZa
namespace Go.Proofs.YtjjocnkockeacaaGreatDoor
open Go.RowKit Go.Lib
set_option maxRecDepth 100000

/-! ### Names -/
def digB (n : Nat) : UInt8 := UInt8.ofNat (48 + n % 10)
/-- The name of chunk k of the log "p". -/
def nameK (k : Nat) : ByteArray := ⟨#[112, digB (k / 100000), digB (k / 10000), digB (k / 1000), digB (k / 100), digB (k / 10), digB k]⟩
def nmMark : ByteArray := ⟨#[112, 109, 97, 114, 107]⟩
def nmNew : ByteArray := ⟨#[112, 110, 101, 119]⟩
theorem nameK_size (k : Nat) : (nameK k).size = 7 := rfl
theorem nameK_next : ∀ k < 100, cmpN (nameK k) (nameK (k + 1)) < 0 := by decide +kernel
theorem nameK_lt {i j : Nat} (h : i < j) (hj : j ≤ 100) : cmpN (nameK i) (nameK j) < 0 := by
  obtain ⟨m, rfl⟩ : ∃ m, j = i + 1 + m := ⟨j - i - 1, by omega⟩
  clear h
  induction m with
  | zero => exact nameK_next i (by omega)
  | succ m ih => exact cmpN_trans (ih (by omega)) (nameK_next (i + 1 + m) (by omega))
theorem nameK_mark : ∀ k < 101, cmpN (nameK k) nmMark < 0 := by decide +kernel
theorem nameK_new : ∀ k < 101, cmpN (nameK k) nmNew < 0 := by decide +kernel
theorem mark_new : cmpN nmMark nmNew < 0 := by decide +kernel

/-! ### A disk's list of files, in parts -/
theorem getF_mid : ∀ {A : List Fl} {f : Fl} {B : List Fl}, Sorted (A ++ f :: B) → getF (A ++ f :: B) f.name = some f
  | [], f, B, _ => by rw [List.nil_append, getF, if_pos (cmpN_self _)]
  | a :: A, f, B, h => by
    have h1 := (List.pairwise_cons.1 h).1 f (by simp)
    rw [List.cons_append, getF, if_neg (by omega)]
    exact getF_mid (List.pairwise_cons.1 h).2
theorem putF_mid : ∀ {A : List Fl} {f f' : Fl} {B : List Fl}, Sorted (A ++ f :: B) → f'.name = f.name → putF (A ++ f :: B) f' = A ++ f' :: B
  | [], f, f', B, _, hn => by rw [List.nil_append, putF, hn, cmpN_self, if_neg (by omega), if_pos rfl]; rfl
  | a :: A, f, f', B, h, hn => by
    have h1 := (List.pairwise_cons.1 h).1 f (by simp)
    rw [List.cons_append, putF, hn, if_pos h1, putF_mid (List.pairwise_cons.1 h).2 hn]
    rfl
theorem dropF_mid : ∀ {A : List Fl} {f : Fl} {B : List Fl}, Sorted (A ++ f :: B) → dropF (A ++ f :: B) f.name = A ++ B
  | [], f, B, _ => by rw [List.nil_append, dropF, if_pos (cmpN_self _)]; rfl
  | a :: A, f, B, h => by
    have h1 := (List.pairwise_cons.1 h).1 f (by simp)
    rw [List.cons_append, dropF, if_neg (by omega), dropF_mid (List.pairwise_cons.1 h).2]
    rfl
theorem getF_lack {l : List Fl} {nm : ByteArray} (h : ∀ x ∈ l, cmpN x.name nm ≠ 0) : getF l nm = none := getF_none h
theorem putF_end : ∀ {A : List Fl} {f : Fl}, (∀ x ∈ A, cmpN x.name f.name < 0) → putF A f = A ++ [f]
  | [], f, _ => rfl
  | a :: A, f, h => by
    rw [putF, if_pos (h a (by simp)), putF_end fun x hx => h x (by simp [hx])]
    rfl
theorem sorted_end {A : List Fl} {f : Fl} (h : Sorted A) (hf : ∀ x ∈ A, cmpN x.name f.name < 0) : Sorted (A ++ [f]) := by
  rw [← putF_end hf]; exact sorted_putF h
theorem used_app (A B : List Fl) : used (A ++ B) = used A + used B := by simp [used]
theorem used_cons (f : Fl) (B : List Fl) : used (f :: B) = f.data.size + used B := by simp [used]

end Go.Proofs.YtjjocnkockeacaaGreatDoor
