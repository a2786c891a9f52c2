/- A disk with power, and how a log's files stand on it: equations. -/
import Derived.Test.YtjjocnkockeacaaGreatDoorYCb11
import Derived.Test.YtjjocnkockeacaaGreatDoorZi
namespace Go.Proofs.YtjjocnkockeacaaGreatDoor
open Go.RowKit Go.Lib
set_option maxRecDepth 100000

/-- A disk that has power, room for all, and goes nowhere. -/
structure Gd (k : Dk) (fs : List Fl) : Prop where
  on : k.on = true
  armed : k.armed = false
  room : k.room = 0
  keep : k.keep.length ≤ 1000000
  files : k.files = fs
  sorted : Sorted fs
def OkN (nm : ByteArray) : Prop := nm.size ≠ 0 ∧ nm.size ≤ 40
theorem Gd.goes {k : Dk} {fs : List Fl} (h : Gd k fs) : goesD k = (0, k) := by unfold goesD; rw [h.armed]; rfl
theorem Gd.refuse {k : Dk} {fs : List Fl} (h : Gd k fs) {nm : ByteArray} (ho : OkN nm) : refuse k nm = 0 := by
  unfold Go.Proofs.YtjjocnkockeacaaGreatDoor.refuse
  rw [if_pos h.on, if_neg (by obtain ⟨h1, h2⟩ := ho; omega)]
theorem Gd.with_ {k : Dk} {fs gs : List Fl} (h : Gd k fs) (hs : Sorted gs) : Gd { k with files := gs } gs := ⟨h.on, h.armed, h.room, h.keep, rfl, hs⟩
theorem Gd.sm {k : Dk} {fs : List Fl} (h : Gd k fs) {n : Nat} (hu : used fs + n ≤ 70368744177664) : Sm k n := ⟨h.keep, by rw [h.files]; exact hu, by rw [h.room]; omega⟩
theorem emp_app (s : ByteArray) : (⟨#[]⟩ : ByteArray) ++ s = s := by
  apply ByteArray.ext
  simp [ByteArray.data_append]
theorem Gd.append_new {k : Dk} {A : List Fl} (h : Gd k A) {nm : ByteArray} (s : ByteArray) (ho : OkN nm) (hn : ∀ x ∈ A, cmpN x.name nm < 0) (hl : A.length < 200) :
    appendD k nm s = (0, { k with files := A ++ [⟨nm, s, 0, false⟩] }) ∧ Sorted (A ++ [⟨nm, s, 0, false⟩]) := by
  have hg : getF A nm = none := getF_none fun x hx => by have := hn x hx; omega
  refine ⟨?_, sorted_end h.sorted hn⟩
  unfold appendD
  rw [h.refuse ho, if_neg (by simp), if_neg (by rw [h.room, h.files]; omega), h.files, hg]
  have e : withF ((none : Option Fl).getD (freshF nm)) s = ⟨nm, s, 0, false⟩ := by simp [withF, freshF, emp_app]
  rw [e, putF_end (f := ⟨nm, s, 0, false⟩) hn]
  exact (h.with_ (sorted_end h.sorted hn)).goes
theorem Gd.append_mid {k : Dk} {A B : List Fl} {f : Fl} (h : Gd k (A ++ f :: B)) (s : ByteArray) (ho : OkN f.name) :
    appendD k f.name s = (0, { k with files := A ++ withF f s :: B }) ∧ Sorted (A ++ withF f s :: B) := by
  have e : putF (A ++ f :: B) (withF f s) = A ++ withF f s :: B := putF_mid h.sorted rfl
  have hs : Sorted (A ++ withF f s :: B) := by rw [← e]; exact sorted_putF h.sorted
  refine ⟨?_, hs⟩
  unfold appendD
  rw [h.refuse ho, if_neg (by simp), h.files, getF_mid h.sorted, if_neg (by rw [h.room]; rintro (⟨h1, _⟩ | ⟨h1, _⟩) <;> simp at h1)]
  show goesD { k with files := putF (A ++ f :: B) (withF f s) } = _
  rw [e]
  exact (h.with_ hs).goes
theorem Gd.place {k : Dk} {A B : List Fl} {f : Fl} (h : Gd k (A ++ f :: B)) (ho : OkN f.name) : placeE k f.name = 0 := by
  unfold placeE
  rw [h.refuse ho, if_neg (by simp), h.files, getF_mid h.sorted, if_neg (by simp)]
theorem Gd.file {k : Dk} {A B : List Fl} {f : Fl} (h : Gd k (A ++ f :: B)) : fileD k f.name = f := by unfold fileD; rw [h.files, getF_mid h.sorted]; rfl
theorem Gd.place_none {k : Dk} {fs : List Fl} (h : Gd k fs) {nm : ByteArray} (ho : OkN nm) (hn : ∀ x ∈ fs, cmpN x.name nm ≠ 0) : placeE k nm = 8 := by
  unfold placeE
  rw [h.refuse ho, if_neg (by simp), h.files, getF_none hn, if_pos rfl]
theorem Gd.sync {k : Dk} {A B : List Fl} {f : Fl} (h : Gd k (A ++ f :: B)) (ho : OkN f.name) :
    syncD k f.name = (0, { k with files := A ++ lastF f :: B }) ∧ Sorted (A ++ lastF f :: B) := by
  have e : putF (A ++ f :: B) (lastF f) = A ++ lastF f :: B := putF_mid h.sorted rfl
  refine ⟨?_, by rw [← e]; exact sorted_putF h.sorted⟩
  unfold syncD
  rw [h.place ho, if_neg (by simp), h.goes, if_neg (by simp), h.files, h.file, e]
theorem Gd.trunc {k : Dk} {A B : List Fl} {f : Fl} (h : Gd k (A ++ f :: B)) (ho : OkN f.name) (n : Nat) (hn : n ≤ f.data.size) :
    truncD k f.name n = (0, { k with files := A ++ cutF f n :: B }) ∧ Sorted (A ++ cutF f n :: B) := by
  have e : putF (A ++ f :: B) (cutF f n) = A ++ cutF f n :: B := putF_mid h.sorted rfl
  refine ⟨?_, by rw [← e]; exact sorted_putF h.sorted⟩
  unfold truncD
  rw [h.place ho, if_neg (by simp), h.file, if_neg (by omega), h.goes, if_neg (by simp), h.files, Int.toNat_natCast, e]
theorem Gd.remove {k : Dk} {A B : List Fl} {f : Fl} (h : Gd k (A ++ f :: B)) (ho : OkN f.name) :
    removeD k f.name = (0, { k with files := A ++ B }) ∧ Sorted (A ++ B) := by
  have e : dropF (A ++ f :: B) f.name = A ++ B := dropF_mid h.sorted
  refine ⟨?_, by rw [← e]; exact sorted_dropF h.sorted⟩
  unfold removeD
  rw [h.place ho, if_neg (by simp), h.goes, if_neg (by simp), h.files, e]
theorem Gd.remove_none {k : Dk} {fs : List Fl} (h : Gd k fs) {nm : ByteArray} (ho : OkN nm) (hn : ∀ x ∈ fs, cmpN x.name nm ≠ 0) : removeD k nm = (8, k) := by
  unfold removeD
  rw [h.place_none ho hn, if_pos (by omega)]
theorem Gd.size {k : Dk} {A B : List Fl} {f : Fl} (h : Gd k (A ++ f :: B)) (ho : OkN f.name) : sizeD k f.name = (f.data.size, 0) := by
  unfold sizeD
  rw [h.place ho, if_neg (by simp), h.file]
theorem Gd.size_none {k : Dk} {fs : List Fl} (h : Gd k fs) {nm : ByteArray} (ho : OkN nm) (hn : ∀ x ∈ fs, cmpN x.name nm ≠ 0) : sizeD k nm = (0, 8) := by
  unfold sizeD
  rw [h.place_none ho hn, if_pos (by omega)]
theorem extract_all (s : ByteArray) : s.extract 0 s.size = s := by
  apply ByteArray.ext
  simp
theorem Gd.read {k : Dk} {A B : List Fl} {f : Fl} (h : Gd k (A ++ f :: B)) (ho : OkN f.name) : readD k f.name 0 f.data.size = (f.data, 0) := by
  unfold readD
  rw [h.place ho, if_neg (by simp), h.file, if_neg (by omega)]
  have := extract_all f.data
  simp [this]
theorem Gd.unsyn {k : Dk} {A B : List Fl} {f : Fl} (h : Gd k (A ++ f :: B)) (ho : OkN f.name) : unsynD k f.name = f.data.size - f.syn := by
  unfold unsynD
  rw [h.place ho, if_neg (by simp), h.file]
theorem okN_name (k : Nat) : OkN (nameK k) := ⟨by rw [nameK_size]; omega, by rw [nameK_size]; omega⟩
theorem okN_mark : OkN nmMark := ⟨by decide, by decide⟩
theorem okN_new : OkN nmNew := ⟨by decide, by decide⟩

/-! ### How many bytes -/
theorem takenN_app (a b : List ByteArray) : takenN (a ++ b) = takenN a + takenN b := by
  unfold takenN cat
  rw [List.flatMap_append, List.length_append, List.length_append]
  omega
theorem used_done (z : Nat) : ∀ (k : Nat) (cs : List (List ByteArray)), used (doneL z k cs) = 66 * cs.length + takenN cs.flatten
  | _, [] => by simp [doneL, used, takenN, cat]
  | k, c :: r => by
    have ih := used_done z (k + 1) r
    rw [doneL, used_cons, ih, List.flatten_cons, takenN_app, List.length_cons]
    show (doneB z k c).size + _ = _
    rw [doneB_size]
    omega
theorem taken_le (l : List ByteArray) (m : Nat) (h : ∀ s ∈ l, s.size ≤ m) : takenN l ≤ (m + 13) * l.length := by
  induction l with
  | nil => simp [takenN, cat]
  | cons s r ih =>
    have h1 := ih fun x hx => h x (by simp [hx])
    have h2 := h s (by simp)
    have e : takenN (s :: r) = takenN [s] + takenN r := takenN_app [s] r
    have e1 : takenN [s] = s.size + 13 := by simp [takenN, cat]
    rw [e, e1, List.length_cons, Nat.mul_succ]
    omega
end Go.Proofs.YtjjocnkockeacaaGreatDoor
