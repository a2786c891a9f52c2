/- Frames one behind the other, as texts. -/
import Derived.Test.YtmaainnfflapiaaFrm8
import Derived.Test.YtmaainnfflapiaaBook
namespace Go.Proofs.Ytmaainnfflapiaa
open Go.RowKit Go.Lib
set_option maxRecDepth 100000

def dat (l : List ByteArray) : List (List UInt8) := l.map fun s => s.data.toList
def frS (l : List ByteArray) : ByteArray := bytesT (frames (dat l))
theorem bytesT_toList (l : List UInt8) : (bytesT l).data.toList = l := by simp [bytesT]
theorem bytesT_size (l : List UInt8) : (bytesT l).size = l.length := by rw [← list_len, bytesT_toList]
theorem bytesT_data (s : ByteArray) : bytesT s.data.toList = s := by simp [bytesT]
theorem frS_toList (l : List ByteArray) : (frS l).data.toList = frames (dat l) := bytesT_toList _
theorem dat_len (l : List ByteArray) : (dat l).length = l.length := by simp [dat]
theorem dat_take (l : List ByteArray) (k : Nat) : dat (l.take k) = (dat l).take k := by simp [dat, List.map_take]
theorem frames_app (a b : List (List UInt8)) : frames (a ++ b) = frames a ++ frames b := by simp [frames]
theorem frames_len (l : List ByteArray) : (frames (dat l)).length = (cat l).length + 12 * l.length := by
  induction l with
  | nil => rfl
  | cons s l ih =>
    have h := frL_len s.data.toList
    have e1 : (frames (dat (s :: l))).length = (frL s.data.toList).length + (frames (dat l)).length := by simp [frames, dat]
    have e2 : (cat (s :: l)).length = s.data.toList.length + (cat l).length := by simp [cat]
    rw [e1, e2, ih, h, List.length_cons]
    omega
theorem frS_size (l : List ByteArray) : (frS l).size = (cat l).length + 12 * l.length := by unfold frS; rw [bytesT_size, frames_len]
theorem frS_nil : frS [] = ⟨#[]⟩ := rfl
theorem take_dat_snoc {l : List ByteArray} {k : Nat} (h : k < l.length) : frames (dat (l.take (k + 1))) = frames (dat (l.take k)) ++ frL l[k].data.toList := by
  rw [List.take_succ_eq_append_getElem h, show dat (l.take k ++ [l[k]]) = dat (l.take k) ++ [l[k].data.toList] by unfold dat; rw [List.map_append]; rfl, frames_app]
  show frames (dat (l.take k)) ++ (frL l[k].data.toList ++ []) = _
  rw [List.append_nil]
theorem frS_snoc {l : List ByteArray} {k : Nat} (h : k < l.length) (hz : l[k].size ≤ 4000) : frS (l.take k) ++ frB l[k] = frS (l.take (k + 1)) := by
  apply str_eq
  rw [take_dat_snoc h, ← (frB_ok hz).1, ← frS_toList (l.take k)]
  simp
theorem cat_take_le (l : List ByteArray) (k : Nat) : (cat (l.take k)).length ≤ (cat l).length := by
  conv => rhs; rw [← List.take_append_drop k l]
  unfold cat
  rw [List.flatMap_append, List.length_append]
  omega
theorem cat_get_le {l : List ByteArray} {k : Nat} (h : k < l.length) : (cat (l.take k)).length + l[k].size ≤ (cat l).length := by
  have := cat_take_le l (k + 1)
  rw [List.take_succ_eq_append_getElem h, cat_snoc, List.length_append, list_len] at this
  exact this
theorem get_le {l : List ByteArray} {k : Nat} (h : k < l.length) : l[k].size ≤ (cat l).length := by have := cat_get_le h; omega
theorem last_take {l : List ByteArray} {k : Nat} (h : k < l.length) (hz : l[k].size ≤ 4000) : lastOf (frS (l.take (k + 1))).data.toList = (l[k].data.toList, l[k].size + 12, 0) := by
  rw [frS_toList, take_dat_snoc h, last_frL _ _ (by rw [list_len]; exact hz), list_len]

theorem cut_take {l : List ByteArray} {k : Nat} (h : k < l.length) : (frS (l.take (k + 1))).extract 0 (frS (l.take k)).size = frS (l.take k) := by
  apply str_eq
  rw [extract_data, frS_toList, take_dat_snoc h, frS_size, ← frames_len]
  simp
theorem snoc_size {l : List ByteArray} {k : Nat} (h : k < l.length) : (frS (l.take (k + 1))).size = (frS (l.take k)).size + (l[k].size + 12) := by
  rw [frS_size, frS_size, List.take_succ_eq_append_getElem h, cat_snoc, List.length_append, List.length_append, list_len, List.length_singleton]
  omega

end Go.Proofs.Ytmaainnfflapiaa
