/- Frames that are cut; lists of texts whose first ones are taken; a row of texts as a list of texts. -/
import Derived.Test.YtmaainnfflapiaaFrs
import Derived.Test.YtmaainnfflapiaaBookb
import Derived.Laws.Slices
namespace Go.Proofs.Ytmaainnfflapiaa
open Go.RowKit Go.Lib Go.ChangeShapes Go.WideShapes
set_option maxRecDepth 100000

theorem all_cut (L : List (List UInt8)) (h : ∀ l ∈ L, l.length ≤ 4000) (n k : Nat) (hn : n ≤ L.length) (h1 : (frames (L.take n)).length ≤ k) (h2 : n < L.length → k < (frames (L.take (n + 1))).length) :
    allOf ((frames L).take k) = (L.take n, (frames (L.take n)).length) := by
  have e : (frames L).take k = frames (L.take n) ++ (frames (L.drop n)).take (k - (frames (L.take n)).length) := by
    conv => lhs; rw [← List.take_append_drop n L, frames_app]
    rw [List.take_append, List.take_of_length_le h1]
  have hs : (firstOf ((frames (L.drop n)).take (k - (frames (L.take n)).length))).2.2 ≠ 0 := by
    by_cases hlt : n < L.length
    · have h3 := h2 hlt
      rw [List.take_succ_eq_append_getElem hlt, frames_app, List.length_append] at h3
      have h4 : (frames [L[n]]).length = L[n].length + 12 := by
        show (frL L[n] ++ []).length = _
        rw [List.append_nil, frL_len]
      rw [List.drop_eq_getElem_cons hlt]
      show (firstOf ((frL L[n] ++ frames (L.drop (n + 1))).take _)).2.2 ≠ 0
      exact first_cut _ _ _ (h _ (List.getElem_mem hlt)) (by omega)
    · rw [List.drop_eq_nil_of_le (by omega)]
      simp [frames, firstOf]
  rw [e, all_frames _ _ (fun l hl => h l (List.mem_of_mem_take hl)), all_stop hs]
  simp
theorem frS_cut (l : List ByteArray) (h : ∀ s ∈ l, s.size ≤ 4000) (n k : Nat) (hn : n ≤ l.length) (h1 : (frS (l.take n)).size ≤ k) (h2 : n < l.length → k < (frS (l.take (n + 1))).size) :
    allOf ((frS l).extract 0 k).data.toList = (dat (l.take n), (frS (l.take n)).size) := by
  have z : ∀ m, (frS (l.take m)).size = (frames ((dat l).take m)).length := fun m => by rw [← dat_take, frS_size, frames_len]
  rw [z] at h1
  rw [z]
  rw [dat_take, extract_data, frS_toList]
  simp only [List.drop_zero, Nat.sub_zero]
  refine all_cut (dat l) ?_ n k (by rw [dat_len]; exact hn) h1 ?_
  · intro d hd
    obtain ⟨s, hs, rfl⟩ := List.mem_map.1 hd
    rw [list_len]
    exact h s hs
  · intro hlt
    rw [dat_len] at hlt
    have := h2 hlt
    rwa [z] at this

def StrsC (W : World) (v : Value) (l : List ByteArray) : Prop := Strs W v l ∧ ∀ x n c, v = .slice x n c → n ≤ c ∧ c ≤ maxLen
theorem strsc_of {H : Type} {enc : TypeId × Value → H} {W : World} {a0 : Option Addr} {len0 cap0 fuel : Nat} {x : DataW H × List MemPlace} {cs : List Value} (hv : cs = [.slice a0 len0 cap0])
    (hf : DataW.trod enc Try.prog W 0 (fun _ => true) true fuel 37 cs = some x) : ∃ l, StrsC W (.slice a0 len0 cap0) l := by
  obtain ⟨l, hl⟩ := strs_of hv hf
  refine ⟨l, hl, ?_⟩
  rintro y n c e
  cases e
  rcases open_strings Try.underlying37 Try.underlying9 cellsStrL hf with ⟨hcs, _⟩ | ⟨a, len, cap, zs, hcs, _, hl, hm, hz, _, hc, _⟩
  · rw [hv] at hcs
    simp at hcs
    omega
  · rw [hv] at hcs
    simp at hcs
    omega

def cutX (x : Option Addr) (c : Nat) : Option Addr := if c = 0 then x else x.map (·.add (0 * 1))
theorem cutX_eq (x : Option Addr) (c : Nat) : cutX x c = x := by
  unfold cutX
  split
  · rfl
  · cases x with
    | none => rfl
    | some a => simp [Addr.add]
theorem slice_texts (x : Option Addr) (len c n : Nat) (h2 : n ≤ c) : ∀ w, (Instr.slice 37 (.slice x len c) none (some (.int .i64 (n : Int))) none).run Try.prog w = .ok (.slice x n c) w := fun w => by
  conv => rhs; rw [← cutX_eq x c]
  rw [run_slice_h (P := Try.prog) w 37 x len c (by kernel_rfl) .i64 n (by omega) (by omega)]
  have hz : (sizeOf (Try.prog.elem 37)).run Try.prog w = .ok 1 w := by kernel_rfl
  rw [hz]
  have h1 : ((n : Int)).toNat = n := by omega
  simp [Result.andThen, sliced, h1, cutX]
theorem TextsX.cut {w : World} {x : Option Addr} {l : List ByteArray} (h : TextsX w x l) (n : Nat) : TextsX w x (l.take n) := fun i hi => by
  rw [List.length_take] at hi
  obtain ⟨b, off, rfl, h2, h3⟩ := h i (by omega)
  exact ⟨b, off, rfl, by rw [List.getElem_take]; exact h2, by rw [List.getElem_take]; exact h3⟩

theorem texts_of_owns {w : World} {base : Nat} {v : Value} {L : List (List UInt8)} (h : w.ownsRow base tStr 1 v L.length (txtCells L)) (hz : ∀ l ∈ L, l.length ≤ maxLen) :
    ∃ x c, v = .slice x L.length c ∧ TextsX w x (L.map bytesT) ∧ L.length ≤ maxLen := by
  have hh := h
  rcases h.2 with ⟨rfl, h0⟩ | ⟨g, cap, cur, rfl, hb, _, hc, hm, _⟩
  · rw [h0]
    exact ⟨none, 0, rfl, fun i hi => by rw [List.length_map] at hi; omega, by decide⟩
  · refine ⟨some ⟨g, 0, none⟩, cap, rfl, fun i hi => ?_, by omega⟩
    rw [List.length_map] at hi
    refine ⟨g, 0, rfl, ?_, by rw [List.getElem_map, bytesT_size]; exact hz _ (List.getElem_mem hi)⟩
    have := hh.cells (g := g) rfl i (.string (bytesT L[i])) (by simp [txtCells, hi])
    rw [show (⟨g, 0, none⟩ : Addr).add i = ⟨g, i, none⟩ from by unfold Addr.add; split <;> simp_all] at this
    rw [Nat.zero_add, List.getElem_map]
    exact this
theorem dat_back (l : List ByteArray) : (dat l).map bytesT = l := by
  unfold dat
  rw [List.map_map]
  conv => rhs; rw [← List.map_id l]
  exact List.map_congr_left fun s _ => bytesT_data s
end Go.Proofs.Ytmaainnfflapiaa
